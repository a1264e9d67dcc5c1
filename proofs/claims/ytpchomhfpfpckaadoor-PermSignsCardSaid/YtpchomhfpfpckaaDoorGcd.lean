/- perm.gcd. -/
import Derived.Test.YtpchomhfpfpckaaDoorBase
import Derived.Deep.QuietTactic
import Derived.BigQuiet
namespace Go.Proofs.YtpchomhfpfpckaaDoor
open Go Go.RowKit

set_option maxRecDepth 100000 in
set_option maxHeartbeats 400000 in
theorem gcd_any (a b : Nat) (w : World) (ha : a ≤ 4611686018427387904) (hb : b ≤ 4611686018427387904) :
    Calls Tryd.prog 75 #[.int .i64 a, .int .i64 b] w fun e w' => e = .returned (.int .i64 (Nat.gcd a b)) ∧ ∃ n, w' = w.drewN n := by
  go_enter Tryd.func75, Tryd.ntmps75
  go_wp2
  go_loopw [0, 1] (fun x y wr => ∃ p q k : Nat, x = .int .i64 p ∧ y = .int .i64 q ∧ Hid (Nat.gcd p q = Nat.gcd a b) ∧ p ≤ 4611686018427387904 ∧ q ≤ 4611686018427387904 ∧ wr = w.drewN k) (fun _ y _ => (intOf y).toNat)
  case atStart => exact ⟨a, b, 0, rfl, rfl, rfl, ha, hb, rfl⟩
  case round =>
    obtain ⟨p, q, k, rfl, rfl, hG, hp, hq, rfl⟩ := hrel
    by_cases h0 : q = 0
    · subst h0
      have HG : Hid (p = Nat.gcd a b) := by have := hG.out; rw [Nat.gcd_zero_right] at this; exact this
      clear hG
      go_wp2
      go_ret
      exact ⟨ret_int (by rw [← HG.out]), k, rfl⟩
    · have hne : ((q : Int) != 0) = true := by simp; omega
      have hm : p % q < q := Nat.mod_lt _ (by omega)
      have HM : Hid (Nat.gcd q (p % q) = Nat.gcd a b) := by
        have h : Nat.gcd q (p % q) = Nat.gcd a b := by rw [← hG.out, Nat.gcd_comm p q, Nat.gcd_rec q p, Nat.gcd_comm]
        exact h
      clear hG
      go_wp2
      go_quiet (fail)
      go_wp2
      go_roundw
      case rel => exact ⟨q, p % q, _, rfl, by simp, HM, hq, by omega, World.drewN_drewN _ _ _⟩
      case measure => simp [intOf]; omega
end Go.Proofs.YtpchomhfpfpckaaDoor

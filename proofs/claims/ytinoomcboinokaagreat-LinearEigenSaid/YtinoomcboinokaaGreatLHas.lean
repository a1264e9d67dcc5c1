/- cayleykit.Has of ints. -/
import Derived.Test.YtinoomcboinokaaGreatLKit
namespace Go.Proofs.YtinoomcboinokaaGreat
open Go Go.RowKit Num

/-- Some of the first n is x. -/
def hasB (n : Nat) (f : Nat → Int) (x : Int) : Bool := decide (∃ i, i < n ∧ f i = x)
set_option maxRecDepth 100000 in
set_option maxHeartbeats 1000000 in
theorem has_any (v : Value) (n : Nat) (f : Nat → Int) (x : Int) (S : Nat → Prop) (w : World) (hn : n ≤ 1000000) (hv : Vec w S v n f) :
    Calls Tryz.prog 10 #[v, .int .i64 x] w fun e w' => e = .returned (.bool (hasB n f x)) ∧ ∃ k, w' = w.drewN k := by
  obtain ⟨A, c, rfl, hcA, hA⟩ := hv
  have HA := Lib.hid hA
  obtain ⟨z, hz⟩ : ∃ z, hasB n f x = z := ⟨_, rfl⟩
  rw [hz]
  have HZ := Lib.hid hz
  clear hz
  clear hA
  go_enter Tryz.func10, Tryz.ntmps10
  go_wp2
  go_loopw [5] (fun i wr => ∃ j : Nat, i = .int .i64 j ∧ j ≤ n ∧ (∀ a, a < j → f a ≠ x) ∧ ∃ k, wr = w.drewN k) (fun i _ => n - (intOf i).toNat)
  case atStart => exact ⟨0, rfl, Nat.zero_le _, fun a h => absurd h (by omega), 0, rfl⟩
  case round =>
    obtain ⟨j, rfl, hj, hno, k, rfl⟩ := hrel
    have HNO := Lib.hid hno
    clear hno
    by_cases hlt : j < n
    · obtain ⟨b, o, rfl, -, hc⟩ := HA.out (by omega)
      have h1 : (w.drewN k).cell? ⟨b, o + j, none⟩ = some (.int .i64 (f j)) := hc j hlt
      have d1 : (0 : Int) ≤ j := by omega
      have d2 : (j : Int) < (n : Int) := by omega
      clear hc
      by_cases he : f j = x
      · have hz : z = true := by rw [← HZ.out]; exact decide_eq_true ⟨j, hlt, he⟩
        rw [he] at h1
        subst hz
        clear he
        go_wp2
        go_ret
        exact ⟨rfl, _, rfl⟩
      · have hb : (f j == x) = false := by simp [he]
        have HN2 := Lib.hid (show ∀ a, a < j + 1 → f a ≠ x from fun a ha => by
          by_cases e : a = j
          · rw [e]; exact he
          · exact HNO.out a (by omega))
        generalize f j = y at h1 hb
        clear he
        go_wp2
        go_roundw
        case rel => exact ⟨j + 1, by go_num, by omega, HN2.out, _, rfl⟩
        case measure => simp [intOf]; omega
    · obtain rfl : n = j := by omega
      have hz : z = false := by rw [← HZ.out]; exact decide_eq_false (fun ⟨i, h1, h2⟩ => HNO.out i h1 h2)
      subst hz
      go_wp2
      go_ret
      exact ⟨rfl, _, rfl⟩
end Go.Proofs.YtinoomcboinokaaGreat

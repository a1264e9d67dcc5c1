/- slices.Equal at slices of ints; period. -/
import Derived.Test.YtokiejichnnmnaaMPow
import Derived.Test.YtokiejichnnmnaaMTimes
import Derived.Deep.QuietTactic
import Derived.BigQuiet
namespace Go.Proofs.Ytokiejichnnmnaa
open Go Go.RowKit Num

def eqB (n : Nat) (f g : Nat → Int) : Bool := decide (∀ j, j < n → f j = g j)

set_option maxRecDepth 100000 in
set_option maxHeartbeats 1000000 in
theorem equal_any (v u : Value) (n : Nat) (f g : Nat → Int) (w : World) (S S' : Nat → Prop) (hn : n ≤ 1000000) (hv : Vec w S v n f) (hu : Vec w S' u n g) :
    Calls Try.prog 162 #[v, u] w fun e w' => e = .returned (.bool (eqB n f g)) ∧ ∃ n, w' = w.drewN n := by
  obtain ⟨A, c, rfl, hcA, hA⟩ := hv
  obtain ⟨B, d, rfl, hcB, hB⟩ := hu
  have HA := Lib.hid hA
  have HB := Lib.hid hB
  clear hA hB
  go_enter Try.func162, Try.ntmps162
  go_wp2
  go_loopw [13] (fun t wr => ∃ i k : Nat, t = .int .i64 i ∧ i ≤ n ∧ wr = w.drewN k ∧ Hid (∀ j, j < i → f j = g j)) (fun t _ => n - (intOf t).toNat)
  case atStart => exact ⟨0, 0, rfl, Nat.zero_le _, rfl, Lib.hid fun j h => by omega⟩
  case round =>
    obtain ⟨i, k, rfl, hi, rfl, HE⟩ := hrel
    by_cases hlt : i < n
    · obtain ⟨b1, o1, rfl, _, h1⟩ := HA.out (by omega)
      obtain ⟨b2, o2, rfl, _, h2⟩ := HB.out (by omega)
      have k1 := h1 i hlt
      have k2 := h2 i hlt
      have d1 : decide (i < n) = true := decide_eq_true hlt
      have d2 : (0 : Int) ≤ i := by omega
      have d3 : (i : Int) < (n : Int) := by omega
      clear h1 h2
      by_cases he : f i = g i
      · have HE2 := Lib.hid (fun j (hj : j < i + 1) => (by
          by_cases e : j = i
          · subst e; exact he
          · exact HE.out j (by omega) : f j = g j))
        have hd : (f i != g i) = false := by simp [he]
        generalize f i = x at k1 hd
        generalize g i = y at k2 hd
        clear he
        go_wp2
        go_quiet (fail)
        go_wp2
        go_roundw
        case rel => exact ⟨i + 1, _, by go_num, by omega, rfl, HE2⟩
        case measure => simp [intOf]; omega
      · have HR := Lib.hid (show eqB n f g = false from decide_eq_false fun h => he (h i hlt))
        have hd : (f i != g i) = true := by simp [he]
        generalize f i = x at k1 hd
        generalize g i = y at k2 hd
        clear he
        go_wp2
        go_quiet (fail)
        go_wp2
        go_ret
        exact ⟨by rw [HR.out]; rfl, by rw [World.drewN_drewN]; exact ⟨_, rfl⟩⟩
    · have d1 : decide (i < n) = false := decide_eq_false hlt
      have HR := Lib.hid (show eqB n f g = true from decide_eq_true fun j hj => HE.out j (by omega))
      go_wp2
      go_ret
      exact ⟨by rw [HR.out]; rfl, ⟨_, rfl⟩⟩
end Go.Proofs.Ytokiejichnnmnaa

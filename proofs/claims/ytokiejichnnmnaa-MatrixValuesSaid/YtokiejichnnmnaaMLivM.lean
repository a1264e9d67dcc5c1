/- The numbers of the examples; the primes of the selection. -/
import Derived.Test.YtokiejichnnmnaaMSame
import Derived.Test.YtokiejichnnmnaaMOrd
import Derived.Test.YtokiejichnnmnaaMMulQ
import Derived.Test.YtokiejichnnmnaaMInv
namespace Go.Proofs.Ytokiejichnnmnaa
open Go Go.RowKit Num

def noDiv (n d : Nat) : Bool := (List.range d).all fun e => e < 2 || n % e != 0
theorem pr_check {n : Nat} (d : Nat) (h2 : 2 ≤ n) (h : noDiv n d = true) (hd : n < d * d) : Pr n := by
  refine pr_iff_least.2 (least_self h2 (fun e he hed hdv => ?_) hd)
  have := List.all_eq_true.1 h e (List.mem_range.2 hed)
  simp at this
  rcases this with h | h
  · omega
  · exact h (Nat.mod_eq_zero_of_dvd hdv)
theorem modB_check {n : Nat} (d : Nat) (h2 : 2 ≤ n) (hl : n < 10000) (h : noDiv n d = true) (hd : n < d * d) : modB (n : Int) = true := by
  unfold modB
  rw [Bool.and_eq_true]
  exact ⟨decide_eq_true (by omega), isP_true.2 ⟨by omega, by omega, pr_check d h2 h hd⟩⟩
/-- A full matrix of small entries passes. -/
theorem chkM_full {p : Nat} {m n : Nat} {f : Nat → Nat → Int} (hp : modB (p : Int) = true) (hm0 : 1 ≤ m) (hm : m ≤ 64) (hn0 : 1 ≤ n) (hn : n ≤ 64) (hf : InG (p : Int) m n f) : chkM (p : Int) m (fun _ => n) f = 0 :=
  chkM_ok hp (by omega) fun i hi => ⟨rfl, fun j hj => hf i hi j hj⟩
def M2 (a b c d : Int) (i j : Nat) : Int := if i = 0 then (if j = 0 then a else b) else (if j = 0 then c else d)
theorem mod5 : modB ((5 : Nat) : Int) = true := modB_check 3 (by decide +kernel) (by decide +kernel) (by decide +kernel) (by decide +kernel)
theorem M2_in {a b c d : Int} (h : 0 ≤ a ∧ a < 5 ∧ 0 ≤ b ∧ b < 5 ∧ 0 ≤ c ∧ c < 5 ∧ 0 ≤ d ∧ d < 5) : InG 5 2 2 (M2 a b c d) := fun i _ j _ => by
  unfold M2
  split <;> split <;> omega
theorem liv_c1 : chkM 5 2 (fun _ => 2) (M2 1 2 3 4) = 0 := chkM_full (p := 5) mod5 (by omega) (by omega) (by omega) (by omega) (M2_in (by omega))
theorem liv_c2 : chkM 5 2 (fun _ => 2) (M2 0 1 1 0) = 0 := chkM_full (p := 5) mod5 (by omega) (by omega) (by omega) (by omega) (M2_in (by omega))
theorem liv_d : detV 5 2 (M2 1 2 3 4) = 3 := by decide +kernel
theorem liv_d2 : detV 5 2 (augF 2 (M2 1 2 3 4)) ≠ 0 := by decide +kernel
theorem liv_m : gridB 2 (fun _ => 2) (mulF 5 2 (M2 1 2 3 4) (M2 0 1 1 0)) (M2 2 1 4 3) = true := by decide +kernel
theorem liv_i : gridB 2 (fun _ => 2) (invF 5 2 (M2 1 2 3 4)) (M2 3 1 4 2) = true := by decide +kernel
theorem liv_o : ordV 5 2 (M2 1 2 3 4) 0 = (8, 0) := by decide +kernel
end Go.Proofs.Ytokiejichnnmnaa

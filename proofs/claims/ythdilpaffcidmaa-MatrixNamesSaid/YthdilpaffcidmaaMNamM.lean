/- The numbers of the law MatrixNames. Mathematics alone. -/
import Derived.Test.YthdilpaffcidmaaMPolyM
import Derived.Test.YthdilpaffcidmaaMPerm
namespace Go.Proofs.Ythdilpaffcidmaa
open Go Go.RowKit Num

/-- The order of 1 1, 0 1 modulo 9,973. -/
theorem big_it (k : Nat) : itV 9973 2 (M2 1 1 0 1) (oneF 0) k 0 = 1 ∧ itV 9973 2 (M2 1 1 0 1) (oneF 0) k 1 = (k : Int) % 9973 := by
  induction k with
  | zero => exact ⟨rfl, rfl⟩
  | succ k ih =>
    refine ⟨?_, ?_⟩
    · show (0 + itV 9973 2 (M2 1 1 0 1) (oneF 0) k 0 * M2 1 1 0 1 0 0 + itV 9973 2 (M2 1 1 0 1) (oneF 0) k 1 * M2 1 1 0 1 1 0) % 9973 = 1
      rw [ih.1, show M2 1 1 0 1 0 0 = 1 from rfl, show M2 1 1 0 1 1 0 = 0 from rfl]
      simp
    · show (0 + itV 9973 2 (M2 1 1 0 1) (oneF 0) k 0 * M2 1 1 0 1 0 1 + itV 9973 2 (M2 1 1 0 1) (oneF 0) k 1 * M2 1 1 0 1 1 1) % 9973 = ((k + 1 : Nat) : Int) % 9973
      rw [ih.1, ih.2, show M2 1 1 0 1 0 1 = 1 from rfl, show M2 1 1 0 1 1 1 = 1 from rfl]
      omega
theorem big_per : ∀ fuel k, 1 ≤ k → k ≤ 9973 → 9973 < k + fuel → perGo 9973 2 (M2 1 1 0 1) (oneF 0) fuel k = 9973
  | 0, k, _, h1, h2 => by omega
  | fuel + 1, k, h0, h1, h2 => by
    unfold perGo
    have hk := big_it k
    by_cases e : k = 9973
    · subst e
      have he : eqB 2 (itV 9973 2 (M2 1 1 0 1) (oneF 0) 9973) (oneF 0) = true := decide_eq_true fun j hj => by
        rcases (by omega : j = 0 ∨ j = 1) with rfl | rfl
        · rw [hk.1]; rfl
        · rw [hk.2]; rfl
      rw [if_pos he]
    · rw [if_neg (by
        intro h
        have := of_decide_eq_true h 1 (by omega)
        rw [hk.2] at this
        have h2 : oneF 0 1 = 0 := rfl
        rw [h2] at this
        omega)]
      exact big_per fuel (k + 1) (by omega) (by omega) (by omega)
/-- The last row is that of the identity. -/
def LastOne (F : Nat → Nat → Int) : Prop := F 1 0 = 0 ∧ F 1 1 = 1
theorem LastOne.mul {F G : Nat → Nat → Int} (h : LastOne F) (k : LastOne G) : LastOne (mulF 9973 2 F G) := by
  constructor
  · show (0 + F 1 0 * G 0 0 + F 1 1 * G 1 0) % 9973 = 0
    rw [h.1, h.2, k.1]; simp
  · show (0 + F 1 0 * G 0 1 + F 1 1 * G 1 1) % 9973 = 1
    rw [h.1, h.2, k.2]; simp
theorem LastOne.pw : ∀ (k : Nat) (r s : Nat → Nat → Int) (n : Nat), LastOne r → LastOne s → LastOne (pwGo 9973 2 k r s n)
  | 0, _, _, _, h, _ => h
  | k + 1, r, s, n, h, g => by
    unfold pwGo
    split
    · split
      · exact h.mul g
      · exact h
    · split
      · exact LastOne.pw k _ _ _ (h.mul g) (g.mul g)
      · exact LastOne.pw k _ _ _ h (g.mul g)
theorem big_det : detV 9973 2 (M2 1 1 0 1) = 1 := by decide +kernel
theorem big_ord : ordV 9973 2 (M2 1 1 0 1) 0 = (9973, 0) := by
  unfold ordV
  rw [if_neg (by decide), if_neg (by rw [big_det]; decide)]
  have h1 := big_per (10000 / 1) 1 (by omega) (by omega) (by omega)
  have h3 : perGo 9973 2 (powF 9973 2 9973 (M2 1 1 0 1)) (oneF 1) (10000 / 9973) 1 = 1 := by
    have h2 : LastOne (powF 9973 2 9973 (M2 1 1 0 1)) := LastOne.pw 64 _ _ _ ⟨rfl, rfl⟩ ⟨rfl, rfl⟩
    show (if eqB 2 (itV 9973 2 (powF 9973 2 9973 (M2 1 1 0 1)) (oneF 1) 1) (oneF 1) then 1 else _) = 1
    have he : eqB 2 (itV 9973 2 (powF 9973 2 9973 (M2 1 1 0 1)) (oneF 1) 1) (oneF 1) = true := decide_eq_true fun j hj => by
      rcases (by omega : j = 0 ∨ j = 1) with rfl | rfl
      · show (0 + oneF 1 0 * powF 9973 2 9973 (M2 1 1 0 1) 0 0 + oneF 1 1 * powF 9973 2 9973 (M2 1 1 0 1) 1 0) % 9973 = 0
        rw [h2.1, show oneF 1 0 = 0 from rfl]; simp
      · show (0 + oneF 1 0 * powF 9973 2 9973 (M2 1 1 0 1) 0 1 + oneF 1 1 * powF 9973 2 9973 (M2 1 1 0 1) 1 1) % 9973 = 1
        rw [h2.2, show oneF 1 0 = 0 from rfl, show oneF 1 1 = 1 from rfl]; simp
    rw [if_pos he]
  show (if perGo 9973 2 (M2 1 1 0 1) (oneF 0) (10000 / 1) 1 = 0 then (0, 5) else ordGo 9973 2 1 1 (1 * perGo 9973 2 (M2 1 1 0 1) (oneF 0) (10000 / 1) 1) (powF 9973 2 (perGo 9973 2 (M2 1 1 0 1) (oneF 0) (10000 / 1) 1) (M2 1 1 0 1))) = (9973, 0)
  rw [h1, if_neg (by omega), Nat.one_mul]
  show (if perGo 9973 2 (powF 9973 2 9973 (M2 1 1 0 1)) (oneF 1) (10000 / 9973) 1 = 0 then (0, 5) else ordGo 9973 2 0 2 (9973 * perGo 9973 2 (powF 9973 2 9973 (M2 1 1 0 1)) (oneF 1) (10000 / 9973) 1) _) = (9973, 0)
  rw [h3]
  rfl
theorem big_mod : modB ((9973 : Nat) : Int) = true := modB_check 100 (by decide +kernel) (by decide +kernel) (by decide +kernel) (by decide +kernel)
theorem big_in : InG (9973 : Nat) 2 2 (M2 1 1 0 1) := fun i _ j _ => by
  unfold M2
  split <;> split <;> omega
def V2 (a b : Int) (j : Nat) : Int := if j = 0 then a else b
def V3 (a b c : Int) (j : Nat) : Int := if j = 0 then a else if j = 1 then b else c
def V7 (j : Nat) : Int := [0, 5, 10, 15, 20, 1, 6].getD j 0
theorem nam_add : gridB 2 (fun _ => 2) (fun i => axpy 1 5 (M2 1 2 3 4 i) (M2 0 1 1 0 i)) (M2 1 3 4 4) = true := by decide +kernel
theorem nam_scale : gridB 2 (fun _ => 2) (fun i => axpy (resV (-1) 5 : Nat) 5 (fun _ => 0) (M2 1 2 3 4 i)) (M2 4 3 2 1) = true := by decide +kernel
theorem nam_turn : gridB 2 (fun _ => 2) (fun i j => M2 1 2 3 4 j i) (M2 1 3 2 4) = true := by decide +kernel
theorem nam_apply : eqB 2 (fun j => dotTo (fun i => (resV (V2 1 6 i) (5 : Int).toNat : Nat)) (M2 1 2 3 4) j 2 % 5) (V2 4 1) = true := by decide +kernel
theorem nam_trace : trS (M2 1 2 3 4) 2 % (5 : Nat) = (0 : Nat) := by decide +kernel
theorem nam_poly : eqB 3 (polyF (5 : Nat) (M2 1 2 3 4) 2) (V3 3 0 1) = true := by decide +kernel
theorem nam_pow2 : gridB 2 (fun _ => 2) (powZ (5 : Nat) 2 (M2 1 2 3 4) 2) (M2 2 0 0 2) = true := by decide +kernel
theorem nam_pow0 : gridB 2 (fun _ => 2) (powZ (5 : Nat) 2 (M2 1 2 3 4) 0) (M2 1 0 0 1) = true := by decide +kernel
theorem nam_det : detV (5 : Nat) 2 (M2 1 2 3 4) ≠ 0 := by decide +kernel
theorem nam_sing : detV (5 : Nat) 2 (M2 1 2 2 4) = 0 := by decide +kernel
theorem nam_ord : ordV (5 : Nat) 2 (M2 0 1 1 0) 0 = (2, 0) := by decide +kernel
theorem nam_detb : detV (5 : Nat) 2 (M2 0 1 1 0) ≠ 0 := by decide +kernel
theorem nam_perm : eqB 7 (permF 5 2 (M2 0 1 1 0)) V7 = true := by decide +kernel
theorem nam_det61 : detV (61 : Nat) 1 (fun _ _ => 60) ≠ 0 := by decide +kernel
theorem nam_perm61 : permF 61 1 (fun _ _ => 60) 1 = 60 := by decide +kernel
theorem nam_mod61 : modB ((61 : Nat) : Int) = true := modB_check 8 (by decide +kernel) (by decide +kernel) (by decide +kernel) (by decide +kernel)
theorem nam_mod3 : modB ((3 : Nat) : Int) = true := modB_check 2 (by decide +kernel) (by decide +kernel) (by decide +kernel) (by decide +kernel)
theorem nam_mod2 : modB ((2 : Nat) : Int) = true := modB_check 2 (by decide +kernel) (by decide +kernel) (by decide +kernel) (by decide +kernel)
theorem nam_mod10007 : modB 10007 = false := by
  unfold modB
  rw [decide_eq_false (by decide), Bool.false_and]
theorem nam_mod4 : modB 4 = false := by
  cases h : modB 4 with
  | false => rfl
  | true =>
    obtain ⟨_, _, h3⟩ := modB_true h
    have h4 : (4 : Int).toNat = 4 := rfl
    rw [h4] at h3
    have := h3.1.2 2 ⟨2, rfl⟩
    omega
end Go.Proofs.Ythdilpaffcidmaa

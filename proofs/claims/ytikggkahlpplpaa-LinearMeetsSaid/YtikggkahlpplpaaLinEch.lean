/- MATHEMATICS: reduced rows kept by their pivots, modulo a number; what a span has for coefficients; two reduced bases of one span are the same. -/
import Derived.Test.YtikggkahlpplpaaMFound
namespace Go.Proofs.Ytikggkahlpplpaa

/-- f 0 + .. + f (n-1). -/
def sm (f : Nat → Int) : Nat → Int
  | 0 => 0
  | n + 1 => sm f n + f n
theorem sm_congr {f g : Nat → Int} : ∀ {n}, (∀ i, i < n → f i = g i) → sm f n = sm g n
  | 0, _ => rfl
  | n + 1, h => by
    have ih := sm_congr (n := n) (fun i hi => h i (by omega))
    simp only [sm, ih, h n (by omega)]
theorem sm_zero {f : Nat → Int} : ∀ {n}, (∀ i, i < n → f i = 0) → sm f n = 0
  | 0, _ => rfl
  | n + 1, h => by simp only [sm, sm_zero (n := n) (fun i hi => h i (by omega)), h n (by omega)]; rfl
theorem sm_one {f : Nat → Int} {k : Nat} : ∀ {n}, k < n → (∀ i, i < n → i ≠ k → f i = 0) → sm f n = f k
  | 0, hk, _ => absurd hk (by omega)
  | n + 1, hk, h => by
    by_cases e : k = n
    · subst e
      rw [sm, sm_zero (n := k) (fun i hi => h i (by omega) (by omega)), Int.zero_add]
    · rw [sm, sm_one (n := n) (by omega) (fun i hi hne => h i (by omega) hne), h n (by omega) (fun e' => e e'.symm), Int.add_zero]
theorem sm_dvd {p : Int} {f : Nat → Int} : ∀ {n}, (∀ i, i < n → p ∣ f i) → p ∣ sm f n
  | 0, _ => ⟨0, by simp [sm]⟩
  | n + 1, h => by
    rw [sm]
    exact Int.dvd_add (sm_dvd (n := n) fun i hi => h i (by omega)) (h n (by omega))
theorem sm_sub (f g : Nat → Int) : ∀ n, sm f n - sm g n = sm (fun i => f i - g i) n
  | 0 => rfl
  | n + 1 => by
    have := sm_sub f g n
    simp only [sm]
    omega

/-- Rows by pivots below W: each is 0 before its pivot, 1 there, 0 at the pivots of the others; its entries are residues. -/
structure Ech (p : Int) (W : Nat) (R : Nat → Option (Nat → Int)) : Prop where
  below : ∀ j r, R j = some r → j < W
  one : ∀ j r, R j = some r → r j = 1
  lead : ∀ j r i, R j = some r → i < j → r i = 0
  other : ∀ j r k, R j = some r → (R k).isSome → k ≠ j → r k = 0
  low : ∀ j r i, R j = some r → 0 ≤ r i ∧ r i < p
/-- The row of a pivot, or zero. -/
def rowAt (R : Nat → Option (Nat → Int)) (j i : Nat) : Int := match R j with
  | some r => r i
  | none => 0
theorem rowAt_some {R : Nat → Option (Nat → Int)} {j : Nat} {r : Nat → Int} (h : R j = some r) (i : Nat) : rowAt R j i = r i := by unfold rowAt; rw [h]
theorem rowAt_none {R : Nat → Option (Nat → Int)} {j : Nat} (h : R j = none) (i : Nat) : rowAt R j i = 0 := by unfold rowAt; rw [h]
/-- v is a combination of the rows, modulo p. -/
def InR (p : Int) (W : Nat) (R : Nat → Option (Nat → Int)) (v : Nat → Int) : Prop := ∃ c : Nat → Int, ∀ i, p ∣ v i - sm (fun j => c j * rowAt R j i) W
/-- The coefficients are the entries at the pivots. -/
theorem InR.coef {p : Int} {W : Nat} {R : Nat → Option (Nat → Int)} {v : Nat → Int} (hE : Ech p W R) (h : InR p W R v) (i : Nat) : p ∣ v i - sm (fun j => v j * rowAt R j i) W := by
  obtain ⟨c, hc⟩ := h
  have h1 : p ∣ sm (fun j => c j * rowAt R j i) W - sm (fun j => v j * rowAt R j i) W := by
    rw [sm_sub]
    refine sm_dvd fun j hj => ?_
    cases hR : R j with
    | none => rw [rowAt_none hR, Int.mul_zero, Int.mul_zero]; exact ⟨0, by simp⟩
    | some r =>
      have h2 : sm (fun k => c k * rowAt R k j) W = c j := by
        rw [sm_one (k := j) hj fun k hk hne => ?_]
        · show c j * rowAt R j j = c j
          rw [rowAt_some hR, hE.one j r hR, Int.mul_one]
        · show c k * rowAt R k j = 0
          cases hk2 : R k with
          | none => rw [rowAt_none hk2, Int.mul_zero]
          | some q => rw [rowAt_some hk2, hE.other k q j hk2 (by rw [hR]; rfl) (Ne.symm hne), Int.mul_zero]
      have h3 := hc j
      rw [h2] at h3
      have h4 : c j * rowAt R j i - v j * rowAt R j i = (v j - c j) * (- rowAt R j i) := by
        rw [Int.sub_mul, Int.mul_neg, Int.mul_neg]; omega
      show p ∣ c j * rowAt R j i - v j * rowAt R j i
      rw [h4]
      exact Int.dvd_mul_of_dvd_left h3
  have h5 := Int.dvd_add (hc i) h1
  have e : v i - sm (fun j => c j * rowAt R j i) W + (sm (fun j => c j * rowAt R j i) W - sm (fun j => v j * rowAt R j i) W) = v i - sm (fun j => v j * rowAt R j i) W := by omega
  rwa [e] at h5
/-- What is 0 at all pivots is 0. -/
theorem InR.zero {p : Int} {W : Nat} {R : Nat → Option (Nat → Int)} {v : Nat → Int} (hE : Ech p W R) (h : InR p W R v) {i : Nat} (hz : ∀ j, j ≤ i → (R j).isSome → p ∣ v j) : p ∣ v i := by
  have h1 := h.coef hE i
  have h2 : p ∣ sm (fun j => v j * rowAt R j i) W := sm_dvd fun j hj => by
    show p ∣ v j * rowAt R j i
    cases hR : R j with
    | none => rw [rowAt_none hR, Int.mul_zero]; exact ⟨0, by simp⟩
    | some r =>
      by_cases hji : j ≤ i
      · exact Int.dvd_mul_of_dvd_left (hz j hji (by rw [hR]; rfl))
      · rw [rowAt_some hR, hE.lead j r i hR (by omega), Int.mul_zero]; exact ⟨0, by simp⟩
  have h3 := Int.dvd_add h1 h2
  have e : v i - sm (fun j => v j * rowAt R j i) W + sm (fun j => v j * rowAt R j i) W = v i := by omega
  rwa [e] at h3
/-- A kept row is in the span. -/
theorem InR.row {p : Int} {W : Nat} {R : Nat → Option (Nat → Int)} (hE : Ech p W R) {j : Nat} {r : Nat → Int} (h : R j = some r) : InR p W R r := by
  refine ⟨fun k => if k = j then 1 else 0, fun i => ?_⟩
  rw [sm_one (k := j) (hE.below j r h) fun k _ hne => by
    show (if k = j then (1 : Int) else 0) * rowAt R k i = 0
    rw [if_neg hne, Int.zero_mul]]
  show p ∣ r i - (if j = j then (1 : Int) else 0) * rowAt R j i
  rw [if_pos rfl, Int.one_mul, rowAt_some h, Int.sub_self]
  exact ⟨0, by simp⟩
/-- A pivot of one is a pivot of the other, if the span of the one lies in that of the other. -/
theorem Ech.pivot {p : Int} (hp : 1 < p) {W W' : Nat} {R R' : Nat → Option (Nat → Int)} (hE : Ech p W R) (hE' : Ech p W' R') (hs : ∀ v, InR p W R v → InR p W' R' v) {j : Nat} (hj : (R j).isSome) : (R' j).isSome := by
  cases hR : R j with
  | none => rw [hR] at hj; cases hj
  | some r =>
    have h1 := hs r (InR.row hE hR)
    cases hR' : R' j with
    | some _ => rfl
    | none =>
      exfalso
      have h2 : p ∣ r j := h1.zero hE' (i := j) fun k hk hks => by
        by_cases e : k = j
        · subst e; rw [hR'] at hks; cases hks
        · rw [hE.lead j r k hR (by omega)]; exact ⟨0, by simp⟩
      rw [hE.one j r hR] at h2
      have := Int.le_of_dvd (by omega) h2
      omega
/-- THE REDUCED BASIS OF A SPAN IS ONE. -/
theorem Ech.unique {p : Int} (hp : 1 < p) {W W' : Nat} {R R' : Nat → Option (Nat → Int)} (hE : Ech p W R) (hE' : Ech p W' R') (hs : ∀ v, InR p W R v ↔ InR p W' R' v) : R = R' := by
  funext j
  cases hR : R j with
  | none =>
    cases hR' : R' j with
    | none => rfl
    | some r' =>
      have := Ech.pivot hp hE' hE (fun v => (hs v).2) (j := j) (by rw [hR']; rfl)
      rw [hR] at this; cases this
  | some r =>
    have hp' := Ech.pivot hp hE hE' (fun v => (hs v).1) (j := j) (by rw [hR]; rfl)
    cases hR' : R' j with
    | none => rw [hR'] at hp'; cases hp'
    | some r' =>
      congr 1
      funext i
      have h1 := ((hs r).1 (InR.row hE hR)).coef hE' i
      have h2 : sm (fun k => r k * rowAt R' k i) W' = r' i := by
        rw [sm_one (k := j) (hE'.below j r' hR') fun k _ hne => ?_]
        · show r j * rowAt R' j i = r' i
          rw [hE.one j r hR, Int.one_mul, rowAt_some hR']
        · show r k * rowAt R' k i = 0
          cases hk : R' k with
          | none => rw [rowAt_none hk, Int.mul_zero]
          | some q =>
            have h3 := Ech.pivot hp hE' hE (fun v => (hs v).2) (j := k) (by rw [hk]; rfl)
            rw [hE.other j r k hR h3 hne, Int.zero_mul]
      rw [h2] at h1
      have a := hE.low j r i hR
      have b := hE'.low j r' i hR'
      obtain ⟨t, ht⟩ := h1
      have ht0 : t = 0 := by
        rcases Int.lt_trichotomy t 0 with h | h | h
        · have := Int.mul_le_mul_of_nonneg_left (show t ≤ -1 by omega) (show 0 ≤ p by omega)
          rw [Int.mul_neg, Int.mul_one] at this
          omega
        · exact h
        · have := Int.mul_le_mul_of_nonneg_left (show 1 ≤ t by omega) (show 0 ≤ p by omega)
          rw [Int.mul_one] at this
          omega
      rw [ht0, Int.mul_zero] at ht
      omega
end Go.Proofs.Ytikggkahlpplpaa

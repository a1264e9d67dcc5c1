/- LinA, LPivM, joined. -/
import Derived.Test.YtinoomcboinokaaGreatMFound

/- LinEch, LinKeep, LinElim, LinSpan, LinDim, LinAfter, joined. -/
/- MATHEMATICS: reduced rows kept by their pivots, modulo a number; what a span has for coefficients; two reduced bases of one span are the same. -/
namespace Go.Proofs.YtinoomcboinokaaGreat

/-- f 0 + .. + f (n-1). -/
def sm (f : Nat → Int) : Nat → Int
  | 0 => 0
  | n + 1 => sm f n + f n
theorem sm_congr {f g : Nat → Int} : ∀ {n}, (∀ i, i < n → f i = g i) → sm f n = sm g n
  | 0, _ => rfl
  | n + 1, h => by
    have ih := sm_congr (n := n) (fun i hi => h i (by omega))
    simp only [sm, ih, h n (by omega)]
theorem sm_zero {f : Nat → Int} : ∀ {n}, (∀ i, i < n → f i = 0) → sm f n = 0
  | 0, _ => rfl
  | n + 1, h => by simp only [sm, sm_zero (n := n) (fun i hi => h i (by omega)), h n (by omega)]; rfl
theorem sm_one {f : Nat → Int} {k : Nat} : ∀ {n}, k < n → (∀ i, i < n → i ≠ k → f i = 0) → sm f n = f k
  | 0, hk, _ => absurd hk (by omega)
  | n + 1, hk, h => by
    by_cases e : k = n
    · subst e
      rw [sm, sm_zero (n := k) (fun i hi => h i (by omega) (by omega)), Int.zero_add]
    · rw [sm, sm_one (n := n) (by omega) (fun i hi hne => h i (by omega) hne), h n (by omega) (fun e' => e e'.symm), Int.add_zero]
theorem sm_dvd {p : Int} {f : Nat → Int} : ∀ {n}, (∀ i, i < n → p ∣ f i) → p ∣ sm f n
  | 0, _ => ⟨0, by simp [sm]⟩
  | n + 1, h => by
    rw [sm]
    exact Int.dvd_add (sm_dvd (n := n) fun i hi => h i (by omega)) (h n (by omega))
theorem sm_sub (f g : Nat → Int) : ∀ n, sm f n - sm g n = sm (fun i => f i - g i) n
  | 0 => rfl
  | n + 1 => by
    have := sm_sub f g n
    simp only [sm]
    omega

/-- Rows by pivots below W: each is 0 before its pivot, 1 there, 0 at the pivots of the others; its entries are residues. -/
structure Ech (p : Int) (W : Nat) (R : Nat → Option (Nat → Int)) : Prop where
  below : ∀ j r, R j = some r → j < W
  one : ∀ j r, R j = some r → r j = 1
  lead : ∀ j r i, R j = some r → i < j → r i = 0
  other : ∀ j r k, R j = some r → (R k).isSome → k ≠ j → r k = 0
  low : ∀ j r i, R j = some r → 0 ≤ r i ∧ r i < p
/-- The row of a pivot, or zero. -/
def rowAt (R : Nat → Option (Nat → Int)) (j i : Nat) : Int := match R j with
  | some r => r i
  | none => 0
theorem rowAt_some {R : Nat → Option (Nat → Int)} {j : Nat} {r : Nat → Int} (h : R j = some r) (i : Nat) : rowAt R j i = r i := by unfold rowAt; rw [h]
theorem rowAt_none {R : Nat → Option (Nat → Int)} {j : Nat} (h : R j = none) (i : Nat) : rowAt R j i = 0 := by unfold rowAt; rw [h]
/-- v is a combination of the rows, modulo p. -/
def InR (p : Int) (W : Nat) (R : Nat → Option (Nat → Int)) (v : Nat → Int) : Prop := ∃ c : Nat → Int, ∀ i, p ∣ v i - sm (fun j => c j * rowAt R j i) W
/-- The coefficients are the entries at the pivots. -/
theorem InR.coef {p : Int} {W : Nat} {R : Nat → Option (Nat → Int)} {v : Nat → Int} (hE : Ech p W R) (h : InR p W R v) (i : Nat) : p ∣ v i - sm (fun j => v j * rowAt R j i) W := by
  obtain ⟨c, hc⟩ := h
  have h1 : p ∣ sm (fun j => c j * rowAt R j i) W - sm (fun j => v j * rowAt R j i) W := by
    rw [sm_sub]
    refine sm_dvd fun j hj => ?_
    cases hR : R j with
    | none => rw [rowAt_none hR, Int.mul_zero, Int.mul_zero]; exact ⟨0, by simp⟩
    | some r =>
      have h2 : sm (fun k => c k * rowAt R k j) W = c j := by
        rw [sm_one (k := j) hj fun k hk hne => ?_]
        · show c j * rowAt R j j = c j
          rw [rowAt_some hR, hE.one j r hR, Int.mul_one]
        · show c k * rowAt R k j = 0
          cases hk2 : R k with
          | none => rw [rowAt_none hk2, Int.mul_zero]
          | some q => rw [rowAt_some hk2, hE.other k q j hk2 (by rw [hR]; rfl) (Ne.symm hne), Int.mul_zero]
      have h3 := hc j
      rw [h2] at h3
      have h4 : c j * rowAt R j i - v j * rowAt R j i = (v j - c j) * (- rowAt R j i) := by
        rw [Int.sub_mul, Int.mul_neg, Int.mul_neg]; omega
      show p ∣ c j * rowAt R j i - v j * rowAt R j i
      rw [h4]
      exact Int.dvd_mul_of_dvd_left h3
  have h5 := Int.dvd_add (hc i) h1
  have e : v i - sm (fun j => c j * rowAt R j i) W + (sm (fun j => c j * rowAt R j i) W - sm (fun j => v j * rowAt R j i) W) = v i - sm (fun j => v j * rowAt R j i) W := by omega
  rwa [e] at h5
/-- What is 0 at all pivots is 0. -/
theorem InR.zero {p : Int} {W : Nat} {R : Nat → Option (Nat → Int)} {v : Nat → Int} (hE : Ech p W R) (h : InR p W R v) {i : Nat} (hz : ∀ j, j ≤ i → (R j).isSome → p ∣ v j) : p ∣ v i := by
  have h1 := h.coef hE i
  have h2 : p ∣ sm (fun j => v j * rowAt R j i) W := sm_dvd fun j hj => by
    show p ∣ v j * rowAt R j i
    cases hR : R j with
    | none => rw [rowAt_none hR, Int.mul_zero]; exact ⟨0, by simp⟩
    | some r =>
      by_cases hji : j ≤ i
      · exact Int.dvd_mul_of_dvd_left (hz j hji (by rw [hR]; rfl))
      · rw [rowAt_some hR, hE.lead j r i hR (by omega), Int.mul_zero]; exact ⟨0, by simp⟩
  have h3 := Int.dvd_add h1 h2
  have e : v i - sm (fun j => v j * rowAt R j i) W + sm (fun j => v j * rowAt R j i) W = v i := by omega
  rwa [e] at h3
/-- A kept row is in the span. -/
theorem InR.row {p : Int} {W : Nat} {R : Nat → Option (Nat → Int)} (hE : Ech p W R) {j : Nat} {r : Nat → Int} (h : R j = some r) : InR p W R r := by
  refine ⟨fun k => if k = j then 1 else 0, fun i => ?_⟩
  rw [sm_one (k := j) (hE.below j r h) fun k _ hne => by
    show (if k = j then (1 : Int) else 0) * rowAt R k i = 0
    rw [if_neg hne, Int.zero_mul]]
  show p ∣ r i - (if j = j then (1 : Int) else 0) * rowAt R j i
  rw [if_pos rfl, Int.one_mul, rowAt_some h, Int.sub_self]
  exact ⟨0, by simp⟩
/-- A pivot of one is a pivot of the other, if the span of the one lies in that of the other. -/
theorem Ech.pivot {p : Int} (hp : 1 < p) {W W' : Nat} {R R' : Nat → Option (Nat → Int)} (hE : Ech p W R) (hE' : Ech p W' R') (hs : ∀ v, InR p W R v → InR p W' R' v) {j : Nat} (hj : (R j).isSome) : (R' j).isSome := by
  cases hR : R j with
  | none => rw [hR] at hj; cases hj
  | some r =>
    have h1 := hs r (InR.row hE hR)
    cases hR' : R' j with
    | some _ => rfl
    | none =>
      exfalso
      have h2 : p ∣ r j := h1.zero hE' (i := j) fun k hk hks => by
        by_cases e : k = j
        · subst e; rw [hR'] at hks; cases hks
        · rw [hE.lead j r k hR (by omega)]; exact ⟨0, by simp⟩
      rw [hE.one j r hR] at h2
      have := Int.le_of_dvd (by omega) h2
      omega
/-- THE REDUCED BASIS OF A SPAN IS ONE. -/
theorem Ech.unique {p : Int} (hp : 1 < p) {W W' : Nat} {R R' : Nat → Option (Nat → Int)} (hE : Ech p W R) (hE' : Ech p W' R') (hs : ∀ v, InR p W R v ↔ InR p W' R' v) : R = R' := by
  funext j
  cases hR : R j with
  | none =>
    cases hR' : R' j with
    | none => rfl
    | some r' =>
      have := Ech.pivot hp hE' hE (fun v => (hs v).2) (j := j) (by rw [hR']; rfl)
      rw [hR] at this; cases this
  | some r =>
    have hp' := Ech.pivot hp hE hE' (fun v => (hs v).1) (j := j) (by rw [hR]; rfl)
    cases hR' : R' j with
    | none => rw [hR'] at hp'; cases hp'
    | some r' =>
      congr 1
      funext i
      have h1 := ((hs r).1 (InR.row hE hR)).coef hE' i
      have h2 : sm (fun k => r k * rowAt R' k i) W' = r' i := by
        rw [sm_one (k := j) (hE'.below j r' hR') fun k _ hne => ?_]
        · show r j * rowAt R' j i = r' i
          rw [hE.one j r hR, Int.one_mul, rowAt_some hR']
        · show r k * rowAt R' k i = 0
          cases hk : R' k with
          | none => rw [rowAt_none hk, Int.mul_zero]
          | some q =>
            have h3 := Ech.pivot hp hE' hE (fun v => (hs v).2) (j := k) (by rw [hk]; rfl)
            rw [hE.other j r k hR h3 hne, Int.zero_mul]
      rw [h2] at h1
      have a := hE.low j r i hR
      have b := hE'.low j r' i hR'
      obtain ⟨t, ht⟩ := h1
      have ht0 : t = 0 := by
        rcases Int.lt_trichotomy t 0 with h | h | h
        · have := Int.mul_le_mul_of_nonneg_left (show t ≤ -1 by omega) (show 0 ≤ p by omega)
          rw [Int.mul_neg, Int.mul_one] at this
          omega
        · exact h
        · have := Int.mul_le_mul_of_nonneg_left (show 1 ≤ t by omega) (show 0 ≤ p by omega)
          rw [Int.mul_one] at this
          omega
      rw [ht0, Int.mul_zero] at ht
      omega
end Go.Proofs.YtinoomcboinokaaGreat

/- MATHEMATICS: a row reduced by kept rows; a reduced row that is kept; what that does to the span. -/
namespace Go.Proofs.YtinoomcboinokaaGreat

theorem sm_mul (t : Int) (f : Nat → Int) : ∀ n, t * sm f n = sm (fun i => t * f i) n
  | 0 => by simp [sm]
  | n + 1 => by
    have := sm_mul t f n
    simp only [sm, Int.mul_add, this]
theorem sm_add (f g : Nat → Int) : ∀ n, sm f n + sm g n = sm (fun i => f i + g i) n
  | 0 => rfl
  | n + 1 => by
    have := sm_add f g n
    simp only [sm]
    omega
theorem InR.congr {p : Int} {W : Nat} {R : Nat → Option (Nat → Int)} {u v : Nat → Int} (h : InR p W R u) (e : ∀ i, p ∣ v i - u i) : InR p W R v := by
  obtain ⟨c, hc⟩ := h
  refine ⟨c, fun i => ?_⟩
  have h1 := Int.dvd_add (e i) (hc i)
  have e2 : v i - u i + (u i - sm (fun j => c j * rowAt R j i) W) = v i - sm (fun j => c j * rowAt R j i) W := by omega
  rwa [e2] at h1
theorem InR.add {p : Int} {W : Nat} {R : Nat → Option (Nat → Int)} {u v : Nat → Int} (h : InR p W R u) (k : InR p W R v) : InR p W R (fun i => u i + v i) := by
  obtain ⟨c, hc⟩ := h
  obtain ⟨d, hd⟩ := k
  refine ⟨fun j => c j + d j, fun i => ?_⟩
  have h1 := Int.dvd_add (hc i) (hd i)
  have e : sm (fun j => (c j + d j) * rowAt R j i) W = sm (fun j => c j * rowAt R j i) W + sm (fun j => d j * rowAt R j i) W := by
    rw [sm_add]
    exact sm_congr fun j _ => Int.add_mul _ _ _
  have e2 : u i - sm (fun j => c j * rowAt R j i) W + (v i - sm (fun j => d j * rowAt R j i) W) = u i + v i - sm (fun j => (c j + d j) * rowAt R j i) W := by rw [e]; omega
  rwa [e2] at h1
theorem InR.smul {p : Int} {W : Nat} {R : Nat → Option (Nat → Int)} {u : Nat → Int} (t : Int) (h : InR p W R u) : InR p W R (fun i => t * u i) := by
  obtain ⟨c, hc⟩ := h
  refine ⟨fun j => t * c j, fun i => ?_⟩
  have h1 := Int.dvd_mul_of_dvd_right (b := t) (hc i)
  have e : sm (fun j => t * c j * rowAt R j i) W = t * sm (fun j => c j * rowAt R j i) W := by
    rw [sm_mul]
    exact sm_congr fun j _ => Int.mul_assoc _ _ _
  show p ∣ t * u i - sm (fun j => t * c j * rowAt R j i) W
  rw [e, ← Int.mul_sub]
  exact h1
theorem InR.nil {p : Int} {W : Nat} {R : Nat → Option (Nat → Int)} : InR p W R (fun _ => 0) :=
  ⟨fun _ => 0, fun i => by
    rw [sm_zero (fun j _ => Int.zero_mul _)]
    exact ⟨0, by simp⟩⟩
/-- What holds for zero, and for what it holds for with a multiple of a row added, holds in the span. -/
theorem InR.ind {p : Int} {W : Nat} {R : Nat → Option (Nat → Int)} {P : (Nat → Int) → Prop} (h0 : P fun _ => 0) (hc : ∀ u v, P u → (∀ i, p ∣ v i - u i) → P v) (ha : ∀ u t j r, P u → R j = some r → P fun i => u i + t * r i) {v : Nat → Int} (h : InR p W R v) : P v := by
  obtain ⟨c, h⟩ := h
  refine hc _ v ?_ h
  suffices hs : ∀ n, P fun i => sm (fun j => c j * rowAt R j i) n from hs W
  intro n
  induction n with
  | zero => exact h0
  | succ n ih =>
    cases hR : R n with
    | none =>
      refine hc _ _ ih fun i => ?_
      show p ∣ sm (fun j => c j * rowAt R j i) n + c n * rowAt R n i - sm (fun j => c j * rowAt R j i) n
      rw [rowAt_none hR]
      exact ⟨0, by simp⟩
    | some r =>
      have := ha _ (c n) n r ih hR
      refine hc _ _ this fun i => ?_
      show p ∣ sm (fun j => c j * rowAt R j i) n + c n * rowAt R n i - (sm (fun j => c j * rowAt R j i) n + c n * r i)
      rw [rowAt_some hR, Int.sub_self]
      exact ⟨0, by simp⟩

/-- A row, after the pivots below k have been made 0. -/
def redK (p : Int) (R : Nat → Option (Nat → Int)) (v : Nat → Int) (k i : Nat) : Int := (v i - sm (fun j => v j * rowAt R j i) k) % p
theorem redK_start (p : Int) (R : Nat → Option (Nat → Int)) (v : Nat → Int) (i : Nat) : redK p R v 0 i = v i % p := by simp [redK, sm]
theorem redK_none {p : Int} {R : Nat → Option (Nat → Int)} {k : Nat} (h : R k = none) (v : Nat → Int) (i : Nat) : redK p R v (k + 1) i = redK p R v k i := by
  unfold redK
  simp only [sm]
  rw [rowAt_none h, Int.mul_zero, Int.add_zero]
theorem redK_at {p : Int} {W : Nat} {R : Nat → Option (Nat → Int)} (hE : Ech p W R) {k : Nat} (hk : (R k).isSome) (v : Nat → Int) : redK p R v k k = v k % p := by
  unfold redK
  rw [sm_zero fun j hj => ?_, Int.sub_zero]
  show v j * rowAt R j k = 0
  cases hR : R j with
  | none => rw [rowAt_none hR, Int.mul_zero]
  | some q => rw [rowAt_some hR, hE.other j q k hR hk (by omega), Int.mul_zero]
theorem mod_step (a x r p : Int) : (a % p + (p - x % p) * r) % p = (a - x * r) % p := by
  apply Int.emod_eq_emod_iff_emod_sub_eq_zero.2
  apply Int.emod_eq_zero_of_dvd
  rw [Int.emod_def a p, Int.emod_def x p]
  generalize a / p = A
  generalize x / p = X
  refine ⟨-A + r + X * r, ?_⟩
  rw [Int.sub_mul, Int.sub_mul, Int.mul_add, Int.mul_add, Int.mul_neg, Int.mul_assoc]
  omega
theorem redK_some {p : Int} {W : Nat} {R : Nat → Option (Nat → Int)} (hE : Ech p W R) {k : Nat} {r : Nat → Int} (h : R k = some r) (v : Nat → Int) (i : Nat) :
    (redK p R v k i + (p - redK p R v k k) * r i) % p = redK p R v (k + 1) i := by
  rw [redK_at hE (by rw [h]; rfl)]
  unfold redK
  simp only [sm]
  rw [rowAt_some h]
  rw [show v i - (sm (fun j => v j * rowAt R j i) k + v k * r i) = (v i - sm (fun j => v j * rowAt R j i) k) - v k * r i by omega]
  generalize v i - sm (fun j => v j * rowAt R j i) k = a
  exact mod_step a (v k) (r i) p
/-- The span when a reduced row q with the pivot j is kept, and taken off the others. -/
def keepR (p : Int) (R : Nat → Option (Nat → Int)) (j : Nat) (q : Nat → Int) (k : Nat) : Option (Nat → Int) :=
  if k = j then some q else (R k).map fun r i => (r i + (p - r j) * q i) % p
/-- A row that may be kept. -/
structure NewRow (p : Int) (W : Nat) (R : Nat → Option (Nat → Int)) (j : Nat) (q : Nat → Int) : Prop where
  below : j < W
  one : q j = 1
  lead : ∀ i, i < j → q i = 0
  other : ∀ k, (R k).isSome → q k = 0
  low : ∀ i, 0 ≤ q i ∧ q i < p
theorem NewRow.none {p : Int} {W : Nat} {R : Nat → Option (Nat → Int)} {j : Nat} {q : Nat → Int} (h : NewRow p W R j q) : R j = none := by
  cases hR : R j with
  | none => rfl
  | some r =>
    have h1 := h.other j (by rw [hR]; rfl)
    rw [h.one] at h1
    cases h1
theorem keepR_cases {p : Int} {R : Nat → Option (Nat → Int)} {j : Nat} {q : Nat → Int} {k : Nat} {s : Nat → Int} (h : keepR p R j q k = some s) :
    (k = j ∧ s = q) ∨ (k ≠ j ∧ ∃ r, R k = some r ∧ s = fun i => (r i + (p - r j) * q i) % p) := by
  unfold keepR at h
  by_cases e : k = j
  · rw [if_pos e] at h
    injection h with h
    exact .inl ⟨e, h.symm⟩
  · rw [if_neg e] at h
    cases hR : R k with
    | none => rw [hR] at h; cases h
    | some r =>
      rw [hR] at h
      injection h with h
      exact .inr ⟨e, r, rfl, h.symm⟩
theorem Ech.keep {p : Int} (hp : 1 < p) {W : Nat} {R : Nat → Option (Nat → Int)} {j : Nat} {q : Nat → Int} (hE : Ech p W R) (hq : NewRow p W R j q) : Ech p W (keepR p R j q) := by
  refine ⟨fun k s h => ?_, fun k s h => ?_, fun k s i h hi => ?_, fun k s l h hl hne => ?_, fun k s i h => ?_⟩
  · rcases keepR_cases h with ⟨rfl, _⟩ | ⟨_, r, hr, _⟩
    · exact hq.below
    · exact hE.below k r hr
  · rcases keepR_cases h with ⟨rfl, rfl⟩ | ⟨_, r, hr, rfl⟩
    · exact hq.one
    · show (r k + (p - r j) * q k) % p = 1
      rw [hE.one k r hr, hq.other k (by rw [hr]; rfl), Int.mul_zero, Int.add_zero]
      exact Int.emod_eq_of_lt (by omega) hp
  · rcases keepR_cases h with ⟨rfl, rfl⟩ | ⟨_, r, hr, rfl⟩
    · exact hq.lead i hi
    · show (r i + (p - r j) * q i) % p = 0
      rw [hE.lead k r i hr hi, Int.zero_add]
      by_cases hij : i < j
      · rw [hq.lead i hij, Int.mul_zero]; exact Int.zero_emod p
      · rw [hE.lead k r j hr (by omega), Int.sub_zero]; exact Int.mul_emod_right p _
  · rcases keepR_cases h with ⟨rfl, rfl⟩ | ⟨_, r, hr, rfl⟩
    · refine hq.other l ?_
      unfold keepR at hl
      rw [if_neg hne] at hl
      cases hR : R l with
      | none => rw [hR] at hl; cases hl
      | some _ => rfl
    · show (r l + (p - r j) * q l) % p = 0
      by_cases e : l = j
      · subst e
        rw [hq.one, Int.mul_one, show r l + (p - r l) = p by omega]
        exact Int.emod_self
      · unfold keepR at hl
        rw [if_neg e] at hl
        have hl2 : (R l).isSome := by
          cases hR : R l with
          | none => rw [hR] at hl; cases hl
          | some _ => rfl
        rw [hE.other k r l hr hl2 hne, hq.other l hl2, Int.mul_zero, Int.add_zero]
        exact Int.zero_emod p
  · rcases keepR_cases h with ⟨rfl, rfl⟩ | ⟨_, r, hr, rfl⟩
    · exact hq.low i
    · exact ⟨Int.emod_nonneg _ (by omega), Int.emod_lt_of_pos _ (by omega)⟩
/-- The span with a row more. -/
theorem keep_span {p : Int} (hp : 1 < p) {W : Nat} {R : Nat → Option (Nat → Int)} {j : Nat} {q : Nat → Int} (hE : Ech p W R) (hq : NewRow p W R j q) (x : Nat → Int) :
    InR p W (keepR p R j q) x ↔ ∃ t, InR p W R (fun i => x i - t * q i) := by
  have hE' := Ech.keep hp hE hq
  have hqin : InR p W (keepR p R j q) q := InR.row hE' (j := j) (by unfold keepR; rw [if_pos rfl])
  constructor
  · intro h
    refine InR.ind (P := fun x => ∃ t, InR p W R (fun i => x i - t * q i)) ⟨0, ?_⟩ ?_ ?_ h
    · exact InR.nil.congr fun i => ⟨0, by simp⟩
    · rintro u v ⟨t, ht⟩ e
      exact ⟨t, ht.congr fun i => by rw [show v i - t * q i - (u i - t * q i) = v i - u i by omega]; exact e i⟩
    · rintro u t k s ⟨t1, ht⟩ hs
      rcases keepR_cases hs with ⟨rfl, rfl⟩ | ⟨_, r, hr, rfl⟩
      · exact ⟨t1 + t, ht.congr fun i => by
          rw [Int.add_mul, show u i + t * s i - (t1 * s i + t * s i) - (u i - t1 * s i) = 0 by omega]
          exact ⟨0, by simp⟩⟩
      · refine ⟨t1 + t * (p - r j), (ht.add ((InR.row hE hr).smul t)).congr fun i => ?_⟩
        show p ∣ u i + t * ((r i + (p - r j) * q i) % p) - (t1 + t * (p - r j)) * q i - (u i - t1 * q i + t * r i)
        rw [Int.add_mul, Int.mul_assoc, Int.emod_def]
        generalize (p - r j) * q i = y
        generalize (r i + y) / p = z
        rw [Int.mul_sub, Int.mul_add]
        refine ⟨-(t * z), ?_⟩
        rw [Int.mul_neg, ← Int.mul_assoc t p z, Int.mul_comm t p, Int.mul_assoc]
        omega
  · rintro ⟨t, ht⟩
    have h1 : ∀ v, InR p W R v → InR p W (keepR p R j q) v := fun v hv => by
      refine InR.ind (P := fun x => InR p W (keepR p R j q) x) InR.nil (fun u v h e => h.congr e) ?_ hv
      intro u t k r hu hr
      have hkj : k ≠ j := fun e => by rw [e, hq.none] at hr; cases hr
      have hs : keepR p R j q k = some (fun i => (r i + (p - r j) * q i) % p) := by
        unfold keepR
        rw [if_neg hkj, hr]; rfl
      have hrow := InR.row hE' hs
      refine ((hu.add (hrow.smul t)).add (hqin.smul (t * (r j - p)))).congr fun i => ?_
      show p ∣ u i + t * r i - (u i + t * ((r i + (p - r j) * q i) % p) + t * (r j - p) * q i)
      rw [Int.emod_def, Int.mul_assoc, show (r j - p) * q i = -((p - r j) * q i) by rw [← Int.neg_mul, Int.neg_sub]]
      generalize (p - r j) * q i = y
      generalize (r i + y) / p = z
      rw [Int.mul_sub, Int.mul_add, Int.mul_neg]
      refine ⟨t * z, ?_⟩
      rw [← Int.mul_assoc t p z, Int.mul_comm t p, Int.mul_assoc]
      omega
    refine ((h1 _ ht).add (hqin.smul t)).congr fun i => ?_
    show p ∣ x i - (x i - t * q i + t * q i)
    rw [show x i - (x i - t * q i + t * q i) = 0 by omega]
    exact ⟨0, by simp⟩
end Go.Proofs.YtinoomcboinokaaGreat

/- MATHEMATICS: the elimination of a list of rows over a field of residues: it is reduced, and has the span of the list. -/
namespace Go.Proofs.YtinoomcboinokaaGreat

/-- The first place below n where f is not 0. -/
def firstNZ (f : Nat → Int) : Nat → Option Nat
  | 0 => none
  | n + 1 => match firstNZ f n with
    | some j => some j
    | none => if f n = 0 then none else some n
theorem firstNZ_none {f : Nat → Int} : ∀ {n}, firstNZ f n = none → ∀ i, i < n → f i = 0
  | 0, _, i, hi => absurd hi (by omega)
  | n + 1, h, i, hi => by
    unfold firstNZ at h
    cases e : firstNZ f n with
    | some j => rw [e] at h; cases h
    | none =>
      rw [e] at h
      by_cases hn : f n = 0
      · rcases Nat.lt_or_ge i n with hi2 | hi2
        · exact firstNZ_none e i hi2
        · rw [show i = n by omega]; exact hn
      · simp only [hn, if_false] at h
        cases h
theorem firstNZ_some {f : Nat → Int} : ∀ {n j}, firstNZ f n = some j → j < n ∧ f j ≠ 0 ∧ ∀ i, i < j → f i = 0
  | 0, j, h => by cases h
  | n + 1, j, h => by
    unfold firstNZ at h
    cases e : firstNZ f n with
    | some k =>
      rw [e] at h
      injection h with h
      subst h
      have := firstNZ_some e
      exact ⟨by omega, this.2⟩
    | none =>
      rw [e] at h
      by_cases hn : f n = 0
      · simp only [hn, if_true] at h
        cases h
      · simp only [hn, if_false] at h
        injection h with h
        subst h
        exact ⟨by omega, hn, firstNZ_none e⟩
/-- What is kept of a row. -/
def keptRow (p : Int) (ι : Int → Int) (rest : Nat → Int) (j i : Nat) : Int := rest i * ι (rest j) % p
/-- A row is reduced, and kept unless it is 0. -/
def stepR (p : Int) (W : Nat) (ι : Int → Int) (R : Nat → Option (Nat → Int)) (v : Nat → Int) : Nat → Option (Nat → Int) :=
  match firstNZ (redK p R v W) W with
  | none => R
  | some j => keepR p R j (keptRow p ι (redK p R v W) j)
/-- Inverses of the residues other than 0. -/
def InvF (p : Int) (ι : Int → Int) : Prop := ∀ x, 0 < x → x < p → x * ι x % p = 1
theorem redK_low {p : Int} (hp : 1 < p) (R : Nat → Option (Nat → Int)) (v : Nat → Int) (k i : Nat) : 0 ≤ redK p R v k i ∧ redK p R v k i < p :=
  ⟨Int.emod_nonneg _ (by omega), Int.emod_lt_of_pos _ (by omega)⟩
theorem redK_pivot {p : Int} {W : Nat} {R : Nat → Option (Nat → Int)} (hE : Ech p W R) (v : Nat → Int) {k : Nat} (hk : (R k).isSome) : redK p R v W k = 0 := by
  cases hR : R k with
  | none => rw [hR] at hk; cases hk
  | some r =>
    unfold redK
    rw [sm_one (k := k) (hE.below k r hR) fun j _ hne => ?_]
    · show (v k - v k * rowAt R k k) % p = 0
      rw [rowAt_some hR, hE.one k r hR, Int.mul_one, Int.sub_self]
      exact Int.zero_emod p
    · show v j * rowAt R j k = 0
      cases hj : R j with
      | none => rw [rowAt_none hj, Int.mul_zero]
      | some q => rw [rowAt_some hj, hE.other j q k hj hk (Ne.symm hne), Int.mul_zero]
theorem step_new {p : Int} (hp : 1 < p) {ι : Int → Int} (hι : InvF p ι) {W : Nat} {R : Nat → Option (Nat → Int)} (hE : Ech p W R) (v : Nat → Int) {j : Nat} (h : firstNZ (redK p R v W) W = some j) : NewRow p W R j (keptRow p ι (redK p R v W) j) := by
  obtain ⟨h1, h2, h3⟩ := firstNZ_some h
  have hl := redK_low hp R v W j
  refine ⟨h1, hι _ (by omega) hl.2, fun i hi => ?_, fun k hk => ?_, fun i => ⟨Int.emod_nonneg _ (by omega), Int.emod_lt_of_pos _ (by omega)⟩⟩
  · show redK p R v W i * _ % p = 0
    rw [h3 i hi, Int.zero_mul]; exact Int.zero_emod p
  · show redK p R v W k * _ % p = 0
    rw [redK_pivot hE v hk, Int.zero_mul]; exact Int.zero_emod p
/-- A row, but for what is left of it, is in the span. -/
theorem red_in {p : Int} {W : Nat} (R : Nat → Option (Nat → Int)) (v : Nat → Int) : InR p W R (fun i => v i - redK p R v W i) :=
  ⟨v, fun i => by
    show p ∣ v i - redK p R v W i - sm (fun j => v j * rowAt R j i) W
    unfold redK
    rw [Int.emod_def]
    generalize sm (fun j => v j * rowAt R j i) W = s
    generalize (v i - s) / p = z
    exact ⟨z, by omega⟩⟩
/-- All entries from W on are 0. -/
def Wide (W : Nat) (v : Nat → Int) : Prop := ∀ i, W ≤ i → v i = 0
def WideR (W : Nat) (R : Nat → Option (Nat → Int)) : Prop := ∀ j r, R j = some r → Wide W r
theorem redK_wide {p : Int} {W : Nat} {R : Nat → Option (Nat → Int)} (hR : WideR W R) {v : Nat → Int} (hv : Wide W v) (k : Nat) : Wide W (redK p R v k) := fun i hi => by
  unfold redK
  rw [hv i hi, sm_zero fun j _ => ?_]
  · exact Int.zero_emod p
  · show v j * rowAt R j i = 0
    cases h : R j with
    | none => rw [rowAt_none h, Int.mul_zero]
    | some r => rw [rowAt_some h, hR j r h i hi, Int.mul_zero]
theorem step_wide {p : Int} {ι : Int → Int} {W : Nat} {R : Nat → Option (Nat → Int)} (hR : WideR W R) {v : Nat → Int} (hv : Wide W v) : WideR W (stepR p W ι R v) := by
  unfold stepR
  cases h : firstNZ (redK p R v W) W with
  | none => exact hR
  | some j =>
    intro k s hs i hi
    have hq : keptRow p ι (redK p R v W) j i = 0 := by
      show redK p R v W i * _ % p = 0
      rw [redK_wide hR hv W i hi, Int.zero_mul]; exact Int.zero_emod p
    rcases keepR_cases hs with ⟨_, rfl⟩ | ⟨_, r, hr, rfl⟩
    · exact hq
    · show (r i + (p - r j) * keptRow p ι (redK p R v W) j i) % p = 0
      rw [hq, hR k r hr i hi, Int.mul_zero]; exact Int.zero_emod p
theorem step_ech {p : Int} (hp : 1 < p) {ι : Int → Int} (hι : InvF p ι) {W : Nat} {R : Nat → Option (Nat → Int)} (hE : Ech p W R) (v : Nat → Int) : Ech p W (stepR p W ι R v) := by
  unfold stepR
  cases h : firstNZ (redK p R v W) W with
  | none => exact hE
  | some j => exact Ech.keep hp hE (step_new hp hι hE v h)
theorem step_span {p : Int} (hp : 1 < p) {ι : Int → Int} (hι : InvF p ι) {W : Nat} {R : Nat → Option (Nat → Int)} (hE : Ech p W R) (hR : WideR W R) {v : Nat → Int} (hv : Wide W v) (x : Nat → Int) :
    InR p W (stepR p W ι R v) x ↔ ∃ t, InR p W R (fun i => x i - t * v i) := by
  have hin := red_in (p := p) (W := W) R v
  unfold stepR
  cases h : firstNZ (redK p R v W) W with
  | none =>
    have hz : ∀ i, redK p R v W i = 0 := fun i => by
      rcases Nat.lt_or_ge i W with hi | hi
      · exact firstNZ_none h i hi
      · exact redK_wide hR hv W i hi
    have hvin : InR p W R v := hin.congr fun i => by rw [hz i]; exact ⟨0, by omega⟩
    constructor
    · exact fun hx => ⟨0, hx.congr fun i => ⟨0, by rw [Int.zero_mul]; omega⟩⟩
    · rintro ⟨t, ht⟩
      exact (ht.add (hvin.smul t)).congr fun i => ⟨0, by
        show x i - (x i - t * v i + t * v i) = p * 0
        omega⟩
  | some j =>
    have hq := step_new hp hι hE v h
    show InR p W (keepR p R j (keptRow p ι (redK p R v W) j)) x ↔ _
    rw [keep_span hp hE hq]
    have hm : ∀ i, p ∣ keptRow p ι (redK p R v W) j i - redK p R v W i * ι (redK p R v W j) := fun i => by
      show p ∣ redK p R v W i * ι (redK p R v W j) % p - _
      rw [Int.emod_def]
      generalize redK p R v W i * ι (redK p R v W j) = y
      generalize y / p = z
      exact ⟨-z, by rw [Int.mul_neg]; omega⟩
    have hone : p ∣ redK p R v W j * ι (redK p R v W j) - 1 := by
      have h1 : redK p R v W j * ι (redK p R v W j) % p = 1 := hq.one
      rw [Int.emod_def] at h1
      generalize redK p R v W j * ι (redK p R v W j) = y at h1 ⊢
      generalize y / p = z at h1
      exact ⟨z, by omega⟩
    generalize keptRow p ι (redK p R v W) j = q at hm
    generalize ι (redK p R v W j) = u at hm hone
    generalize redK p R v W j = c at hone
    generalize redK p R v W = rest at hin hm
    constructor
    · rintro ⟨t, ht⟩
      refine ⟨t * u, (ht.add (hin.smul (-(t * u)))).congr fun i => ?_⟩
      obtain ⟨z, hz⟩ := hm i
      show p ∣ x i - t * u * v i - (x i - t * q i + -(t * u) * (v i - rest i))
      have hqi : q i = rest i * u + p * z := by omega
      rw [hqi, Int.neg_mul, Int.mul_sub, Int.mul_add, ← Int.mul_assoc t p z, Int.mul_comm t p, Int.mul_assoc p t z, Int.mul_comm (rest i) u, ← Int.mul_assoc t u]
      exact ⟨t * z, by omega⟩
    · rintro ⟨t, ht⟩
      refine ⟨t * c, (ht.add (hin.smul t)).congr fun i => ?_⟩
      obtain ⟨z, hz⟩ := hm i
      obtain ⟨y, hy⟩ := hone
      show p ∣ x i - t * c * q i - (x i - t * v i + t * (v i - rest i))
      have hqi : q i = rest i * u + p * z := by omega
      have hcu : c * u = 1 + p * y := by omega
      have e : t * c * q i = t * rest i + p * (t * (y * rest i) + t * (c * z)) := by
        rw [hqi, Int.mul_assoc, Int.mul_add, Int.mul_comm (rest i) u, ← Int.mul_assoc c u, hcu, Int.add_mul, Int.one_mul, Int.mul_add, Int.mul_add]
        rw [← Int.mul_assoc c p z, Int.mul_comm c p, Int.mul_assoc p c z, ← Int.mul_assoc t p (c * z), Int.mul_comm t p, Int.mul_assoc p t]
        rw [Int.mul_assoc p y, ← Int.mul_assoc t p (y * rest i), Int.mul_comm t p, Int.mul_assoc p t, Int.mul_add]
        omega
      rw [e, Int.mul_sub]
      exact ⟨-(t * (y * rest i) + t * (c * z)), by rw [Int.mul_neg]; omega⟩

/-- In the span of kept rows and of a list. -/
def SpR (p : Int) (W : Nat) (R : Nat → Option (Nat → Int)) : List (Nat → Int) → (Nat → Int) → Prop
  | [], x => InR p W R x
  | v :: L, x => ∃ t, SpR p W R L (fun i => x i - t * v i)
theorem SpR.step {p : Int} (hp : 1 < p) {ι : Int → Int} (hι : InvF p ι) {W : Nat} {R : Nat → Option (Nat → Int)} (hE : Ech p W R) (hR : WideR W R) {v : Nat → Int} (hv : Wide W v) :
    ∀ (L : List (Nat → Int)) (x : Nat → Int), SpR p W (stepR p W ι R v) L x ↔ ∃ t, SpR p W R L (fun i => x i - t * v i)
  | [], x => step_span hp hι hE hR hv x
  | u :: L, x => by
    have ih := SpR.step hp hι hE hR hv L
    constructor
    · rintro ⟨s, hs⟩
      obtain ⟨t, ht⟩ := (ih _).1 hs
      refine ⟨t, s, ?_⟩
      have e : (fun i => x i - t * v i - s * u i) = fun i => x i - s * u i - t * v i := by funext i; omega
      rw [e]; exact ht
    · rintro ⟨t, s, hs⟩
      refine ⟨s, (ih _).2 ⟨t, ?_⟩⟩
      have e : (fun i => x i - s * u i - t * v i) = fun i => x i - t * v i - s * u i := by funext i; omega
      rw [e]; exact hs
/-- The elimination of a list. -/
def elimR (p : Int) (W : Nat) (ι : Int → Int) (L : List (Nat → Int)) : Nat → Option (Nat → Int) := L.foldl (stepR p W ι) fun _ => none
theorem elim_from {p : Int} (hp : 1 < p) {ι : Int → Int} (hι : InvF p ι) {W : Nat} : ∀ (L : List (Nat → Int)) (R : Nat → Option (Nat → Int)), (∀ v ∈ L, Wide W v) → Ech p W R → WideR W R →
    Ech p W (L.foldl (stepR p W ι) R) ∧ WideR W (L.foldl (stepR p W ι) R) ∧ ∀ x, InR p W (L.foldl (stepR p W ι) R) x ↔ SpR p W R L x
  | [], R, _, hE, hR => ⟨hE, hR, fun _ => Iff.rfl⟩
  | v :: L, R, hL, hE, hR => by
    have hv := hL v (by simp)
    have h := elim_from hp hι L (stepR p W ι R v) (fun u hu => hL u (List.mem_cons_of_mem _ hu)) (step_ech hp hι hE v) (step_wide hR hv)
    exact ⟨h.1, h.2.1, fun x => (h.2.2 x).trans (SpR.step hp hι hE hR hv L x)⟩
/-- In the span of a list. -/
def SpL (p : Int) : List (Nat → Int) → (Nat → Int) → Prop
  | [], x => ∀ i, p ∣ x i
  | v :: L, x => ∃ t, SpL p L (fun i => x i - t * v i)
theorem SpR_nil {p : Int} {W : Nat} : ∀ (L : List (Nat → Int)) (x : Nat → Int), SpR p W (fun _ => none) L x ↔ SpL p L x
  | [], x => by
    have hz : ∀ i (c : Nat → Int), sm (fun j => c j * rowAt (fun _ => none) j i) W = 0 := fun i c => sm_zero fun j _ => Int.mul_zero _
    constructor
    · rintro ⟨c, hc⟩ i
      have := hc i
      rwa [hz, Int.sub_zero] at this
    · exact fun h => ⟨fun _ => 0, fun i => by rw [hz, Int.sub_zero]; exact h i⟩
  | v :: L, x => by
    constructor
    · rintro ⟨t, ht⟩
      exact ⟨t, (SpR_nil L _).1 ht⟩
    · rintro ⟨t, ht⟩
      exact ⟨t, (SpR_nil L _).2 ht⟩
/-- THE ELIMINATION IS REDUCED AND HAS THE SPAN OF THE LIST. -/
theorem elim_ok {p : Int} (hp : 1 < p) {ι : Int → Int} (hι : InvF p ι) {W : Nat} (L : List (Nat → Int)) (hL : ∀ v ∈ L, Wide W v) :
    Ech p W (elimR p W ι L) ∧ WideR W (elimR p W ι L) ∧ ∀ x, InR p W (elimR p W ι L) x ↔ SpL p L x := by
  have h := elim_from hp hι L (fun _ => none) hL ⟨fun _ _ h => (by cases h), fun _ _ h => (by cases h), fun _ _ _ h => (by cases h), fun _ _ _ h => (by cases h), fun _ _ _ h => (by cases h)⟩ (fun _ _ h => by cases h)
  exact ⟨h.1, h.2.1, fun x => (h.2.2 x).trans (SpR_nil L x)⟩
/-- .. so that lists of one span have one elimination. -/
theorem elim_same {p : Int} (hp : 1 < p) {ι : Int → Int} (hι : InvF p ι) {W : Nat} {L M : List (Nat → Int)} (hL : ∀ v ∈ L, Wide W v) (hM : ∀ v ∈ M, Wide W v) (h : ∀ x, SpL p L x ↔ SpL p M x) : elimR p W ι L = elimR p W ι M := by
  have h1 := elim_ok hp hι L hL
  have h2 := elim_ok hp hι M hM
  exact Ech.unique hp h1.1 h2.1 fun v => (h1.2.2 v).trans ((h v).trans (h2.2.2 v).symm)
end Go.Proofs.YtinoomcboinokaaGreat

/- MATHEMATICS: spans of lists: what lies in them, when one lies in another. -/
namespace Go.Proofs.YtinoomcboinokaaGreat

theorem SpL.congr {p : Int} : ∀ {L : List (Nat → Int)} {x y : Nat → Int}, SpL p L x → (∀ i, p ∣ y i - x i) → SpL p L y
  | [], x, y, h, e => fun i => by
    have := Int.dvd_add (e i) (h i)
    rwa [show y i - x i + x i = y i by omega] at this
  | v :: L, x, y, ⟨t, ht⟩, e => ⟨t, ht.congr fun i => by
    show p ∣ y i - t * v i - (x i - t * v i)
    rw [show y i - t * v i - (x i - t * v i) = y i - x i by omega]
    exact e i⟩
theorem SpL.nil {p : Int} : ∀ (L : List (Nat → Int)), SpL p L (fun _ => 0)
  | [] => fun _ => ⟨0, by simp⟩
  | v :: L => ⟨0, (SpL.nil L).congr fun i => ⟨0, by show (0 - 0 * v i) - 0 = p * 0; simp⟩⟩
theorem SpL.add {p : Int} : ∀ {L : List (Nat → Int)} {x y : Nat → Int}, SpL p L x → SpL p L y → SpL p L (fun i => x i + y i)
  | [], _, _, h, k => fun i => Int.dvd_add (h i) (k i)
  | v :: L, x, y, ⟨t, ht⟩, ⟨s, hs⟩ => ⟨t + s, (ht.add hs).congr fun i => ⟨0, by
    show x i + y i - (t + s) * v i - (x i - t * v i + (y i - s * v i)) = p * 0
    rw [Int.add_mul]; omega⟩⟩
theorem SpL.smul {p : Int} (c : Int) : ∀ {L : List (Nat → Int)} {x : Nat → Int}, SpL p L x → SpL p L (fun i => c * x i)
  | [], _, h => fun i => Int.dvd_mul_of_dvd_right (h i)
  | v :: L, x, ⟨t, ht⟩ => ⟨c * t, (ht.smul c).congr fun i => ⟨0, by
    show c * x i - c * t * v i - c * (x i - t * v i) = p * 0
    rw [Int.mul_sub, Int.mul_assoc]; omega⟩⟩
theorem SpL.more {p : Int} {L : List (Nat → Int)} {x : Nat → Int} (v : Nat → Int) (h : SpL p L x) : SpL p (v :: L) x :=
  ⟨0, h.congr fun i => ⟨0, by show x i - 0 * v i - x i = p * 0; rw [Int.zero_mul]; omega⟩⟩
/-- A row of the list lies in its span. -/
theorem SpL.row {p : Int} : ∀ {L : List (Nat → Int)} {v : Nat → Int}, v ∈ L → SpL p L v
  | u :: L, v, h => by
    rcases List.mem_cons.1 h with rfl | h
    · exact ⟨1, (SpL.nil L).congr fun i => ⟨0, by show v i - 1 * v i - 0 = p * 0; rw [Int.one_mul]; omega⟩⟩
    · exact (SpL.row h).more u
/-- If each row lies in another span, all of the span does. -/
theorem SpL.sub {p : Int} {M : List (Nat → Int)} : ∀ {L : List (Nat → Int)} {x : Nat → Int}, (∀ v ∈ L, SpL p M v) → SpL p L x → SpL p M x
  | [], x, _, h => (SpL.nil M).congr fun i => by
    show p ∣ x i - 0
    rw [Int.sub_zero]; exact h i
  | v :: L, x, hv, ⟨t, ht⟩ => by
    have h1 := SpL.sub (fun u hu => hv u (List.mem_cons_of_mem _ hu)) ht
    exact (h1.add ((hv v (by simp)).smul t)).congr fun i => ⟨0, by
      show x i - (x i - t * v i + t * v i) = p * 0
      omega⟩
/-- Lists of rows that lie in each other's spans have one elimination: the order of the rows, and rows that are combinations of others, do not matter. -/
theorem elim_eq {p : Int} (hp : 1 < p) {ι : Int → Int} (hι : InvF p ι) {W : Nat} {L M : List (Nat → Int)} (hL : ∀ v ∈ L, Wide W v) (hM : ∀ v ∈ M, Wide W v) (h : ∀ v ∈ L, SpL p M v) (k : ∀ v ∈ M, SpL p L v) : elimR p W ι L = elimR p W ι M :=
  elim_same hp hι hL hM fun _ => ⟨SpL.sub h, SpL.sub k⟩
/-- A row lies in the span of a list if and only if nothing is left of it. -/
theorem in_iff {p : Int} (hp : 1 < p) {ι : Int → Int} (hι : InvF p ι) {W : Nat} {L : List (Nat → Int)} (hL : ∀ v ∈ L, Wide W v) (x : Nat → Int) : SpL p L x ↔ ∀ i, redK p (elimR p W ι L) x W i = 0 := by
  have h := elim_ok hp hι L hL
  constructor
  · intro hx i
    have h1 := ((h.2.2 x).2 hx).coef h.1 i
    exact Int.emod_eq_zero_of_dvd h1
  · intro hz
    refine (h.2.2 x).1 ((red_in (p := p) (W := W) (elimR p W ι L) x).congr fun i => ?_)
    show p ∣ x i - (x i - redK p (elimR p W ι L) x W i)
    rw [hz i]
    exact ⟨0, by omega⟩
end Go.Proofs.YtinoomcboinokaaGreat

/- MATHEMATICS: over a field of residues, fewer equations than unknowns have a solution that is not zero. -/
namespace Go.Proofs.YtinoomcboinokaaGreat

/-- All places but u. -/
def skipAt (u v : Nat) : Nat := if v < u then v else v + 1
theorem sm_skip (f : Nat → Int) (u : Nat) : ∀ n, u < n + 1 → sm f (n + 1) = f u + sm (fun v => f (skipAt u v)) n
  | 0, h => by
    have e : u = 0 := by omega
    subst e
    simp [sm]
  | n + 1, h => by
    by_cases e : u = n + 1
    · subst e
      have h1 : sm (fun v => f (skipAt (n + 1) v)) (n + 1) = sm f (n + 1) := sm_congr fun i hi => by
        show f (skipAt (n + 1) i) = f i
        unfold skipAt
        rw [if_pos hi]
      rw [h1]
      show sm f (n + 1) + f (n + 1) = _
      omega
    · have ih := sm_skip f u n (by omega)
      have h1 : skipAt u n = n + 1 := by unfold skipAt; rw [if_neg (by omega)]
      show sm f (n + 1) + f (n + 1) = f u + (sm (fun v => f (skipAt u v)) n + f (skipAt u n))
      rw [ih, h1]
      omega
theorem skipAt_lt {u v n : Nat} (h : v < n) : skipAt u v < n + 1 := by
  unfold skipAt
  split <;> omega
theorem skipAt_ne (u v : Nat) : skipAt u v ≠ u := by
  unfold skipAt
  split <;> omega
/-- The way back. -/
def unskip (u v : Nat) : Nat := if v < u then v else v - 1
theorem unskip_skip (u v : Nat) : unskip u (skipAt u v) = v := by
  unfold unskip skipAt
  by_cases h : v < u
  · rw [if_pos h, if_pos h]
  · rw [if_neg h, if_neg (by omega)]; omega
theorem dep {p : Int} (hp : 1 < p) {ι : Int → Int} (hι : InvF p ι) : ∀ (m n : Nat) (A : Nat → Nat → Int), m < n → ∃ c : Nat → Int, (∃ u, u < n ∧ ¬ p ∣ c u) ∧ ∀ e, e < m → p ∣ sm (fun u => A e u * c u) n
  | 0, n, _, h => ⟨fun _ => 1, ⟨0, h, fun (hd : p ∣ (1 : Int)) => by have := Int.le_of_dvd (by omega) hd; omega⟩, fun e he => absurd he (by omega)⟩
  | m + 1, n, A, h => by
    by_cases hz : ∀ u, u < n → p ∣ A m u
    · obtain ⟨c, hc, he⟩ := dep hp hι m n A (by omega)
      refine ⟨c, hc, fun e hem => ?_⟩
      by_cases e1 : e = m
      · subst e1
        exact sm_dvd fun u hu => Int.dvd_mul_of_dvd_left (hz u hu)
      · exact he e (by omega)
    · obtain ⟨u, hu, hd⟩ : ∃ u, u < n ∧ ¬ p ∣ A m u := by
        apply Classical.byContradiction
        intro hn
        exact hz fun u hu => Classical.byContradiction fun hd => hn ⟨u, hu, hd⟩
      obtain ⟨k, rfl⟩ : ∃ k, n = k + 1 := ⟨n - 1, by omega⟩
      -- the inverse of the coefficient
      obtain ⟨b, hb⟩ : ∃ b, p ∣ A m u * b - 1 := by
        have h1 : 0 < A m u % p := by
          have := Int.emod_nonneg (A m u) (show p ≠ 0 by omega)
          have h2 : A m u % p ≠ 0 := fun e => hd (Int.dvd_of_emod_eq_zero e)
          omega
        have h2 := hι _ h1 (Int.emod_lt_of_pos _ (by omega))
        refine ⟨ι (A m u % p), ?_⟩
        generalize ι (A m u % p) = b at h2
        rw [Int.emod_def (A m u) p, Int.emod_def] at h2
        generalize A m u / p = x at h2
        generalize ((A m u - p * x) * b) / p = y at h2
        rw [Int.sub_mul, Int.mul_assoc] at h2
        refine ⟨x * b + y, ?_⟩
        rw [Int.mul_add]; omega
      obtain ⟨c, ⟨v, hv, hcv⟩, he⟩ := dep hp hι m k (fun e w => A e (skipAt u w) - A e u * b * A m (skipAt u w)) (by omega)
      -- the unknown u is minus b times the sum of the rest
      have hS : ∃ S, S = sm (fun w => A m (skipAt u w) * c w) k := ⟨_, rfl⟩
      obtain ⟨S, hS⟩ := hS
      refine ⟨fun w => if w = u then -(b * S) else c (unskip u w), ⟨skipAt u v, skipAt_lt hv, ?_⟩, fun e hem => ?_⟩
      · show ¬ p ∣ (if skipAt u v = u then -(b * S) else c (unskip u (skipAt u v)))
        rw [if_neg (skipAt_ne u v), unskip_skip]
        exact hcv
      · rw [sm_skip _ u k hu]
        show p ∣ A e u * (if u = u then -(b * S) else c (unskip u u)) + sm (fun w => A e (skipAt u w) * (if skipAt u w = u then -(b * S) else c (unskip u (skipAt u w)))) k
        have h1 : sm (fun w => A e (skipAt u w) * (if skipAt u w = u then -(b * S) else c (unskip u (skipAt u w)))) k = sm (fun w => A e (skipAt u w) * c w) k := sm_congr fun w _ => by
          show A e (skipAt u w) * (if skipAt u w = u then -(b * S) else c (unskip u (skipAt u w))) = A e (skipAt u w) * c w
          rw [if_neg (skipAt_ne u w), unskip_skip]
        rw [if_pos rfl, h1]
        by_cases e1 : e = m
        · subst e1
          rw [← hS]
          obtain ⟨z, hz⟩ := hb
          refine ⟨-(z * S), ?_⟩
          have h2 : A e u * b = 1 + p * z := by omega
          rw [Int.mul_neg, ← Int.mul_assoc, h2, Int.add_mul, Int.one_mul, Int.mul_neg, Int.mul_assoc]
          omega
        · have h2 := he e (by omega)
          have h3 : sm (fun w => (A e (skipAt u w) - A e u * b * A m (skipAt u w)) * c w) k = sm (fun w => A e (skipAt u w) * c w) k - A e u * b * S := by
            rw [hS, sm_mul, sm_sub]
            exact sm_congr fun w _ => by
              show (A e (skipAt u w) - A e u * b * A m (skipAt u w)) * c w = A e (skipAt u w) * c w - A e u * b * (A m (skipAt u w) * c w)
              rw [Int.sub_mul, Int.mul_assoc (A e u * b)]
          have h4 : p ∣ sm (fun w => A e (skipAt u w) * c w) k - A e u * b * S := by
            rw [← h3]; exact h2
          have h5 : A e u * -(b * S) + sm (fun w => A e (skipAt u w) * c w) k = sm (fun w => A e (skipAt u w) * c w) k - A e u * b * S := by
            rw [Int.mul_neg, Int.mul_assoc]; omega
          rw [h5]; exact h4
/-- The pivots, ascending. -/
def pivL (W : Nat) (R : Nat → Option (Nat → Int)) : List Nat := (List.range W).filter fun j => (R j).isSome
theorem pivL_mem {p : Int} {W : Nat} {R : Nat → Option (Nat → Int)} (hE : Ech p W R) {j : Nat} : j ∈ pivL W R ↔ (R j).isSome := by
  unfold pivL
  rw [List.mem_filter, List.mem_range]
  constructor
  · exact fun h => h.2
  · intro h
    refine ⟨?_, h⟩
    cases hR : R j with
    | none => rw [hR] at h; cases h
    | some r => exact hE.below j r hR
theorem InR.sum {p : Int} {W : Nat} {R : Nat → Option (Nat → Int)} (c : Nat → Int) (x : Nat → Nat → Int) : ∀ n, (∀ u, u < n → InR p W R (x u)) → InR p W R (fun i => sm (fun u => c u * x u i) n)
  | 0, _ => InR.nil
  | n + 1, h => (InR.sum c x n (fun u hu => h u (by omega))).add ((h n (by omega)).smul (c n))
/-- More rows of a span than it has pivots are dependent. -/
theorem more_dep {p : Int} (hp : 1 < p) {ι : Int → Int} (hι : InvF p ι) {W : Nat} {R : Nat → Option (Nat → Int)} (hE : Ech p W R) {n : Nat} (x : Nat → Nat → Int) (hx : ∀ u, u < n → InR p W R (x u)) (hn : (pivL W R).length < n) :
    ∃ c : Nat → Int, (∃ u, u < n ∧ ¬ p ∣ c u) ∧ ∀ i, p ∣ sm (fun u => c u * x u i) n := by
  obtain ⟨c, hc, he⟩ := dep hp hι (pivL W R).length n (fun e u => x u ((pivL W R).getD e 0)) hn
  refine ⟨c, hc, fun i => (InR.sum c x n hx).zero hE fun j _ hj => ?_⟩
  obtain ⟨e, hel, hej⟩ := List.mem_iff_getElem.1 ((pivL_mem hE).2 hj)
  have h1 := he e hel
  rw [List.getD_eq_getElem?_getD, List.getElem?_eq_getElem hel] at h1
  have h2 : sm (fun u => x u j * c u) n = sm (fun u => c u * x u j) n := sm_congr fun u _ => Int.mul_comm _ _
  rw [← h2]
  rw [← hej]
  exact h1
/-- The kept rows are independent. -/
theorem piv_indep {p : Int} {W : Nat} {R : Nat → Option (Nat → Int)} (hE : Ech p W R) (c : Nat → Int) (h : ∀ i, p ∣ sm (fun j => c j * rowAt R j i) W) {j : Nat} (hj : (R j).isSome) : p ∣ c j := by
  cases hR : R j with
  | none => rw [hR] at hj; cases hj
  | some r =>
    have h1 := h j
    rw [sm_one (k := j) (hE.below j r hR) fun k _ hne => ?_] at h1
    · have e : c j * rowAt R j j = c j := by rw [rowAt_some hR, hE.one j r hR, Int.mul_one]
      rwa [e] at h1
    · show c k * rowAt R k j = 0
      cases hk : R k with
      | none => rw [rowAt_none hk, Int.mul_zero]
      | some q => rw [rowAt_some hk, hE.other k q j hk hj (Ne.symm hne), Int.mul_zero]
/-- A linear map of rows, modulo p. -/
structure LinF (p : Int) (φ : (Nat → Int) → Nat → Int) : Prop where
  zero : ∀ i, p ∣ φ (fun _ => 0) i
  add : ∀ u v i, p ∣ φ (fun i => u i + v i) i - (φ u i + φ v i)
  smul : ∀ t u i, p ∣ φ (fun i => t * u i) i - t * φ u i
theorem LinF.sum {p : Int} {φ : (Nat → Int) → Nat → Int} (h : LinF p φ) (c : Nat → Int) (x : Nat → Nat → Int) (i : Nat) : ∀ n, p ∣ φ (fun i => sm (fun u => c u * x u i) n) i - sm (fun u => c u * φ (x u) i) n
  | 0 => by
    show p ∣ φ (fun _ => 0) i - 0
    rw [Int.sub_zero]; exact h.zero i
  | n + 1 => by
    have h1 := h.sum c x i n
    have h2 := h.add (fun i => sm (fun u => c u * x u i) n) (fun i => c n * x n i) i
    have h3 := h.smul (c n) (x n) i
    have h4 := Int.dvd_add (Int.dvd_add h1 h2) h3
    show p ∣ φ (fun i => sm (fun u => c u * x u i) n + c n * x n i) i - (sm (fun u => c u * φ (x u) i) n + c n * φ (x n) i)
    generalize φ (fun i => sm (fun u => c u * x u i) n + c n * x n i) i = a at h4 ⊢
    generalize φ (fun i => sm (fun u => c u * x u i) n) i = b at h4
    generalize φ (fun i => c n * x n i) i = d at h4
    generalize c n * φ (x n) i = f at h4 ⊢
    generalize sm (fun u => c u * φ (x u) i) n = g at h4 ⊢
    rwa [show b - g + (a - (b + d)) + (d - f) = a - (g + f) by omega] at h4
theorem pivL_less (W : Nat) (R : Nat → Option (Nat → Int)) : (pivL W R).Pairwise (· < ·) := List.Pairwise.sublist List.filter_sublist List.pairwise_lt_range
/-- A linear map that is one to one on a span does not take it to one with fewer pivots. -/
theorem rank_inj {p : Int} (hp : 1 < p) {ι : Int → Int} (hι : InvF p ι) {W W' : Nat} {R R' : Nat → Option (Nat → Int)} (hE : Ech p W R) (hE' : Ech p W' R') {φ : (Nat → Int) → Nat → Int} (hφ : LinF p φ) (hto : ∀ v, InR p W R v → InR p W' R' (φ v)) (hinj : ∀ v, InR p W R v → (∀ i, p ∣ φ v i) → ∀ i, p ∣ v i) :
    (pivL W R).length ≤ (pivL W' R').length := by
  apply Classical.byContradiction
  intro hn
  have hrow : ∀ u, u < (pivL W R).length → ∃ r, R ((pivL W R).getD u 0) = some r := fun u hu => by
    have hm : (pivL W R).getD u 0 ∈ pivL W R := by
      rw [List.getD_eq_getElem?_getD, List.getElem?_eq_getElem hu]
      exact List.getElem_mem hu
    have h1 := (pivL_mem hE).1 hm
    cases hR : R ((pivL W R).getD u 0) with
    | none => rw [hR] at h1; cases h1
    | some r => exact ⟨r, rfl⟩
  have hin : ∀ u, u < (pivL W R).length → InR p W R (fun i => rowAt R ((pivL W R).getD u 0) i) := fun u hu => by
    obtain ⟨r, hr⟩ := hrow u hu
    have e : (fun i => rowAt R ((pivL W R).getD u 0) i) = r := by funext i; exact rowAt_some hr i
    rw [e]; exact InR.row hE hr
  obtain ⟨c, ⟨u, hu, hcu⟩, hc⟩ := more_dep hp hι hE' (n := (pivL W R).length) (fun u => φ fun i => rowAt R ((pivL W R).getD u 0) i) (fun u hu => hto _ (hin u hu)) (by omega)
  have hz := hinj _ (InR.sum c (fun u i => rowAt R ((pivL W R).getD u 0) i) _ hin) fun i => by
    have h1 := hφ.sum c (fun u i => rowAt R ((pivL W R).getD u 0) i) i (pivL W R).length
    have h2 := Int.dvd_add h1 (hc i)
    rwa [Int.sub_add_cancel] at h2
  apply hcu
  have h1 := hz ((pivL W R).getD u 0)
  obtain ⟨r, hr⟩ := hrow u hu
  rw [sm_one (k := u) hu fun k hk hne => ?_] at h1
  · have e : c u * rowAt R ((pivL W R).getD u 0) ((pivL W R).getD u 0) = c u := by rw [rowAt_some hr, hE.one _ r hr, Int.mul_one]
    rwa [e] at h1
  · show c k * rowAt R ((pivL W R).getD k 0) ((pivL W R).getD u 0) = 0
    obtain ⟨q, hq⟩ := hrow k hk
    have hne2 : (pivL W R).getD u 0 ≠ (pivL W R).getD k 0 := fun e => by
      rw [List.getD_eq_getElem?_getD, List.getElem?_eq_getElem hu, List.getD_eq_getElem?_getD, List.getElem?_eq_getElem hk] at e
      simp only [Option.getD_some] at e
      have hlt := List.pairwise_iff_getElem.1 (pivL_less W R)
      rcases Nat.lt_or_gt_of_ne hne with h | h
      · have := hlt k u hk hu h
        omega
      · have := hlt u k hu hk h
        omega
    rw [rowAt_some hq, hE.other _ q _ hq (by rw [hr]; rfl) hne2, Int.mul_zero]
end Go.Proofs.YtinoomcboinokaaGreat

/- MATHEMATICS: the kept rows whose pivots lie from n on, without their first n entries: they are reduced, and their span is what the span holds of rows that begin with n zeros. -/
namespace Go.Proofs.YtinoomcboinokaaGreat

theorem sm_split (f : Nat → Int) (n : Nat) : ∀ m, sm f (n + m) = sm f n + sm (fun i => f (n + i)) m
  | 0 => by simp [sm]
  | m + 1 => by
    have := sm_split f n m
    show sm f (n + m) + f (n + m) = sm f n + (sm (fun i => f (n + i)) m + f (n + m))
    omega
def afterR (n : Nat) (R : Nat → Option (Nat → Int)) (k : Nat) : Option (Nat → Int) := (R (n + k)).map fun r i => r (n + i)
theorem afterR_some {n : Nat} {R : Nat → Option (Nat → Int)} {k : Nat} {s : Nat → Int} (h : afterR n R k = some s) : ∃ r, R (n + k) = some r ∧ s = fun i => r (n + i) := by
  unfold afterR at h
  cases hR : R (n + k) with
  | none => rw [hR] at h; cases h
  | some r =>
    rw [hR] at h
    injection h with h
    exact ⟨r, rfl, h.symm⟩
theorem afterR_is {n : Nat} {R : Nat → Option (Nat → Int)} {k : Nat} (h : (afterR n R k).isSome) : (R (n + k)).isSome := by
  cases e : afterR n R k with
  | none => rw [e] at h; cases h
  | some s =>
    obtain ⟨r, hr, _⟩ := afterR_some e
    rw [hr]; rfl
theorem rowAt_after (n : Nat) (R : Nat → Option (Nat → Int)) (k i : Nat) : rowAt (afterR n R) k i = rowAt R (n + k) (n + i) := by
  cases hR : R (n + k) with
  | none =>
    rw [rowAt_none hR, rowAt_none]
    unfold afterR
    rw [hR]; rfl
  | some r =>
    rw [rowAt_some hR]
    have h : afterR n R k = some (fun i => r (n + i)) := by
      unfold afterR
      rw [hR]; rfl
    rw [rowAt_some h]
theorem after_ech {p : Int} {n W : Nat} {R : Nat → Option (Nat → Int)} (hE : Ech p (n + W) R) : Ech p W (afterR n R) := by
  refine ⟨fun k s h => ?_, fun k s h => ?_, fun k s i h hi => ?_, fun k s l h hl hne => ?_, fun k s i h => ?_⟩
  all_goals obtain ⟨r, hr, rfl⟩ := afterR_some h
  · have := hE.below _ r hr
    omega
  · exact hE.one _ r hr
  · exact hE.lead _ r (n + i) hr (by omega)
  · exact hE.other _ r (n + l) hr (afterR_is hl) (by omega)
  · exact hE.low _ r (n + i) hr
/-- n zeros, then x. -/
def behind (n : Nat) (x : Nat → Int) (i : Nat) : Int := if i < n then 0 else x (i - n)
theorem behind_lo {n i : Nat} (x : Nat → Int) (h : i < n) : behind n x i = 0 := by unfold behind; rw [if_pos h]
theorem behind_hi (n i : Nat) (x : Nat → Int) : behind n x (n + i) = x i := by unfold behind; rw [if_neg (by omega), Nat.add_sub_cancel_left]
theorem after_span {p : Int} {n W : Nat} {R : Nat → Option (Nat → Int)} (hE : Ech p (n + W) R) (x : Nat → Int) : InR p W (afterR n R) x ↔ InR p (n + W) R (behind n x) := by
  constructor
  · rintro ⟨c, hc⟩
    refine ⟨behind n c, fun i => ?_⟩
    have h0 : sm (fun j => behind n c j * rowAt R j i) n = 0 := sm_zero fun j hj => by
      show behind n c j * rowAt R j i = 0
      rw [behind_lo c hj, Int.zero_mul]
    have h1 : sm (fun k => behind n c (n + k) * rowAt R (n + k) i) W = sm (fun k => c k * rowAt R (n + k) i) W := sm_congr fun k _ => by
      show behind n c (n + k) * rowAt R (n + k) i = c k * rowAt R (n + k) i
      rw [behind_hi]
    rw [sm_split, h0, h1, Int.zero_add]
    rcases Nat.lt_or_ge i n with hi | hi
    · rw [behind_lo x hi, sm_zero fun k _ => ?_]
      · exact ⟨0, by simp⟩
      · show c k * rowAt R (n + k) i = 0
        cases hR : R (n + k) with
        | none => rw [rowAt_none hR, Int.mul_zero]
        | some r => rw [rowAt_some hR, hE.lead _ r i hR (by omega), Int.mul_zero]
    · obtain ⟨t, rfl⟩ : ∃ t, i = n + t := ⟨i - n, by omega⟩
      rw [behind_hi]
      have h2 := hc t
      have h3 : sm (fun j => c j * rowAt (afterR n R) j t) W = sm (fun k => c k * rowAt R (n + k) (n + t)) W := sm_congr fun k _ => by
        show c k * rowAt (afterR n R) k t = c k * rowAt R (n + k) (n + t)
        rw [rowAt_after]
      rwa [h3] at h2
  · intro h
    refine ⟨x, fun i => ?_⟩
    have h1 := h.coef hE (n + i)
    have h0 : sm (fun j => behind n x j * rowAt R j (n + i)) n = 0 := sm_zero fun j hj => by
      show behind n x j * rowAt R j (n + i) = 0
      rw [behind_lo x hj, Int.zero_mul]
    have h2 : sm (fun k => behind n x (n + k) * rowAt R (n + k) (n + i)) W = sm (fun k => x k * rowAt (afterR n R) k i) W := sm_congr fun k _ => by
      show behind n x (n + k) * rowAt R (n + k) (n + i) = x k * rowAt (afterR n R) k i
      rw [behind_hi, rowAt_after]
    rw [sm_split, h0, h2, Int.zero_add, behind_hi] at h1
    exact h1
end Go.Proofs.YtinoomcboinokaaGreat

/- MATHEMATICS: reducing a row by the pivots one after the other. -/
namespace Go.Proofs.YtinoomcboinokaaGreat

theorem redK_skip {p : Int} {R : Nat → Option (Nat → Int)} (v : Nat → Int) {a : Nat} : ∀ d, (∀ j, a ≤ j → j < a + d → R j = none) → redK p R v (a + d) = redK p R v a
  | 0, _ => rfl
  | d + 1, h => by
    have ih := redK_skip (p := p) v d fun j h1 h2 => h j h1 (by omega)
    rw [← ih]
    funext i
    rw [← Nat.add_assoc]
    exact redK_none (h (a + d) (by omega) (by omega)) v i
/-- The place of the k-th pivot; behind the last one the width. -/
def posP (W : Nat) (ls : List Nat) (k : Nat) : Nat := if k < ls.length then ls.getD k 0 else W
theorem pairwise_le {ls : List Nat} (h : ls.Pairwise (· < ·)) {i j : Nat} (hij : i ≤ j) (hj : j < ls.length) : ls.getD i 0 ≤ ls.getD j 0 := by
  rcases Nat.lt_or_eq_of_le hij with hlt | rfl
  · have := List.pairwise_iff_getElem.1 h i j (by omega) hj hlt
    simp [List.getD_eq_getElem?_getD, hj, show i < ls.length by omega]
    omega
  · exact Nat.le_refl _
theorem mem_getD {ls : List Nat} {j : Nat} (h : j ∈ ls) : ∃ i, i < ls.length ∧ ls.getD i 0 = j := by
  obtain ⟨i, hi, e⟩ := List.getElem_of_mem h
  exact ⟨i, hi, by simp [List.getD_eq_getElem?_getD, hi, e]⟩
theorem getD_mem {ls : List Nat} {i : Nat} (h : i < ls.length) : ls.getD i 0 ∈ ls := by
  simp [List.getD_eq_getElem?_getD, h]
theorem pos_gap {p : Int} {W : Nat} {R : Nat → Option (Nat → Int)} (hE : Ech p W R) {k a : Nat} (ha : k = 0 ∨ (0 < k ∧ k ≤ (pivL W R).length ∧ a = (pivL W R).getD (k - 1) 0 + 1)) {j : Nat} (h1 : a ≤ j) (h2 : j < posP W (pivL W R) k) : R j = none := by
  cases hR : R j with
  | none => rfl
  | some r =>
    exfalso
    have hm : j ∈ pivL W R := (pivL_mem hE).2 (by rw [hR]; rfl)
    obtain ⟨i, hi, e⟩ := mem_getD hm
    have hs := pivL_less W R
    have hki : k ≤ i := by
      rcases ha with h0 | ⟨h0, h3, h4⟩
      · omega
      · by_cases hlt : i ≤ k - 1
        · have := pairwise_le hs hlt (by omega); omega
        · omega
    have hle := pairwise_le hs hki hi
    unfold posP at h2
    rw [if_pos (by omega)] at h2
    omega
theorem pos_below {p : Int} {W : Nat} {R : Nat → Option (Nat → Int)} (hE : Ech p W R) (k : Nat) : posP W (pivL W R) k ≤ W := by
  unfold posP
  split
  · rename_i h
    have := (pivL_mem hE).1 (getD_mem h)
    cases hR : R ((pivL W R).getD k 0) with
    | none => rw [hR] at this; cases this
    | some r => exact Nat.le_of_lt (hE.below _ _ hR)
  · exact Nat.le_refl _
/-- The row behind k pivots. -/
def redP (p : Int) (W : Nat) (R : Nat → Option (Nat → Int)) (v : Nat → Int) (k : Nat) : Nat → Int := redK p R v (posP W (pivL W R) k)
theorem redP_start {p : Int} {W : Nat} {R : Nat → Option (Nat → Int)} (hE : Ech p W R) (v : Nat → Int) : redP p W R v 0 = fun i => v i % p := by
  have h := redK_skip (p := p) (R := R) v (a := 0) (posP W (pivL W R) 0) fun j h1 h2 => pos_gap hE (a := 0) (.inl rfl) h1 (by omega)
  rw [Nat.zero_add] at h
  unfold redP
  rw [h]
  funext i
  exact redK_start p R v i
theorem redP_end (p : Int) (W : Nat) (R : Nat → Option (Nat → Int)) (v : Nat → Int) : redP p W R v (pivL W R).length = redK p R v W := by
  unfold redP posP
  rw [if_neg (by omega)]
theorem redP_step {p : Int} {W : Nat} {R : Nat → Option (Nat → Int)} (hE : Ech p W R) (v : Nat → Int) {k : Nat} (hk : k < (pivL W R).length) {r : Nat → Int} (hr : R ((pivL W R).getD k 0) = some r) (i : Nat) :
    redP p W R v (k + 1) i = (redP p W R v k i + (p - redP p W R v k ((pivL W R).getD k 0)) * r i) % p := by
  have hpos : posP W (pivL W R) k = (pivL W R).getD k 0 := by unfold posP; rw [if_pos hk]
  have hge : (pivL W R).getD k 0 + 1 ≤ posP W (pivL W R) (k + 1) := by
    unfold posP
    split
    · rename_i h
      have := List.pairwise_iff_getElem.1 (pivL_less W R) k (k + 1) hk h (by omega)
      simp only [List.getD_eq_getElem?_getD, List.getElem?_eq_getElem hk, List.getElem?_eq_getElem h, Option.getD_some]
      omega
    · exact hE.below _ _ hr
  have h := redK_skip (p := p) (R := R) v (a := (pivL W R).getD k 0 + 1) (posP W (pivL W R) (k + 1) - ((pivL W R).getD k 0 + 1)) fun j h1 h2 => pos_gap hE (a := (pivL W R).getD k 0 + 1) (k := k + 1) (.inr ⟨by omega, by omega, by simp⟩) h1 (by omega)
  rw [show (pivL W R).getD k 0 + 1 + (posP W (pivL W R) (k + 1) - ((pivL W R).getD k 0 + 1)) = posP W (pivL W R) (k + 1) by omega] at h
  unfold redP
  rw [h, hpos]
  exact (redK_some hE hr v i).symm
theorem redP_low {p : Int} (hp : 1 < p) (W : Nat) (R : Nat → Option (Nat → Int)) (v : Nat → Int) (k i : Nat) : 0 ≤ redP p W R v k i ∧ redP p W R v k i < p := redK_low hp R v _ i
end Go.Proofs.YtinoomcboinokaaGreat

/- MATHEMATICS: a row reduced by kept rows; a reduced row that is kept; what that does to the span. -/
import Derived.Test.YtikggkahlpplpaaLinEch
namespace Go.Proofs.Ytikggkahlpplpaa

theorem sm_mul (t : Int) (f : Nat → Int) : ∀ n, t * sm f n = sm (fun i => t * f i) n
  | 0 => by simp [sm]
  | n + 1 => by
    have := sm_mul t f n
    simp only [sm, Int.mul_add, this]
theorem sm_add (f g : Nat → Int) : ∀ n, sm f n + sm g n = sm (fun i => f i + g i) n
  | 0 => rfl
  | n + 1 => by
    have := sm_add f g n
    simp only [sm]
    omega
theorem InR.congr {p : Int} {W : Nat} {R : Nat → Option (Nat → Int)} {u v : Nat → Int} (h : InR p W R u) (e : ∀ i, p ∣ v i - u i) : InR p W R v := by
  obtain ⟨c, hc⟩ := h
  refine ⟨c, fun i => ?_⟩
  have h1 := Int.dvd_add (e i) (hc i)
  have e2 : v i - u i + (u i - sm (fun j => c j * rowAt R j i) W) = v i - sm (fun j => c j * rowAt R j i) W := by omega
  rwa [e2] at h1
theorem InR.add {p : Int} {W : Nat} {R : Nat → Option (Nat → Int)} {u v : Nat → Int} (h : InR p W R u) (k : InR p W R v) : InR p W R (fun i => u i + v i) := by
  obtain ⟨c, hc⟩ := h
  obtain ⟨d, hd⟩ := k
  refine ⟨fun j => c j + d j, fun i => ?_⟩
  have h1 := Int.dvd_add (hc i) (hd i)
  have e : sm (fun j => (c j + d j) * rowAt R j i) W = sm (fun j => c j * rowAt R j i) W + sm (fun j => d j * rowAt R j i) W := by
    rw [sm_add]
    exact sm_congr fun j _ => Int.add_mul _ _ _
  have e2 : u i - sm (fun j => c j * rowAt R j i) W + (v i - sm (fun j => d j * rowAt R j i) W) = u i + v i - sm (fun j => (c j + d j) * rowAt R j i) W := by rw [e]; omega
  rwa [e2] at h1
theorem InR.smul {p : Int} {W : Nat} {R : Nat → Option (Nat → Int)} {u : Nat → Int} (t : Int) (h : InR p W R u) : InR p W R (fun i => t * u i) := by
  obtain ⟨c, hc⟩ := h
  refine ⟨fun j => t * c j, fun i => ?_⟩
  have h1 := Int.dvd_mul_of_dvd_right (b := t) (hc i)
  have e : sm (fun j => t * c j * rowAt R j i) W = t * sm (fun j => c j * rowAt R j i) W := by
    rw [sm_mul]
    exact sm_congr fun j _ => Int.mul_assoc _ _ _
  show p ∣ t * u i - sm (fun j => t * c j * rowAt R j i) W
  rw [e, ← Int.mul_sub]
  exact h1
theorem InR.nil {p : Int} {W : Nat} {R : Nat → Option (Nat → Int)} : InR p W R (fun _ => 0) :=
  ⟨fun _ => 0, fun i => by
    rw [sm_zero (fun j _ => Int.zero_mul _)]
    exact ⟨0, by simp⟩⟩
/-- What holds for zero, and for what it holds for with a multiple of a row added, holds in the span. -/
theorem InR.ind {p : Int} {W : Nat} {R : Nat → Option (Nat → Int)} {P : (Nat → Int) → Prop} (h0 : P fun _ => 0) (hc : ∀ u v, P u → (∀ i, p ∣ v i - u i) → P v) (ha : ∀ u t j r, P u → R j = some r → P fun i => u i + t * r i) {v : Nat → Int} (h : InR p W R v) : P v := by
  obtain ⟨c, h⟩ := h
  refine hc _ v ?_ h
  suffices hs : ∀ n, P fun i => sm (fun j => c j * rowAt R j i) n from hs W
  intro n
  induction n with
  | zero => exact h0
  | succ n ih =>
    cases hR : R n with
    | none =>
      refine hc _ _ ih fun i => ?_
      show p ∣ sm (fun j => c j * rowAt R j i) n + c n * rowAt R n i - sm (fun j => c j * rowAt R j i) n
      rw [rowAt_none hR]
      exact ⟨0, by simp⟩
    | some r =>
      have := ha _ (c n) n r ih hR
      refine hc _ _ this fun i => ?_
      show p ∣ sm (fun j => c j * rowAt R j i) n + c n * rowAt R n i - (sm (fun j => c j * rowAt R j i) n + c n * r i)
      rw [rowAt_some hR, Int.sub_self]
      exact ⟨0, by simp⟩

/-- A row, after the pivots below k have been made 0. -/
def redK (p : Int) (R : Nat → Option (Nat → Int)) (v : Nat → Int) (k i : Nat) : Int := (v i - sm (fun j => v j * rowAt R j i) k) % p
theorem redK_start (p : Int) (R : Nat → Option (Nat → Int)) (v : Nat → Int) (i : Nat) : redK p R v 0 i = v i % p := by simp [redK, sm]
theorem redK_none {p : Int} {R : Nat → Option (Nat → Int)} {k : Nat} (h : R k = none) (v : Nat → Int) (i : Nat) : redK p R v (k + 1) i = redK p R v k i := by
  unfold redK
  simp only [sm]
  rw [rowAt_none h, Int.mul_zero, Int.add_zero]
theorem redK_at {p : Int} {W : Nat} {R : Nat → Option (Nat → Int)} (hE : Ech p W R) {k : Nat} (hk : (R k).isSome) (v : Nat → Int) : redK p R v k k = v k % p := by
  unfold redK
  rw [sm_zero fun j hj => ?_, Int.sub_zero]
  show v j * rowAt R j k = 0
  cases hR : R j with
  | none => rw [rowAt_none hR, Int.mul_zero]
  | some q => rw [rowAt_some hR, hE.other j q k hR hk (by omega), Int.mul_zero]
theorem mod_step (a x r p : Int) : (a % p + (p - x % p) * r) % p = (a - x * r) % p := by
  apply Int.emod_eq_emod_iff_emod_sub_eq_zero.2
  apply Int.emod_eq_zero_of_dvd
  rw [Int.emod_def a p, Int.emod_def x p]
  generalize a / p = A
  generalize x / p = X
  refine ⟨-A + r + X * r, ?_⟩
  rw [Int.sub_mul, Int.sub_mul, Int.mul_add, Int.mul_add, Int.mul_neg, Int.mul_assoc]
  omega
theorem redK_some {p : Int} {W : Nat} {R : Nat → Option (Nat → Int)} (hE : Ech p W R) {k : Nat} {r : Nat → Int} (h : R k = some r) (v : Nat → Int) (i : Nat) :
    (redK p R v k i + (p - redK p R v k k) * r i) % p = redK p R v (k + 1) i := by
  rw [redK_at hE (by rw [h]; rfl)]
  unfold redK
  simp only [sm]
  rw [rowAt_some h]
  rw [show v i - (sm (fun j => v j * rowAt R j i) k + v k * r i) = (v i - sm (fun j => v j * rowAt R j i) k) - v k * r i by omega]
  generalize v i - sm (fun j => v j * rowAt R j i) k = a
  exact mod_step a (v k) (r i) p
/-- The span when a reduced row q with the pivot j is kept, and taken off the others. -/
def keepR (p : Int) (R : Nat → Option (Nat → Int)) (j : Nat) (q : Nat → Int) (k : Nat) : Option (Nat → Int) :=
  if k = j then some q else (R k).map fun r i => (r i + (p - r j) * q i) % p
/-- A row that may be kept. -/
structure NewRow (p : Int) (W : Nat) (R : Nat → Option (Nat → Int)) (j : Nat) (q : Nat → Int) : Prop where
  below : j < W
  one : q j = 1
  lead : ∀ i, i < j → q i = 0
  other : ∀ k, (R k).isSome → q k = 0
  low : ∀ i, 0 ≤ q i ∧ q i < p
theorem NewRow.none {p : Int} {W : Nat} {R : Nat → Option (Nat → Int)} {j : Nat} {q : Nat → Int} (h : NewRow p W R j q) : R j = none := by
  cases hR : R j with
  | none => rfl
  | some r =>
    have h1 := h.other j (by rw [hR]; rfl)
    rw [h.one] at h1
    cases h1
theorem keepR_cases {p : Int} {R : Nat → Option (Nat → Int)} {j : Nat} {q : Nat → Int} {k : Nat} {s : Nat → Int} (h : keepR p R j q k = some s) :
    (k = j ∧ s = q) ∨ (k ≠ j ∧ ∃ r, R k = some r ∧ s = fun i => (r i + (p - r j) * q i) % p) := by
  unfold keepR at h
  by_cases e : k = j
  · rw [if_pos e] at h
    injection h with h
    exact .inl ⟨e, h.symm⟩
  · rw [if_neg e] at h
    cases hR : R k with
    | none => rw [hR] at h; cases h
    | some r =>
      rw [hR] at h
      injection h with h
      exact .inr ⟨e, r, rfl, h.symm⟩
theorem Ech.keep {p : Int} (hp : 1 < p) {W : Nat} {R : Nat → Option (Nat → Int)} {j : Nat} {q : Nat → Int} (hE : Ech p W R) (hq : NewRow p W R j q) : Ech p W (keepR p R j q) := by
  refine ⟨fun k s h => ?_, fun k s h => ?_, fun k s i h hi => ?_, fun k s l h hl hne => ?_, fun k s i h => ?_⟩
  · rcases keepR_cases h with ⟨rfl, _⟩ | ⟨_, r, hr, _⟩
    · exact hq.below
    · exact hE.below k r hr
  · rcases keepR_cases h with ⟨rfl, rfl⟩ | ⟨_, r, hr, rfl⟩
    · exact hq.one
    · show (r k + (p - r j) * q k) % p = 1
      rw [hE.one k r hr, hq.other k (by rw [hr]; rfl), Int.mul_zero, Int.add_zero]
      exact Int.emod_eq_of_lt (by omega) hp
  · rcases keepR_cases h with ⟨rfl, rfl⟩ | ⟨_, r, hr, rfl⟩
    · exact hq.lead i hi
    · show (r i + (p - r j) * q i) % p = 0
      rw [hE.lead k r i hr hi, Int.zero_add]
      by_cases hij : i < j
      · rw [hq.lead i hij, Int.mul_zero]; exact Int.zero_emod p
      · rw [hE.lead k r j hr (by omega), Int.sub_zero]; exact Int.mul_emod_right p _
  · rcases keepR_cases h with ⟨rfl, rfl⟩ | ⟨_, r, hr, rfl⟩
    · refine hq.other l ?_
      unfold keepR at hl
      rw [if_neg hne] at hl
      cases hR : R l with
      | none => rw [hR] at hl; cases hl
      | some _ => rfl
    · show (r l + (p - r j) * q l) % p = 0
      by_cases e : l = j
      · subst e
        rw [hq.one, Int.mul_one, show r l + (p - r l) = p by omega]
        exact Int.emod_self
      · unfold keepR at hl
        rw [if_neg e] at hl
        have hl2 : (R l).isSome := by
          cases hR : R l with
          | none => rw [hR] at hl; cases hl
          | some _ => rfl
        rw [hE.other k r l hr hl2 hne, hq.other l hl2, Int.mul_zero, Int.add_zero]
        exact Int.zero_emod p
  · rcases keepR_cases h with ⟨rfl, rfl⟩ | ⟨_, r, hr, rfl⟩
    · exact hq.low i
    · exact ⟨Int.emod_nonneg _ (by omega), Int.emod_lt_of_pos _ (by omega)⟩
/-- The span with a row more. -/
theorem keep_span {p : Int} (hp : 1 < p) {W : Nat} {R : Nat → Option (Nat → Int)} {j : Nat} {q : Nat → Int} (hE : Ech p W R) (hq : NewRow p W R j q) (x : Nat → Int) :
    InR p W (keepR p R j q) x ↔ ∃ t, InR p W R (fun i => x i - t * q i) := by
  have hE' := Ech.keep hp hE hq
  have hqin : InR p W (keepR p R j q) q := InR.row hE' (j := j) (by unfold keepR; rw [if_pos rfl])
  constructor
  · intro h
    refine InR.ind (P := fun x => ∃ t, InR p W R (fun i => x i - t * q i)) ⟨0, ?_⟩ ?_ ?_ h
    · exact InR.nil.congr fun i => ⟨0, by simp⟩
    · rintro u v ⟨t, ht⟩ e
      exact ⟨t, ht.congr fun i => by rw [show v i - t * q i - (u i - t * q i) = v i - u i by omega]; exact e i⟩
    · rintro u t k s ⟨t1, ht⟩ hs
      rcases keepR_cases hs with ⟨rfl, rfl⟩ | ⟨_, r, hr, rfl⟩
      · exact ⟨t1 + t, ht.congr fun i => by
          rw [Int.add_mul, show u i + t * s i - (t1 * s i + t * s i) - (u i - t1 * s i) = 0 by omega]
          exact ⟨0, by simp⟩⟩
      · refine ⟨t1 + t * (p - r j), (ht.add ((InR.row hE hr).smul t)).congr fun i => ?_⟩
        show p ∣ u i + t * ((r i + (p - r j) * q i) % p) - (t1 + t * (p - r j)) * q i - (u i - t1 * q i + t * r i)
        rw [Int.add_mul, Int.mul_assoc, Int.emod_def]
        generalize (p - r j) * q i = y
        generalize (r i + y) / p = z
        rw [Int.mul_sub, Int.mul_add]
        refine ⟨-(t * z), ?_⟩
        rw [Int.mul_neg, ← Int.mul_assoc t p z, Int.mul_comm t p, Int.mul_assoc]
        omega
  · rintro ⟨t, ht⟩
    have h1 : ∀ v, InR p W R v → InR p W (keepR p R j q) v := fun v hv => by
      refine InR.ind (P := fun x => InR p W (keepR p R j q) x) InR.nil (fun u v h e => h.congr e) ?_ hv
      intro u t k r hu hr
      have hkj : k ≠ j := fun e => by rw [e, hq.none] at hr; cases hr
      have hs : keepR p R j q k = some (fun i => (r i + (p - r j) * q i) % p) := by
        unfold keepR
        rw [if_neg hkj, hr]; rfl
      have hrow := InR.row hE' hs
      refine ((hu.add (hrow.smul t)).add (hqin.smul (t * (r j - p)))).congr fun i => ?_
      show p ∣ u i + t * r i - (u i + t * ((r i + (p - r j) * q i) % p) + t * (r j - p) * q i)
      rw [Int.emod_def, Int.mul_assoc, show (r j - p) * q i = -((p - r j) * q i) by rw [← Int.neg_mul, Int.neg_sub]]
      generalize (p - r j) * q i = y
      generalize (r i + y) / p = z
      rw [Int.mul_sub, Int.mul_add, Int.mul_neg]
      refine ⟨t * z, ?_⟩
      rw [← Int.mul_assoc t p z, Int.mul_comm t p, Int.mul_assoc]
      omega
    refine ((h1 _ ht).add (hqin.smul t)).congr fun i => ?_
    show p ∣ x i - (x i - t * q i + t * q i)
    rw [show x i - (x i - t * q i + t * q i) = 0 by omega]
    exact ⟨0, by simp⟩
end Go.Proofs.Ytikggkahlpplpaa

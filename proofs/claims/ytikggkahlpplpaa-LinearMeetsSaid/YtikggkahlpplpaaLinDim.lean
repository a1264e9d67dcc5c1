/- MATHEMATICS: over a field of residues, fewer equations than unknowns have a solution that is not zero. -/
import Derived.Test.YtikggkahlpplpaaLinSpan
namespace Go.Proofs.Ytikggkahlpplpaa

/-- All places but u. -/
def skipAt (u v : Nat) : Nat := if v < u then v else v + 1
theorem sm_skip (f : Nat → Int) (u : Nat) : ∀ n, u < n + 1 → sm f (n + 1) = f u + sm (fun v => f (skipAt u v)) n
  | 0, h => by
    have e : u = 0 := by omega
    subst e
    simp [sm]
  | n + 1, h => by
    by_cases e : u = n + 1
    · subst e
      have h1 : sm (fun v => f (skipAt (n + 1) v)) (n + 1) = sm f (n + 1) := sm_congr fun i hi => by
        show f (skipAt (n + 1) i) = f i
        unfold skipAt
        rw [if_pos hi]
      rw [h1]
      show sm f (n + 1) + f (n + 1) = _
      omega
    · have ih := sm_skip f u n (by omega)
      have h1 : skipAt u n = n + 1 := by unfold skipAt; rw [if_neg (by omega)]
      show sm f (n + 1) + f (n + 1) = f u + (sm (fun v => f (skipAt u v)) n + f (skipAt u n))
      rw [ih, h1]
      omega
theorem skipAt_lt {u v n : Nat} (h : v < n) : skipAt u v < n + 1 := by
  unfold skipAt
  split <;> omega
theorem skipAt_ne (u v : Nat) : skipAt u v ≠ u := by
  unfold skipAt
  split <;> omega
/-- The way back. -/
def unskip (u v : Nat) : Nat := if v < u then v else v - 1
theorem unskip_skip (u v : Nat) : unskip u (skipAt u v) = v := by
  unfold unskip skipAt
  by_cases h : v < u
  · rw [if_pos h, if_pos h]
  · rw [if_neg h, if_neg (by omega)]; omega
theorem dep {p : Int} (hp : 1 < p) {ι : Int → Int} (hι : InvF p ι) : ∀ (m n : Nat) (A : Nat → Nat → Int), m < n → ∃ c : Nat → Int, (∃ u, u < n ∧ ¬ p ∣ c u) ∧ ∀ e, e < m → p ∣ sm (fun u => A e u * c u) n
  | 0, n, _, h => ⟨fun _ => 1, ⟨0, h, fun (hd : p ∣ (1 : Int)) => by have := Int.le_of_dvd (by omega) hd; omega⟩, fun e he => absurd he (by omega)⟩
  | m + 1, n, A, h => by
    by_cases hz : ∀ u, u < n → p ∣ A m u
    · obtain ⟨c, hc, he⟩ := dep hp hι m n A (by omega)
      refine ⟨c, hc, fun e hem => ?_⟩
      by_cases e1 : e = m
      · subst e1
        exact sm_dvd fun u hu => Int.dvd_mul_of_dvd_left (hz u hu)
      · exact he e (by omega)
    · obtain ⟨u, hu, hd⟩ : ∃ u, u < n ∧ ¬ p ∣ A m u := by
        apply Classical.byContradiction
        intro hn
        exact hz fun u hu => Classical.byContradiction fun hd => hn ⟨u, hu, hd⟩
      obtain ⟨k, rfl⟩ : ∃ k, n = k + 1 := ⟨n - 1, by omega⟩
      -- the inverse of the coefficient
      obtain ⟨b, hb⟩ : ∃ b, p ∣ A m u * b - 1 := by
        have h1 : 0 < A m u % p := by
          have := Int.emod_nonneg (A m u) (show p ≠ 0 by omega)
          have h2 : A m u % p ≠ 0 := fun e => hd (Int.dvd_of_emod_eq_zero e)
          omega
        have h2 := hι _ h1 (Int.emod_lt_of_pos _ (by omega))
        refine ⟨ι (A m u % p), ?_⟩
        generalize ι (A m u % p) = b at h2
        rw [Int.emod_def (A m u) p, Int.emod_def] at h2
        generalize A m u / p = x at h2
        generalize ((A m u - p * x) * b) / p = y at h2
        rw [Int.sub_mul, Int.mul_assoc] at h2
        refine ⟨x * b + y, ?_⟩
        rw [Int.mul_add]; omega
      obtain ⟨c, ⟨v, hv, hcv⟩, he⟩ := dep hp hι m k (fun e w => A e (skipAt u w) - A e u * b * A m (skipAt u w)) (by omega)
      -- the unknown u is minus b times the sum of the rest
      have hS : ∃ S, S = sm (fun w => A m (skipAt u w) * c w) k := ⟨_, rfl⟩
      obtain ⟨S, hS⟩ := hS
      refine ⟨fun w => if w = u then -(b * S) else c (unskip u w), ⟨skipAt u v, skipAt_lt hv, ?_⟩, fun e hem => ?_⟩
      · show ¬ p ∣ (if skipAt u v = u then -(b * S) else c (unskip u (skipAt u v)))
        rw [if_neg (skipAt_ne u v), unskip_skip]
        exact hcv
      · rw [sm_skip _ u k hu]
        show p ∣ A e u * (if u = u then -(b * S) else c (unskip u u)) + sm (fun w => A e (skipAt u w) * (if skipAt u w = u then -(b * S) else c (unskip u (skipAt u w)))) k
        have h1 : sm (fun w => A e (skipAt u w) * (if skipAt u w = u then -(b * S) else c (unskip u (skipAt u w)))) k = sm (fun w => A e (skipAt u w) * c w) k := sm_congr fun w _ => by
          show A e (skipAt u w) * (if skipAt u w = u then -(b * S) else c (unskip u (skipAt u w))) = A e (skipAt u w) * c w
          rw [if_neg (skipAt_ne u w), unskip_skip]
        rw [if_pos rfl, h1]
        by_cases e1 : e = m
        · subst e1
          rw [← hS]
          obtain ⟨z, hz⟩ := hb
          refine ⟨-(z * S), ?_⟩
          have h2 : A e u * b = 1 + p * z := by omega
          rw [Int.mul_neg, ← Int.mul_assoc, h2, Int.add_mul, Int.one_mul, Int.mul_neg, Int.mul_assoc]
          omega
        · have h2 := he e (by omega)
          have h3 : sm (fun w => (A e (skipAt u w) - A e u * b * A m (skipAt u w)) * c w) k = sm (fun w => A e (skipAt u w) * c w) k - A e u * b * S := by
            rw [hS, sm_mul, sm_sub]
            exact sm_congr fun w _ => by
              show (A e (skipAt u w) - A e u * b * A m (skipAt u w)) * c w = A e (skipAt u w) * c w - A e u * b * (A m (skipAt u w) * c w)
              rw [Int.sub_mul, Int.mul_assoc (A e u * b)]
          have h4 : p ∣ sm (fun w => A e (skipAt u w) * c w) k - A e u * b * S := by
            rw [← h3]; exact h2
          have h5 : A e u * -(b * S) + sm (fun w => A e (skipAt u w) * c w) k = sm (fun w => A e (skipAt u w) * c w) k - A e u * b * S := by
            rw [Int.mul_neg, Int.mul_assoc]; omega
          rw [h5]; exact h4
/-- The pivots, ascending. -/
def pivL (W : Nat) (R : Nat → Option (Nat → Int)) : List Nat := (List.range W).filter fun j => (R j).isSome
theorem pivL_mem {p : Int} {W : Nat} {R : Nat → Option (Nat → Int)} (hE : Ech p W R) {j : Nat} : j ∈ pivL W R ↔ (R j).isSome := by
  unfold pivL
  rw [List.mem_filter, List.mem_range]
  constructor
  · exact fun h => h.2
  · intro h
    refine ⟨?_, h⟩
    cases hR : R j with
    | none => rw [hR] at h; cases h
    | some r => exact hE.below j r hR
theorem InR.sum {p : Int} {W : Nat} {R : Nat → Option (Nat → Int)} (c : Nat → Int) (x : Nat → Nat → Int) : ∀ n, (∀ u, u < n → InR p W R (x u)) → InR p W R (fun i => sm (fun u => c u * x u i) n)
  | 0, _ => InR.nil
  | n + 1, h => (InR.sum c x n (fun u hu => h u (by omega))).add ((h n (by omega)).smul (c n))
/-- More rows of a span than it has pivots are dependent. -/
theorem more_dep {p : Int} (hp : 1 < p) {ι : Int → Int} (hι : InvF p ι) {W : Nat} {R : Nat → Option (Nat → Int)} (hE : Ech p W R) {n : Nat} (x : Nat → Nat → Int) (hx : ∀ u, u < n → InR p W R (x u)) (hn : (pivL W R).length < n) :
    ∃ c : Nat → Int, (∃ u, u < n ∧ ¬ p ∣ c u) ∧ ∀ i, p ∣ sm (fun u => c u * x u i) n := by
  obtain ⟨c, hc, he⟩ := dep hp hι (pivL W R).length n (fun e u => x u ((pivL W R).getD e 0)) hn
  refine ⟨c, hc, fun i => (InR.sum c x n hx).zero hE fun j _ hj => ?_⟩
  obtain ⟨e, hel, hej⟩ := List.mem_iff_getElem.1 ((pivL_mem hE).2 hj)
  have h1 := he e hel
  rw [List.getD_eq_getElem?_getD, List.getElem?_eq_getElem hel] at h1
  have h2 : sm (fun u => x u j * c u) n = sm (fun u => c u * x u j) n := sm_congr fun u _ => Int.mul_comm _ _
  rw [← h2]
  rw [← hej]
  exact h1
/-- The kept rows are independent. -/
theorem piv_indep {p : Int} {W : Nat} {R : Nat → Option (Nat → Int)} (hE : Ech p W R) (c : Nat → Int) (h : ∀ i, p ∣ sm (fun j => c j * rowAt R j i) W) {j : Nat} (hj : (R j).isSome) : p ∣ c j := by
  cases hR : R j with
  | none => rw [hR] at hj; cases hj
  | some r =>
    have h1 := h j
    rw [sm_one (k := j) (hE.below j r hR) fun k _ hne => ?_] at h1
    · have e : c j * rowAt R j j = c j := by rw [rowAt_some hR, hE.one j r hR, Int.mul_one]
      rwa [e] at h1
    · show c k * rowAt R k j = 0
      cases hk : R k with
      | none => rw [rowAt_none hk, Int.mul_zero]
      | some q => rw [rowAt_some hk, hE.other k q j hk hj (Ne.symm hne), Int.mul_zero]
/-- A linear map of rows, modulo p. -/
structure LinF (p : Int) (φ : (Nat → Int) → Nat → Int) : Prop where
  zero : ∀ i, p ∣ φ (fun _ => 0) i
  add : ∀ u v i, p ∣ φ (fun i => u i + v i) i - (φ u i + φ v i)
  smul : ∀ t u i, p ∣ φ (fun i => t * u i) i - t * φ u i
theorem LinF.sum {p : Int} {φ : (Nat → Int) → Nat → Int} (h : LinF p φ) (c : Nat → Int) (x : Nat → Nat → Int) (i : Nat) : ∀ n, p ∣ φ (fun i => sm (fun u => c u * x u i) n) i - sm (fun u => c u * φ (x u) i) n
  | 0 => by
    show p ∣ φ (fun _ => 0) i - 0
    rw [Int.sub_zero]; exact h.zero i
  | n + 1 => by
    have h1 := h.sum c x i n
    have h2 := h.add (fun i => sm (fun u => c u * x u i) n) (fun i => c n * x n i) i
    have h3 := h.smul (c n) (x n) i
    have h4 := Int.dvd_add (Int.dvd_add h1 h2) h3
    show p ∣ φ (fun i => sm (fun u => c u * x u i) n + c n * x n i) i - (sm (fun u => c u * φ (x u) i) n + c n * φ (x n) i)
    generalize φ (fun i => sm (fun u => c u * x u i) n + c n * x n i) i = a at h4 ⊢
    generalize φ (fun i => sm (fun u => c u * x u i) n) i = b at h4
    generalize φ (fun i => c n * x n i) i = d at h4
    generalize c n * φ (x n) i = f at h4 ⊢
    generalize sm (fun u => c u * φ (x u) i) n = g at h4 ⊢
    rwa [show b - g + (a - (b + d)) + (d - f) = a - (g + f) by omega] at h4
theorem pivL_less (W : Nat) (R : Nat → Option (Nat → Int)) : (pivL W R).Pairwise (· < ·) := List.Pairwise.sublist List.filter_sublist List.pairwise_lt_range
/-- A linear map that is one to one on a span does not take it to one with fewer pivots. -/
theorem rank_inj {p : Int} (hp : 1 < p) {ι : Int → Int} (hι : InvF p ι) {W W' : Nat} {R R' : Nat → Option (Nat → Int)} (hE : Ech p W R) (hE' : Ech p W' R') {φ : (Nat → Int) → Nat → Int} (hφ : LinF p φ) (hto : ∀ v, InR p W R v → InR p W' R' (φ v)) (hinj : ∀ v, InR p W R v → (∀ i, p ∣ φ v i) → ∀ i, p ∣ v i) :
    (pivL W R).length ≤ (pivL W' R').length := by
  apply Classical.byContradiction
  intro hn
  have hrow : ∀ u, u < (pivL W R).length → ∃ r, R ((pivL W R).getD u 0) = some r := fun u hu => by
    have hm : (pivL W R).getD u 0 ∈ pivL W R := by
      rw [List.getD_eq_getElem?_getD, List.getElem?_eq_getElem hu]
      exact List.getElem_mem hu
    have h1 := (pivL_mem hE).1 hm
    cases hR : R ((pivL W R).getD u 0) with
    | none => rw [hR] at h1; cases h1
    | some r => exact ⟨r, rfl⟩
  have hin : ∀ u, u < (pivL W R).length → InR p W R (fun i => rowAt R ((pivL W R).getD u 0) i) := fun u hu => by
    obtain ⟨r, hr⟩ := hrow u hu
    have e : (fun i => rowAt R ((pivL W R).getD u 0) i) = r := by funext i; exact rowAt_some hr i
    rw [e]; exact InR.row hE hr
  obtain ⟨c, ⟨u, hu, hcu⟩, hc⟩ := more_dep hp hι hE' (n := (pivL W R).length) (fun u => φ fun i => rowAt R ((pivL W R).getD u 0) i) (fun u hu => hto _ (hin u hu)) (by omega)
  have hz := hinj _ (InR.sum c (fun u i => rowAt R ((pivL W R).getD u 0) i) _ hin) fun i => by
    have h1 := hφ.sum c (fun u i => rowAt R ((pivL W R).getD u 0) i) i (pivL W R).length
    have h2 := Int.dvd_add h1 (hc i)
    rwa [Int.sub_add_cancel] at h2
  apply hcu
  have h1 := hz ((pivL W R).getD u 0)
  obtain ⟨r, hr⟩ := hrow u hu
  rw [sm_one (k := u) hu fun k hk hne => ?_] at h1
  · have e : c u * rowAt R ((pivL W R).getD u 0) ((pivL W R).getD u 0) = c u := by rw [rowAt_some hr, hE.one _ r hr, Int.mul_one]
    rwa [e] at h1
  · show c k * rowAt R ((pivL W R).getD k 0) ((pivL W R).getD u 0) = 0
    obtain ⟨q, hq⟩ := hrow k hk
    have hne2 : (pivL W R).getD u 0 ≠ (pivL W R).getD k 0 := fun e => by
      rw [List.getD_eq_getElem?_getD, List.getElem?_eq_getElem hu, List.getD_eq_getElem?_getD, List.getElem?_eq_getElem hk] at e
      simp only [Option.getD_some] at e
      have hlt := List.pairwise_iff_getElem.1 (pivL_less W R)
      rcases Nat.lt_or_gt_of_ne hne with h | h
      · have := hlt k u hk hu h
        omega
      · have := hlt u k hu hk h
        omega
    rw [rowAt_some hq, hE.other _ q _ hq (by rw [hr]; rfl) hne2, Int.mul_zero]
end Go.Proofs.Ytikggkahlpplpaa

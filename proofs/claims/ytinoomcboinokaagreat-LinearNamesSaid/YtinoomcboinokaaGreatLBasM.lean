/- MATHEMATICS of the law of bases. -/
import Derived.Test.YtinoomcboinokaaGreatLLives2
namespace Go.Proofs.YtinoomcboinokaaGreat

theorem rowsL_wide (n : Nat) (F : Nat → Nat → Int) (m : Nat) : ∀ v ∈ rowsL n F m, Wide n v := fun v hv => by
  unfold rowsL at hv
  obtain ⟨i, _, rfl⟩ := List.mem_map.1 hv
  intro j hj
  exact if_neg (by omega)
theorem rowsL_mem {n m : Nat} {F : Nat → Nat → Int} {i : Nat} (hi : i < m) : wideF n (F i) ∈ rowsL n F m := by
  unfold rowsL
  exact List.mem_map.2 ⟨i, List.mem_range.2 hi, rfl⟩
theorem rowsL_of {n m : Nat} {F : Nat → Nat → Int} {v : Nat → Int} (h : v ∈ rowsL n F m) : ∃ i, i < m ∧ v = wideF n (F i) := by
  unfold rowsL at h
  obtain ⟨i, hi, rfl⟩ := List.mem_map.1 h
  exact ⟨i, List.mem_range.1 hi, rfl⟩
theorem rowsL_congr {n m : Nat} {F G : Nat → Nat → Int} (h : ∀ i, i < m → ∀ j, j < n → F i j = G i j) : rowsL n F m = rowsL n G m := by
  unfold rowsL
  refine List.map_congr_left fun i hi => ?_
  funext j
  by_cases e : j < n
  · rw [if_pos e, if_pos e, h i (List.mem_range.1 hi) j e]
  · rw [if_neg e, if_neg e]
/-- The pivots, in order. -/
theorem piv_some {p : Int} {n : Nat} {R : Nat → Option (Nat → Int)} (hE : Ech p n R) {i : Nat} (hi : i < (pivL n R).length) : ∃ r, R ((pivL n R).getD i 0) = some r :=
  Option.isSome_iff_exists.1 ((pivL_mem hE).1 (getD_mem hi))
theorem piv_inj {n : Nat} {R : Nat → Option (Nat → Int)} {i k : Nat} (hi : i < (pivL n R).length) (hk : k < (pivL n R).length) (hne : i ≠ k) : (pivL n R).getD i 0 ≠ (pivL n R).getD k 0 := by
  have h1 := fun a b (ha : a < (pivL n R).length) (hb : b < (pivL n R).length) (hab : a < b) => List.pairwise_iff_getElem.1 (pivL_less n R) a b ha hb hab
  simp only [List.getD_eq_getElem?_getD, List.getElem?_eq_getElem hi, List.getElem?_eq_getElem hk, Option.getD_some]
  rcases Nat.lt_or_gt_of_ne hne with h | h
  · have := h1 i k hi hk h; omega
  · have := h1 k i hk hi h; omega
theorem basis_ech {p n : Nat} {R : Nat → Option (Nat → Int)} (hE : Ech (p : Int) n R) : EchF (p : Int) (pivL n R).length n (basF n R) (fun i => (pivL n R).getD i 0) := by
  refine ⟨fun i hi => ?_, fun i j hi hj => ?_, fun i hi => ?_, fun i k hi hk hne => ?_, fun i hi j _ => ?_, fun i hi => ?_⟩
  · obtain ⟨r, hr⟩ := piv_some hE hi
    exact hE.below _ _ hr
  · obtain ⟨r, hr⟩ := piv_some hE hi
    unfold basF; rw [rowAt_some hr]
    exact hE.lead _ _ _ hr hj
  · obtain ⟨r, hr⟩ := piv_some hE hi
    unfold basF; rw [rowAt_some hr]
    exact hE.one _ _ hr
  · obtain ⟨r, hr⟩ := piv_some hE hk
    obtain ⟨r', hr'⟩ := piv_some hE hi
    unfold basF; rw [rowAt_some hr]
    exact hE.other _ _ _ hr (by rw [hr']; rfl) (piv_inj hi hk (Ne.symm hne))
  · obtain ⟨r, hr⟩ := piv_some hE hi
    unfold basF; rw [rowAt_some hr]
    exact hE.low _ _ _ hr
  · have := List.pairwise_iff_getElem.1 (pivL_less n R) i (i + 1) (by omega) hi (by omega)
    simp only [List.getD_eq_getElem?_getD, List.getElem?_eq_getElem hi, List.getElem?_eq_getElem (show i < (pivL n R).length by omega), Option.getD_some]
    exact this
/-- A kept row is one pivot more. -/
theorem filter_more (f g : Nat → Bool) (j : Nat) (hj : f j = false) (hg : ∀ k, g k = (f k || k == j)) : ∀ W, ((List.range W).filter g).length = ((List.range W).filter f).length + if j < W then 1 else 0
  | 0 => rfl
  | W + 1 => by
    rw [List.range_succ, List.filter_append, List.filter_append, List.length_append, List.length_append, filter_more f g j hj hg W]
    by_cases e : W = j
    · subst e
      have h1 : g W = true := by rw [hg]; simp
      simp [h1, hj]
    · have h1 : g W = f W := by rw [hg]; simp [e]
      by_cases h2 : j < W
      · rw [if_pos h2, if_pos (by omega)]
        simp [List.filter_cons, h1]; omega
      · rw [if_neg h2, if_neg (by omega)]
        simp [List.filter_cons, h1]
theorem keep_len {p : Int} {n : Nat} {R : Nat → Option (Nat → Int)} {j : Nat} {q : Nat → Int} (h : NewRow p n R j q) : (pivL n (keepR p R j q)).length = (pivL n R).length + 1 := by
  unfold pivL
  rw [filter_more (fun k => (R k).isSome) (fun k => (keepR p R j q k).isSome) j (by rw [h.none]; rfl) (fun k => by
    have := keepR_some p R j q k
    by_cases e : k = j
    · subst e
      have h1 : (keepR p R k q k).isSome = true := this.2 (.inl rfl)
      rw [h1]; simp
    · cases hR : (R k).isSome with
      | true =>
        have h1 : (keepR p R j q k).isSome = true := this.2 (.inr hR)
        rw [h1]; rfl
      | false =>
        cases hk : (keepR p R j q k).isSome with
        | true =>
          rcases this.1 hk with h2 | h2
          · exact absurd h2 e
          · rw [hR] at h2; cases h2
        | false => simp [e]), if_pos h.below]
theorem step_len {p : Int} (hp : 1 < p) {ι : Int → Int} (hι : InvF p ι) {n : Nat} {R : Nat → Option (Nat → Int)} (hE : Ech p n R) (v : Nat → Int) : (pivL n (stepR p n ι R v)).length = (pivL n R).length + if firstNZ (redK p R v n) n = none then 0 else 1 := by
  unfold stepR
  cases h : firstNZ (redK p R v n) n with
  | none => simp
  | some j =>
    rw [if_neg (by simp)]
    exact keep_len (step_new hp hι hE v h)
theorem fold_len {p : Int} (hp : 1 < p) {ι : Int → Int} (hι : InvF p ι) {n : Nat} : ∀ (l : List (Nat → Int)) (R : Nat → Option (Nat → Int)), Ech p n R → (pivL n (l.foldl (stepR p n ι) R)).length ≤ (pivL n R).length + l.length
  | [], _, _ => Nat.le_refl _
  | v :: l, R, h => by
    have h1 := fold_len hp hι l _ (step_ech hp hι h v)
    have h2 := step_len hp hι h v
    rw [List.foldl_cons, List.length_cons]
    split at h2 <;> omega
theorem elim_len {p : Int} (hp : 1 < p) {ι : Int → Int} (hι : InvF p ι) (n m : Nat) (F : Nat → Nat → Int) : (pivL n (elimR p n ι (rowsL n F m))).length ≤ m := by
  have h := fold_len hp hι (rowsL n F m) _ (ech_nil p n)
  rw [pivL_nil] at h
  have h2 : (rowsL n F m).length = m := by simp [rowsL]
  rw [h2, List.length_nil, Nat.zero_add] at h
  exact h
/-- A row of a reduced basis, as a list's row. -/
theorem basis_row {p : Int} {n : Nat} {R : Nat → Option (Nat → Int)} (hE : Ech p n R) (hW : WideR n R) {i : Nat} (hi : i < (pivL n R).length) : ∃ r, R ((pivL n R).getD i 0) = some r ∧ wideF n (basF n R i) = r := by
  obtain ⟨r, hr⟩ := piv_some hE hi
  refine ⟨r, hr, ?_⟩
  funext j
  unfold wideF basF
  by_cases e : j < n
  · rw [if_pos e, rowAt_some hr]
  · rw [if_neg e, hW _ _ hr j (by omega)]
/-- The basis is its own basis. -/
theorem basis_own {p : Int} (hp : 1 < p) {ι : Int → Int} (hι : InvF p ι) {n m : Nat} {F : Nat → Nat → Int} :
    elimR p n ι (rowsL n (basF n (elimR p n ι (rowsL n F m))) (pivL n (elimR p n ι (rowsL n F m))).length) = elimR p n ι (rowsL n F m) := by
  obtain ⟨hE, hW, hS⟩ := elim_ok hp hι (rowsL n F m) (rowsL_wide n F m)
  refine elim_eq hp hι (rowsL_wide _ _ _) (rowsL_wide _ _ _) (fun v hv => ?_) (fun v hv => ?_)
  · obtain ⟨i, hi, rfl⟩ := rowsL_of hv
    obtain ⟨r, hr, e⟩ := basis_row hE hW hi
    rw [e]
    exact (hS _).1 (InR.row hE hr)
  · have hin := (hS v).2 (SpL.row hv)
    refine InR.ind (P := SpL p _) (SpL.nil _) (fun u v h e => h.congr e) (fun u t j r h hr => ?_) hin
    have hm : j ∈ pivL n (elimR p n ι (rowsL n F m)) := (pivL_mem hE).2 (by rw [hr]; rfl)
    obtain ⟨i, hi, e⟩ := mem_getD hm
    obtain ⟨r', hr', e'⟩ := basis_row hE hW hi
    rw [e, hr] at hr'
    injection hr' with hr'
    refine SpL.add h (SpL.smul t ?_)
    rw [hr', ← e']
    exact SpL.row (rowsL_mem hi)
/-- Added combinations change nothing. -/
theorem other_same {p : Int} (hp : 1 < p) {ι : Int → Int} (hι : InvF p ι) {n m M : Nat} {F G : Nat → Nat → Int} (h1 : ∀ i, i < m → ∃ k, k < M ∧ ∀ j, j < n → G k j = F i j) (h2 : ∀ k, k < M → SpL p (rowsL n F m) (wideF n (G k))) :
    elimR p n ι (rowsL n G M) = elimR p n ι (rowsL n F m) := by
  refine elim_eq hp hι (rowsL_wide _ _ _) (rowsL_wide _ _ _) (fun v hv => ?_) (fun v hv => ?_)
  · obtain ⟨k, hk, rfl⟩ := rowsL_of hv
    exact h2 k hk
  · obtain ⟨i, hi, rfl⟩ := rowsL_of hv
    obtain ⟨k, hk, e⟩ := h1 i hi
    have : wideF n (F i) = wideF n (G k) := by
      funext j
      unfold wideF
      by_cases hj : j < n
      · rw [if_pos hj, if_pos hj, e j hj]
      · rw [if_neg hj, if_neg hj]
    rw [this]
    exact SpL.row (rowsL_mem hk)
theorem row_span {p : Int} {n m i : Nat} {F : Nat → Nat → Int} {g : Nat → Int} (hi : i < m) (h : ∀ j, j < n → g j = F i j) : SpL p (rowsL n F m) (wideF n g) := by
  have : wideF n g = wideF n (F i) := by
    funext j
    unfold wideF
    by_cases hj : j < n
    · rw [if_pos hj, if_pos hj, h j hj]
    · rw [if_neg hj, if_neg hj]
  rw [this]
  exact SpL.row (rowsL_mem hi)
theorem mix_span {p : Int} {n m : Nat} {F : Nat → Nat → Int} (x : Nat → Int) : ∀ k, k ≤ m → SpL p (rowsL n F m) (wideF n (mixF p x F k))
  | 0, _ => by
    have : wideF n (mixF p x F 0) = fun _ => 0 := by funext j; unfold wideF mixF; split <;> rfl
    rw [this]; exact SpL.nil _
  | k + 1, hk => by
    refine (SpL.add (mix_span x k (by omega)) (SpL.smul (x k) (SpL.row (rowsL_mem (F := F) (n := n) (m := m) (i := k) (by omega))))).congr fun j => ?_
    unfold wideF
    by_cases hj : j < n
    · rw [if_pos hj, if_pos hj, if_pos hj]
      show p ∣ (mixF p x F k j + x k * F k j) % p - (mixF p x F k j + x k * F k j)
      generalize mixF p x F k j + x k * F k j = a
      rw [Int.emod_def]
      exact ⟨-(a / p), by rw [Int.mul_neg]; omega⟩
    · rw [if_neg hj, if_neg hj, if_neg hj]
      exact ⟨0, by simp⟩
theorem span_in {p : Int} (hp : 1 < p) {ι : Int → Int} (hι : InvF p ι) {n m : Nat} {F : Nat → Nat → Int} {f : Nat → Int} (h : SpL p (rowsL n F m) (wideF n f)) : inB p n (elimR p n ι (rowsL n F m)) f = true := by
  have h1 := (in_iff hp hι (rowsL_wide n F m) (wideF n f)).1 h
  unfold inB
  rw [firstNZ_all fun i _ => h1 i]; rfl
/-- The rank of a list with one row more. -/
theorem more_rank {p : Int} (hp : 1 < p) {ι : Int → Int} (hι : InvF p ι) {n m : Nat} {F H : Nat → Nat → Int} {f : Nat → Int} (h1 : ∀ i, i < m → ∀ j, j < n → H i j = F i j) (h2 : ∀ j, j < n → H m j = f j) :
    inB p n (elimR p n ι (rowsL n F m)) f = decide ((pivL n (elimR p n ι (rowsL n H (m + 1)))).length = (pivL n (elimR p n ι (rowsL n F m))).length) := by
  have e1 := elimR_succ p n n ι H m
  rw [rowsL_congr h1] at e1
  have e2 : (fun j => if j < n then H m j else 0) = wideF n f := by
    funext j
    unfold wideF
    by_cases hj : j < n
    · rw [if_pos hj, if_pos hj, h2 j hj]
    · rw [if_neg hj, if_neg hj]
  rw [e1, e2, step_len hp hι (elimR_ech hp hι n _)]
  unfold inB
  cases firstNZ (redK p (elimR p n ι (rowsL n F m)) (wideF n f) n) n with
  | none => simp
  | some j => simp
end Go.Proofs.YtinoomcboinokaaGreat

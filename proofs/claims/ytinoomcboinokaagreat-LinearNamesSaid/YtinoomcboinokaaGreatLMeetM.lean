/- MATHEMATICS of the law of sums and intersections. -/
import Derived.Test.YtinoomcboinokaaGreatLBasM
import Derived.Test.YtinoomcboinokaaGreatLinB
namespace Go.Proofs.YtinoomcboinokaaGreat

theorem SpL.inR {p : Int} {n : Nat} {R : Nat → Option (Nat → Int)} : ∀ {L : List (Nat → Int)} {x : Nat → Int}, (∀ v ∈ L, InR p n R v) → SpL p L x → InR p n R x
  | [], x, _, h => InR.nil.congr fun i => by
    have h1 : p ∣ x i := h i
    rwa [show x i - 0 = x i by omega]
  | v :: L, x, hv, ⟨t, ht⟩ => ((SpL.inR (fun u hu => hv u (List.mem_cons_of_mem _ hu)) ht).add ((hv v (by simp)).smul t)).congr fun i => by
    show p ∣ x i - (x i - t * v i + t * v i)
    exact ⟨0, by omega⟩
/-- The rows of a reduced basis span what it spans. -/
theorem bas_span {p : Int} {n : Nat} {R : Nat → Option (Nat → Int)} (hE : Ech p n R) (hW : WideR n R) (x : Nat → Int) : SpL p (rowsL n (basF n R) (pivL n R).length) x ↔ InR p n R x := by
  constructor
  · refine SpL.inR fun v hv => ?_
    obtain ⟨i, hi, rfl⟩ := rowsL_of hv
    obtain ⟨r, hr, e⟩ := basis_row hE hW hi
    rw [e]
    exact InR.row hE hr
  · intro h
    refine InR.ind (P := SpL p _) (SpL.nil _) (fun u v h e => h.congr e) (fun u t j r h hr => ?_) h
    have hm : j ∈ pivL n R := (pivL_mem hE).2 (by rw [hr]; rfl)
    obtain ⟨i, hi, e⟩ := mem_getD hm
    obtain ⟨r', hr', e'⟩ := basis_row hE hW hi
    rw [e, hr] at hr'
    injection hr' with hr'
    refine SpL.add h (SpL.smul t ?_)
    rw [hr', ← e']
    exact SpL.row (rowsL_mem hi)
theorem inB_iff {p : Int} (hp : 1 < p) {ι : Int → Int} (hι : InvF p ι) {n m : Nat} {F : Nat → Nat → Int} {f : Nat → Int} : inB p n (elimR p n ι (rowsL n F m)) f = true ↔ SpL p (rowsL n F m) (wideF n f) := by
  refine ⟨fun h => ?_, span_in hp hι⟩
  refine (in_iff hp hι (rowsL_wide n F m) (wideF n f)).2 ?_
  unfold inB at h
  cases e : firstNZ (redK p (elimR p n ι (rowsL n F m)) (wideF n f) n) n with
  | some j => rw [e] at h; simp at h
  | none =>
    intro i
    have hW := (elim_ok hp hι (rowsL n F m) (rowsL_wide n F m)).2.1
    by_cases hi : i < n
    · exact firstNZ_none e i hi
    · exact redK_wide hW (fun j hj => if_neg (by omega)) n i (by omega)
/-- The pivots below n are those of the sum. -/
theorem sum_pre {p : Int} (hp : 1 < p) {ι : Int → Int} (hι : InvF p ι) {n : Nat} {A B : List (Nat → Int)} (hA : ∀ v ∈ A, Wide n v) (hB : ∀ v ∈ B, Wide n v) {R : Nat → Option (Nat → Int)} (hE : Ech p (n + n) R) (hR : ∀ y, InR p (n + n) R y ↔ SpL p (A.map (twice n) ++ B) y) :
    preR n R = elimR p n ι (A ++ B) := by
  have hAB : ∀ v ∈ A ++ B, Wide n v := fun v hv => (List.mem_append.1 hv).elim (hA v) (hB v)
  obtain ⟨h1, _, h3⟩ := elim_ok hp hι (A ++ B) hAB
  refine Ech.unique hp (pre_ech hp hE) h1 fun v => ((pre_span hp hE v).trans ?_).trans (h3 v).symm
  constructor
  · rintro ⟨y, hy, hv⟩
    obtain ⟨a, b, ha, hb, h⟩ := wide_parts.1 ((hR y).1 hy)
    have wa := SpL.wide hA ha
    have wb := SpL.wide hB hb
    refine SpL.append.2 ⟨a, ha, hb.congr fun i => ?_⟩
    show p ∣ v i - a i - b i
    have h4 := hv i
    unfold trunc at h4
    by_cases hi : i < n
    · rw [if_pos hi] at h4
      have h5 := h i
      rw [twice_lo a hi] at h5
      have := Int.dvd_add h4 h5
      rwa [show v i - y i + (y i - (a i + b i)) = v i - a i - b i by omega] at this
    · rw [if_neg hi] at h4
      have := Int.dvd_sub (Int.dvd_sub h4 (wa i (by omega))) (wb i (by omega))
      rwa [show v i - 0 - a i - b i = v i - a i - b i by omega] at this
  · intro h
    have wv := SpL.wide hAB h
    obtain ⟨a, ha, hb⟩ := SpL.append.1 h
    refine ⟨fun i => twice n a i + (v i - a i), (hR _).2 (wide_parts.2 ⟨a, _, ha, hb, fun i => ⟨0, by omega⟩⟩), fun i => ?_⟩
    unfold trunc
    by_cases hi : i < n
    · rw [if_pos hi]
      show p ∣ v i - (twice n a i + (v i - a i))
      rw [twice_lo a hi]
      exact ⟨0, by omega⟩
    · rw [if_neg hi, Int.sub_zero]
      exact wv i (by omega)
/-- The dimension formula. -/
theorem meet_rank {p : Int} (hp : 1 < p) {ι : Int → Int} (hι : InvF p ι) {n : Nat} {A B : List (Nat → Int)} (hA : ∀ v ∈ A, Wide n v) (hB : ∀ v ∈ B, Wide n v) {R : Nat → Option (Nat → Int)} (hE : Ech p (n + n) R) (hR : ∀ y, InR p (n + n) R y ↔ SpL p (A.map (twice n) ++ B) y) :
    (pivL n (elimR p n ι (A ++ B))).length + (pivL n (afterR n R)).length = (pivL n (elimR p n ι A)).length + (pivL n (elimR p n ι B)).length := by
  rw [← sum_pre hp hι hA hB hE hR, ← pivL_split, wide_rank hp hι hA hB hE hR]
theorem after_wide {n : Nat} {R : Nat → Option (Nat → Int)} (hW : WideR (n + n) R) : WideR n (afterR n R) := fun k s h i hi => by
  obtain ⟨r, hr, rfl⟩ := afterR_some h
  exact hW _ r hr (n + i) (by omega)
/-- What the intersection's rows span. -/
theorem meet_rows {p : Int} {n : Nat} {A B : List (Nat → Int)} (hA : ∀ v ∈ A, Wide n v) (hB : ∀ v ∈ B, Wide n v) {R : Nat → Option (Nat → Int)} (hE : Ech p (n + n) R) (hW : WideR (n + n) R) (hR : ∀ y, InR p (n + n) R y ↔ SpL p (A.map (twice n) ++ B) y) (x : Nat → Int) :
    SpL p (rowsL n (basF n (afterR n R)) (pivL n (afterR n R)).length) x ↔ SpL p A x ∧ SpL p B x :=
  (bas_span (after_ech hE) (after_wide hW) x).trans ((after_span hE x).trans ((hR _).trans (meet_span hA hB x)))
/-- The pivots behind n, shifted. -/
theorem filter_after (n : Nat) (R : Nat → Option (Nat → Int)) : (pivL (n + n) R).filter (fun j => decide (n ≤ j)) = (pivL n (afterR n R)).map (n + ·) := by
  unfold pivL
  rw [List.range_add, List.filter_append, List.filter_append, List.filter_map, List.filter_map]
  have h1 : List.filter (fun j => decide (n ≤ j)) (List.filter (fun k => (R k).isSome) (List.range n)) = [] := by
    rw [List.filter_eq_nil_iff]
    intro j hj
    have := List.mem_range.1 (List.mem_filter.1 hj).1
    simp; omega
  rw [h1, List.nil_append]
  congr 1
  rw [List.filter_filter]
  apply List.filter_congr
  intro k _
  simp only [Function.comp, afterR, Option.isSome_map]
  simp
theorem meet_bas {n : Nat} {R : Nat → Option (Nat → Int)} {i : Nat} (hi : i < (pivL n (afterR n R)).length) (x : Nat) : rowAt R (((pivL (n + n) R).filter (fun j => decide (n ≤ j))).getD i 0) (n + x) = basF n (afterR n R) i x := by
  unfold basF
  rw [rowAt_after, filter_after]
  congr 1
  simp only [List.getD_eq_getElem?_getD, List.getElem?_map, List.getElem?_eq_getElem hi, Option.map_some, Option.getD_some]
end Go.Proofs.YtinoomcboinokaaGreat

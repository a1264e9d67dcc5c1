/- MATHEMATICS of the law of sums and intersections, at what the code gives. -/
import Derived.Test.YtikggkahlpplpaaLMeet
namespace Go.Proofs.Ytikggkahlpplpaa
open Go Go.RowKit Num

theorem rows_wide (m n k : Nat) (F G : Nat → Nat → Int) : rowsL (n + n) (wideR m n F G) (m + k) = (rowsL n F m).map (twice n) ++ rowsL n G k := by
  unfold rowsL
  rw [List.range_add, List.map_append, List.map_map, List.map_map]
  congr 1
  · refine List.map_congr_left fun i hi => ?_
    funext j
    show (if j < n + n then wideR m n F G i j else 0) = twice n (fun j => if j < n then F i j else 0) j
    have e : wideR m n F G i = catF n (F i) (F i) := by unfold wideR; rw [if_pos (List.mem_range.1 hi)]
    rw [e]
    unfold twice catF
    by_cases h1 : j < n
    · have h0 : j < n + n := by omega
      simp [h0, h1]
    · by_cases h2 : j < n + n
      · have h3 : j - n < n := by omega
        simp [h1, h2, h3]
      · have h3 : ¬ j - n < n := by omega
        simp [h1, h2, h3]
  · refine List.map_congr_left fun i _ => ?_
    funext j
    show (if j < n + n then wideR m n F G (m + i) j else 0) = if j < n then G i j else 0
    have e : wideR m n F G (m + i) = catF n (G i) (fun _ => 0) := by unfold wideR; rw [if_neg (by omega), Nat.add_sub_cancel_left]
    rw [e]
    unfold catF
    by_cases h1 : j < n
    · have h0 : j < n + n := by omega
      simp [h0, h1]
    · simp [h1]
/-- What Meet's elimination gives. -/
def meetR (p : Int) (ι : Int → Int) (m n k : Nat) (F G : Nat → Nat → Int) : Nat → Option (Nat → Int) := afterR n (elimR p (n + n) ι (rowsL (n + n) (wideR m n F G) (m + k)))
structure Meets (p : Int) (ι : Int → Int) (m n k : Nat) (F G : Nat → Nat → Int) : Prop where
  ech : Ech p n (meetR p ι m n k F G)
  rank : (pivL n (elimR p n ι (rowsL n (catR m F G) (m + k)))).length + (pivL n (meetR p ι m n k F G)).length = (pivL n (elimR p n ι (rowsL n F m))).length + (pivL n (elimR p n ι (rowsL n G k))).length
  also : ∀ f, SpL p (rowsL n F m) (wideF n f) → inB p n (elimR p n ι (rowsL n (basF n (meetR p ι m n k F G)) (pivL n (meetR p ι m n k F G)).length)) f = inB p n (elimR p n ι (rowsL n G k)) f
  ina : ∀ j, j < (pivL n (meetR p ι m n k F G)).length → inB p n (elimR p n ι (rowsL n F m)) (basF n (meetR p ι m n k F G) j) = true
  inb : ∀ j, j < (pivL n (meetR p ι m n k F G)).length → inB p n (elimR p n ι (rowsL n G k)) (basF n (meetR p ι m n k F G) j) = true
theorem meets_all {p : Int} (hp : 1 < p) {ι : Int → Int} (hι : InvF p ι) (m n k : Nat) (F G : Nat → Nat → Int) : Meets p ι m n k F G := by
  have hA := rowsL_wide n F m
  have hB := rowsL_wide n G k
  have ht : ∀ v ∈ (rowsL n F m).map (twice n) ++ rowsL n G k, Wide (n + n) v := fun v hv i hi => by
    rcases List.mem_append.1 hv with h | h
    · obtain ⟨u, hu, rfl⟩ := List.mem_map.1 h
      rw [twice_ge u (by omega)]
      exact hA u hu _ (by omega)
    · exact hB v h i (by omega)
  obtain ⟨hE, hW, hR⟩ := elim_ok hp hι _ ht
  have hrows := fun x => meet_rows hA hB hE hW hR x
  have hrank := meet_rank hp hι hA hB hE hR
  have hw := rows_wide m n k F G
  have hc := rowsL_cat n m k F G
  rw [← hc] at hrank
  rw [← hw] at hE hrows hrank
  refine ⟨after_ech hE, hrank, fun f hf => ?_, fun j hj => ?_, fun j hj => ?_⟩
  · rw [Bool.eq_iff_iff, inB_iff hp hι, inB_iff hp hι]
    exact (hrows _).trans ⟨fun h => h.2, fun h => ⟨hf, h⟩⟩
  · exact (inB_iff hp hι).2 ((hrows _).1 (SpL.row (rowsL_mem hj))).1
  · exact (inB_iff hp hι).2 ((hrows _).1 (SpL.row (rowsL_mem hj))).2
end Go.Proofs.Ytikggkahlpplpaa

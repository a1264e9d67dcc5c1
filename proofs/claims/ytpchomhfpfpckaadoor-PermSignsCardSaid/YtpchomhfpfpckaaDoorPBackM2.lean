/- PermBack's mathematics: the product of the single cycles. -/
import Derived.Test.YtpchomhfpfpckaaDoorPBackM
import Derived.Test.YtpchomhfpfpckaaDoorPParse
namespace Go.Proofs.YtpchomhfpfpckaaDoor
open Go Go.RowKit

theorem Seg.of {s : ByteArray} {l : List UInt8} (h : s.data.toList = l) : Seg s 0 l := by
  subst h
  exact Seg.whole s.data.toList
theorem size_of {s : ByteArray} {l : List UInt8} (h : s.data.toList = l) : s.size = l.length := by
  rw [← h, Array.length_toList]
  rfl
theorem flat_sub {a b : List (List Int)} (h : List.Sublist a b) : List.Sublist a.flatten b.flatten := by
  induction h with
  | slnil => exact List.Sublist.refl _
  | cons x _ ih => rw [List.flatten_cons]; exact ih.trans (List.sublist_append_right _ _)
  | cons_cons x _ ih => rw [List.flatten_cons, List.flatten_cons]; exact (List.Sublist.refl x).append ih
/-- One cycle, with a blank before each point. -/
theorem one_read {s : ByteArray} {n : Nat} {c : List Int} (h1 : 1 ≤ n) (h64 : n ≤ 64) (h : s.data.toList = 40 :: ptsT c) (hs : s.size ≤ 20000) (hin : InR n c) (hnd : c.Nodup) : ParseO s (n : Int) (.ok (joinL (idL n) c)) := by
  have hsz := size_of h
  have hS := Seg.of h
  unfold ParseO
  rw [if_neg (by omega), if_neg (by omega), Int.toNat_natCast]
  have hr := pts_read h64 c (0 + 1) [] [] hS.tail hin (by simpa using hnd)
  refine .good hS.head hr (.stop ?_)
  rw [hsz]
  simp
  omega
/-- The text of a permutation. -/
theorem text_read {zs : List Int} {s : ByteArray} (hf : Fine zs) (h1 : 1 ≤ zs.length) (h64 : zs.length ≤ 64) (h : s.data.toList = textOk zs) (hs : s.size ≤ 20000) : ParseO s (zs.length : Int) (.ok zs) := by
  obtain ⟨hb, hnd, hcl, _⟩ := cycs_back hf h64
  have hsz := size_of h
  have hS := Seg.of h
  unfold ParseO
  rw [if_neg (by omega), if_neg (by omega), Int.toNat_natCast]
  have hx : ParR s zs.length 0 [] (idL zs.length) (.ok (joins (idL zs.length) (cycs zs))) := by
    unfold textOk at hS hsz
    by_cases ht : txt (cycs zs) = []
    · rw [if_pos ht] at hS hsz
      have hj : joins (idL zs.length) (cycs zs) = idL zs.length := by
        have : ∀ cs : List (List Int), txt cs = [] → ∀ m, joins m cs = m := by
          intro cs
          induction cs with
          | nil => intro _ m; rfl
          | cons c cs ih =>
            intro h m
            rw [txt_cons] at h
            obtain ⟨h2, h3⟩ := List.append_eq_nil_iff.1 h
            rw [joins_cons]
            by_cases h4 : 1 < c.length
            · rw [if_pos h4] at h2
              simp [cycText] at h2
            · rw [if_neg h4]; exact ih h3 m
        exact this _ ht _
      rw [hj]
      refine .good hS.head (.close hS.tail.head) (.stop ?_)
      rw [hsz]; rfl
    · rw [if_neg ht] at hS hsz
      exact txt_read h64 (cycs zs) 0 [] (idL zs.length) hS (by omega) (fun c hc => (hcl c hc).2.1) (by simpa using hnd)
  rw [hb] at hx
  exact hx
theorem joins_filter (cs : List (List Int)) : ∀ m, joins m (cs.filter fun c => decide (1 < c.length)) = joins m cs := by
  induction cs with
  | nil => intro m; rfl
  | cons c cs ih =>
    intro m
    by_cases h : 1 < c.length
    · rw [List.filter_cons_of_pos (by simpa using h), joins_cons, joins_cons, ih]
    · rw [List.filter_cons_of_neg (by simpa using h), joins_cons, if_neg h, ih]
/-- The longer cycles of a permutation, their product, and each alone. -/
structure Longs (zs : List Int) (cs : List (List Int)) : Prop where
  cl : ∀ c ∈ cs, Closes zs c
  nd : cs.flatten.Nodup
  all : joins (idL zs.length) cs = zs
theorem longs_of {zs : List Int} (hf : Fine zs) (h64 : zs.length ≤ 64) : Longs zs ((cycs zs).filter fun c => decide (1 < c.length)) := by
  obtain ⟨hb, hnd, hcl, _⟩ := cycs_back hf h64
  exact ⟨fun c hc => hcl c (List.mem_filter.1 hc).1, List.Nodup.sublist (flat_sub List.filter_sublist) hnd, by rw [joins_filter]; exact hb⟩
theorem Longs.nodup {zs : List Int} {cs : List (List Int)} (h : Longs zs cs) {c : List Int} (hc : c ∈ cs) : c.Nodup :=
  List.Nodup.sublist (List.sublist_flatten_of_mem hc) h.nd
/-- The image of a cycle's point lies in it. -/
theorem Closes.img {zs c : List Int} (h : Closes zs c) {i : Nat} (hi : (i : Int) ∈ c) : zs.getD i 0 ∈ c := by
  obtain ⟨t, ht⟩ := List.mem_iff_getElem?.1 hi
  have htl := (List.getElem?_eq_some_iff.1 ht).1
  have hte : c.getD t 0 = (i : Int) := by rw [List.getD_eq_getElem?_getD, ht]; rfl
  have h2 := h.2.2 t htl
  rw [hte, Int.toNat_natCast] at h2
  rw [h2]
  exact getD_mem (Nat.mod_lt _ h.1)
theorem one_at {zs c : List Int} (h : Closes zs c) (hnd : c.Nodup) {i : Nat} (hi : i < zs.length) : (joinL (idL zs.length) c).getD i 0 = if (i : Int) ∈ c then zs.getD i 0 else (i : Int) := by
  rw [joinL_at (idL_len _) h hnd, idL_get hi]
theorem one_fine {zs c : List Int} (hf : Fine zs) (h : Closes zs c) (hnd : c.Nodup) : Fine (joinL (idL zs.length) c) := by
  have hl : (joinL (idL zs.length) c).length = zs.length := by rw [joinL, joinTo_length, idL_len]
  intro i hi
  rw [hl] at hi ⊢
  rw [one_at h hnd hi]
  have hzi := hf i hi
  refine ⟨?_, ?_, fun j hj => ?_⟩
  · split
    · exact hzi.1
    · omega
  · split
    · exact hzi.2.1
    · omega
  · rw [one_at h hnd (by omega)]
    by_cases hjc : (j : Int) ∈ c
    · rw [if_pos hjc]
      by_cases hic : (i : Int) ∈ c
      · rw [if_pos hic]; exact hzi.2.2 j hj
      · rw [if_neg hic]; intro e; exact hic (e ▸ h.img hjc)
    · rw [if_neg hjc]
      by_cases hic : (i : Int) ∈ c
      · rw [if_pos hic]; intro e; exact hjc (e ▸ h.img hic)
      · rw [if_neg hic]; omega
/-- The product grows by a cycle. -/
theorem whole_step {zs : List Int} {cs : List (List Int)} (h : Longs zs cs) {k : Nat} (hk : k < cs.length) {P Q : PL zs.length} (hP : P.1 = joins (idL zs.length) (cs.take k)) (hQ : Q.1 = joinL (idL zs.length) (cs[k])) :
    (pmul Q P).1 = joins (idL zs.length) (cs.take (k + 1)) := by
  have hcm : cs[k] ∈ cs := List.getElem_mem hk
  have hC := h.cl _ hcm
  have hcn := h.nodup hcm
  have hid : ∀ (L : List (List Int)) (j : Nat), j < zs.length → (j : Int) ∈ L.flatten → (idL zs.length).getD j 0 = (j : Int) := fun L j hj _ => idL_get hj
  have hn2 : (cs.take (k + 1)).flatten.Nodup := List.Nodup.sublist (flat_sub (List.take_sublist _ _)) h.nd
  have hn1 : (cs.take k).flatten.Nodup := List.Nodup.sublist (flat_sub (List.take_sublist _ _)) h.nd
  have hfl : (cs.take (k + 1)).flatten = (cs.take k).flatten ++ cs[k] := by
    rw [List.take_succ_eq_append_getElem hk, List.flatten_append]; simp
  have hl1 : (pmul Q P).1.length = zs.length := (pmul Q P).2.1
  have hl2 : (joins (idL zs.length) (cs.take (k + 1))).length = zs.length := by rw [joins_length, idL_len]
  apply List.ext_getElem (hl1.trans hl2.symm)
  intro i g1 g2
  have hi : i < zs.length := by omega
  have e2 := joins_at (zs := zs) (cs.take (k + 1)) (idL zs.length) (idL_len _) (fun c hc => h.cl c (List.mem_of_mem_take hc)) hn2 (hid _) i hi
  have eP := fun (x : Nat) (hx : x < zs.length) => joins_at (zs := zs) (cs.take k) (idL zs.length) (idL_len _) (fun c hc => h.cl c (List.mem_of_mem_take hc)) hn1 (hid _) x hx
  have eQ := one_at hC hcn hi
  rw [← hQ] at eQ
  have key : (pmul Q P).1.getD i 0 = (joins (idL zs.length) (cs.take (k + 1))).getD i 0 := by
    rw [e2, hfl]
    by_cases hic : (i : Int) ∈ cs[k]
    · rw [if_pos hic] at eQ
      rw [if_pos (List.mem_append_right _ hic)]
      have him := hC.img hic
      obtain ⟨r0, r1⟩ := hC.2.1 _ him
      obtain ⟨x, hx⟩ : ∃ x : Nat, zs.getD i 0 = (x : Int) := ⟨(zs.getD i 0).toNat, by omega⟩
      rw [hx] at eQ him r1 ⊢
      have hxl : x < zs.length := by omega
      have h3 := mul_at Q P hi eQ
      show (mulL Q.1 P.1).getD i 0 = _
      rw [h3, hP, eP x hxl, if_neg, idL_get hxl]
      intro hx2
      rw [hfl] at hn2
      exact (List.nodup_append.1 hn2).2.2 _ hx2 _ him rfl
    · rw [if_neg hic] at eQ
      have h3 := mul_at Q P hi eQ
      show (mulL Q.1 P.1).getD i 0 = _
      rw [h3, hP, eP i hi]
      by_cases h4 : (i : Int) ∈ (cs.take k).flatten
      · rw [if_pos h4, if_pos (List.mem_append_left _ h4)]
      · rw [if_neg h4, if_neg (fun h5 => (List.mem_append.1 h5).elim h4 hic)]
  simpa [List.getD_eq_getElem?_getD, g1, g2] using key
end Go.Proofs.YtpchomhfpfpckaaDoor

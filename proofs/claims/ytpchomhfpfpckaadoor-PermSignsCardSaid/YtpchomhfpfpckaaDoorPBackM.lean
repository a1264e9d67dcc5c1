/- What is written as cycles is read again: pure, no program. -/
import Derived.Test.YtpchomhfpfpckaaDoorPSpec
import Derived.Test.YtpchomhfpfpckaaDoorCycMath
import Derived.Test.YtpchomhfpfpckaaDoorText
namespace Go.Proofs.YtpchomhfpfpckaaDoor
open Go Go.RowKit

/-- The bytes l stand in s from p on. -/
def Seg (s : ByteArray) (p : Nat) (l : List UInt8) : Prop := p + l.length ≤ s.size ∧ ∀ j (h : j < l.length), chB s (p + j) = ((l[j]'h).toNat : Int)
theorem Seg.left {s : ByteArray} {p : Nat} {l m : List UInt8} (h : Seg s p (l ++ m)) : Seg s p l := by
  refine ⟨by have := h.1; simp at this; omega, fun j hj => ?_⟩
  rw [h.2 j (by simp; omega), List.getElem_append_left hj]
theorem Seg.right {s : ByteArray} {p : Nat} {l m : List UInt8} (h : Seg s p (l ++ m)) : Seg s (p + l.length) m := by
  refine ⟨by have := h.1; simp at this; omega, fun j hj => ?_⟩
  have := h.2 (l.length + j) (by simp; omega)
  rw [← Nat.add_assoc] at this
  rw [this, List.getElem_append_right (by omega)]
  simp
theorem Seg.head {s : ByteArray} {p : Nat} {b : UInt8} {l : List UInt8} (h : Seg s p (b :: l)) : chB s p = (b.toNat : Int) := h.2 0 (by simp)
theorem Seg.tail {s : ByteArray} {p : Nat} {b : UInt8} {l : List UInt8} (h : Seg s p (b :: l)) : Seg s (p + 1) l := Seg.right (l := [b]) h
theorem Seg.whole (l : List UInt8) : Seg ⟨l.toArray⟩ 0 l := by
  refine ⟨by simp [ByteArray.size], fun j hj => ?_⟩
  rw [Nat.zero_add, chB_in (show j < (⟨l.toArray⟩ : ByteArray).size by simpa [ByteArray.size] using hj)]
  rfl
theorem dig_val {u : Nat} (hu : u < 10) : (UInt8.ofNat (48 + u)).toNat = 48 + u := by
  rw [UInt8.toNat_ofNat']
  omega
/-- A number that is written is read. -/
theorem num_read {s : ByteArray} {p u : Nat} (hu : u < 100) (h : Seg s p (dig u)) (hn : ¬ Dg (chB s (p + (dig u).length))) : Num1 s p (p + (dig u).length) ∧ rv s p (p + (dig u).length - p) = u := by
  unfold dig at h hn ⊢
  by_cases h10 : u < 10
  · rw [if_pos h10] at h hn ⊢
    have h0 := h.head
    rw [dig_val h10] at h0
    simp only [List.length_singleton] at hn ⊢
    have hz := h.1
    simp only [List.length_singleton] at hz
    have hd : Digs s p (p + 1) := ⟨by omega, hz, fun i h1 h2 => by
      have : i = p := by omega
      subst this
      rw [h0]; unfold Dg; omega, hn⟩
    refine ⟨⟨hd, by omega, by omega⟩, ?_⟩
    rw [Nat.add_sub_cancel_left]
    show min (10 * 0 + (chB s (p + 0) - 48).toNat) 1000 = u
    rw [Nat.add_zero, h0]
    omega
  · rw [if_neg h10] at h hn ⊢
    have h0 := h.head
    have h1 := h.tail.head
    rw [dig_val (by omega)] at h0 h1
    simp only [List.length_cons, List.length_nil] at hn ⊢
    have hz := h.1
    simp only [List.length_cons, List.length_nil] at hz
    have hd : Digs s p (p + (0 + 1 + 1)) := ⟨by omega, hz, fun i g1 g2 => by
      rcases (show i = p ∨ i = p + 1 by omega) with rfl | rfl
      · rw [h0]; unfold Dg; omega
      · rw [h1]; unfold Dg; omega, hn⟩
    refine ⟨⟨hd, by omega, by rw [h0]; omega⟩, ?_⟩
    rw [Nat.add_sub_cancel_left]
    show min (10 * (min (10 * 0 + (chB s (p + 0) - 48).toNat) 1000) + (chB s (p + 1) - 48).toNat) 1000 = u
    rw [Nat.add_zero, h0, h1]
    omega

/-- Points with a blank before each, and the end of their cycle. -/
def ptsT (xs : List Int) : List UInt8 := xs.flatMap (fun x => 32 :: dig x.toNat) ++ [41]
theorem ptsT_cons (x : Int) (xs : List Int) : ptsT (x :: xs) = 32 :: (dig x.toNat ++ ptsT xs) := by simp [ptsT]
theorem ptsT_head {s : ByteArray} {p : Nat} {xs : List Int} (h : Seg s p (ptsT xs)) : ¬ Dg (chB s p) := by
  cases xs with
  | nil => rw [Seg.head (show Seg s p (41 :: []) from h)]; decide
  | cons x xs => rw [ptsT_cons] at h; rw [h.head]; decide
/-- A number and what follows it. -/
theorem point_read {s : ByteArray} {n p : Nat} {x : Int} {xs u c : List Int} {o : COut} (h64 : n ≤ 64) (hx : 0 ≤ x ∧ x < (n : Int)) (hu : x ∉ u) (h : Seg s p (dig x.toNat ++ ptsT xs))
    (hr : CycR s n (p + (dig x.toNat).length) (u ++ [x]) (c ++ [x]) o) : CycR s n p u c o := by
  obtain ⟨hN, hv⟩ := num_read (u := x.toNat) (by omega) h.left (ptsT_head h.right)
  have hxx : ((x.toNat : Nat) : Int) = x := Int.toNat_of_nonneg hx.1
  refine .point hN (by rw [hv]; omega) (by rw [hv, hxx]; exact hu) ?_
  rw [hv, hxx]
  exact hr
theorem pts_read {s : ByteArray} {n : Nat} (h64 : n ≤ 64) : ∀ (xs : List Int) (p : Nat) (u c : List Int), Seg s p (ptsT xs) → InR n xs → (u ++ xs).Nodup → CycR s n p u c (.done (p + (ptsT xs).length) (u ++ xs) (c ++ xs)) := by
  intro xs
  induction xs with
  | nil =>
    intro p u c h _ _
    rw [List.append_nil, List.append_nil]
    exact .close (Seg.head (show Seg s p (41 :: []) from h))
  | cons x xs ih =>
    intro p u c h hin hnd
    rw [ptsT_cons] at h
    have h2 := h.tail
    have hnd2 : (u ++ [x] ++ xs).Nodup := by simpa using hnd
    have hxu : x ∉ u := fun hm => by
      have := (List.nodup_append.1 hnd).2.2 x hm x (by simp)
      exact this rfl
    have hr := ih (p + 1 + (dig x.toNat).length) (u ++ [x]) (c ++ [x]) h2.right (fun y hy => hin y (List.mem_cons_of_mem _ hy)) hnd2
    have he : p + 1 + (dig x.toNat).length + (ptsT xs).length = p + (ptsT (x :: xs)).length := by rw [ptsT_cons]; simp; omega
    rw [he] at hr
    refine .blank h.head ?_
    refine point_read h64 (hin x (by simp)) hxu h2 ?_
    simpa using hr
theorem cycTo_tail (x : Int) (xs : List Int) : ∀ k, k ≤ xs.length → cycTo (x :: xs) (k + 1) = 40 :: (dig x.toNat ++ (xs.take k).flatMap fun y => 32 :: dig y.toNat) := by
  intro k
  induction k with
  | zero => intro _; simp [cycTo]
  | succ k ih =>
    intro hk
    have hlt : k < xs.length := by omega
    rw [cycTo, ih (by omega), if_neg (by omega), List.take_succ_eq_append_getElem hlt, List.flatMap_append]
    have : (x :: xs).getD (k + 1) 0 = xs[k] := by simp [List.getD_eq_getElem?_getD, hlt]
    rw [this]
    simp
theorem cycText_tail (x : Int) (xs : List Int) : cycText (x :: xs) = 40 :: (dig x.toNat ++ ptsT xs) := by
  unfold cycText
  rw [List.length_cons, cycTo_tail x xs xs.length (Nat.le_refl _), List.take_length]
  simp [ptsT]
/-- A cycle that is written is read. -/
theorem cyc_read {s : ByteArray} {n : Nat} (h64 : n ≤ 64) {cl : List Int} {p : Nat} {u : List Int} (hc : 0 < cl.length) (h : Seg s p (cycText cl)) (hin : InR n cl) (hnd : (u ++ cl).Nodup) :
    chB s p = 40 ∧ CycR s n (p + 1) u [] (.done (p + (cycText cl).length) (u ++ cl) cl) := by
  cases cl with
  | nil => simp at hc
  | cons x xs =>
    rw [cycText_tail] at h ⊢
    refine ⟨h.head, ?_⟩
    have h2 := h.tail
    have hnd2 : (u ++ [x] ++ xs).Nodup := by simpa using hnd
    have hxu : x ∉ u := fun hm => (List.nodup_append.1 hnd).2.2 x hm x (by simp) rfl
    have hr := pts_read h64 xs (p + 1 + (dig x.toNat).length) (u ++ [x]) ([] ++ [x]) h2.right (fun y hy => hin y (List.mem_cons_of_mem _ hy)) hnd2
    have he : p + 1 + (dig x.toNat).length + (ptsT xs).length = p + (40 :: (dig x.toNat ++ ptsT xs)).length := by simp; omega
    rw [he] at hr
    refine point_read h64 (hin x (by simp)) hxu h2 ?_
    simpa using hr

/-- The images of the longer cycles, one after the other. -/
def joins (m : List Int) (cs : List (List Int)) : List Int := cs.foldl (fun m c => if 1 < c.length then joinL m c else m) m
theorem joins_cons (m c : List Int) (cs : List (List Int)) : joins m (c :: cs) = joins (if 1 < c.length then joinL m c else m) cs := rfl
theorem joins_length (cs : List (List Int)) : ∀ m, (joins m cs).length = m.length := by
  induction cs with
  | nil => intro m; rfl
  | cons c cs ih =>
    intro m
    rw [joins_cons, ih]
    split
    · exact joinTo_length _ _ _
    · rfl
theorem txt_cons (c : List Int) (cs : List (List Int)) : txt (c :: cs) = (if 1 < c.length then cycText c else []) ++ txt cs := by simp [txt]
theorem txt_read {s : ByteArray} {n : Nat} (h64 : n ≤ 64) : ∀ (cs : List (List Int)) (p : Nat) (u m : List Int), Seg s p (txt cs) → p + (txt cs).length = s.size → (∀ c ∈ cs, InR n c) → (u ++ cs.flatten).Nodup → ParR s n p u m (.ok (joins m cs)) := by
  intro cs
  induction cs with
  | nil => intro p u m _ hp _ _; exact .stop (by simpa [txt] using hp)
  | cons c cs ih =>
    intro p u m h hp hin hnd
    rw [joins_cons]
    rw [txt_cons] at h hp
    rw [List.flatten_cons, ← List.append_assoc] at hnd
    by_cases h1 : 1 < c.length
    · rw [if_pos h1] at h hp ⊢
      obtain ⟨a, b⟩ := cyc_read h64 (by omega) h.left (hin c (by simp)) (List.nodup_append.1 hnd).1
      refine .good a b (ih _ _ _ h.right ?_ (fun d hd => hin d (List.mem_cons_of_mem _ hd)) hnd)
      rw [← hp, List.length_append]; omega
    · rw [if_neg h1] at h hp ⊢
      refine ih p u m h (by simpa using hp) (fun d hd => hin d (List.mem_cons_of_mem _ hd)) ?_
      have h2 := hnd
      rw [List.append_assoc] at h2
      rw [List.nodup_append] at h2 ⊢
      exact ⟨h2.1, (List.nodup_append.1 h2.2.1).2.1, fun a ha b hb => h2.2.2 a ha b (List.mem_append_right _ hb)⟩

/-- What joining a cycle does to each point. -/
theorem nodup_inj {c : List Int} (h : c.Nodup) {i j : Nat} (hi : i < c.length) (hj : j < c.length) (e : c.getD i 0 = c.getD j 0) : i = j := by
  simp only [List.getD_eq_getElem?_getD, List.getElem?_eq_getElem hi, List.getElem?_eq_getElem hj, Option.getD_some] at e
  have hp := List.pairwise_iff_getElem.1 h
  rcases Nat.lt_trichotomy i j with g | g | g
  · exact absurd e (hp i j hi hj g)
  · exact g
  · exact absurd e.symm (hp j i hj hi g)
theorem joinTo_at {m c : List Int} (hin : InR m.length c) (hnd : c.Nodup) : ∀ k, k ≤ c.length → ∀ t, t < k → (joinTo m c k).getD (c.getD t 0).toNat 0 = c.getD ((t + 1) % c.length) 0 := by
  intro k
  induction k with
  | zero => intro _ t h; omega
  | succ k ih =>
    intro hk t ht
    obtain ⟨r0, r1⟩ := hin _ (getD_mem (show k < c.length by omega))
    obtain ⟨q0, q1⟩ := hin _ (getD_mem (show t < c.length by omega))
    rw [joinTo]
    simp only [List.getD_eq_getElem?_getD (l := (joinTo m c k).set _ _), List.getElem?_set]
    by_cases e : t = k
    · subst e
      rw [if_pos rfl, if_pos (by rw [joinTo_length]; omega)]
      rfl
    · have hne : ¬ (c.getD k 0).toNat = (c.getD t 0).toNat := fun h => e (nodup_inj hnd (by omega) (by omega) (by omega)).symm.symm
      rw [if_neg hne, ← List.getD_eq_getElem?_getD]
      exact ih (by omega) t (by omega)
theorem joinTo_off {m c : List Int} (hin : InR m.length c) {i : Nat} (hi : (i : Int) ∉ c) : ∀ k, k ≤ c.length → (joinTo m c k).getD i 0 = m.getD i 0 := by
  intro k
  induction k with
  | zero => intro _; rfl
  | succ k ih =>
    intro hk
    obtain ⟨r0, r1⟩ := hin _ (getD_mem (show k < c.length by omega))
    have hne : ¬ (c.getD k 0).toNat = i := fun h => hi (by
      have := getD_mem (show k < c.length by omega)
      rwa [show c.getD k 0 = (i : Int) by omega] at this)
    rw [joinTo]
    simp only [List.getD_eq_getElem?_getD (l := (joinTo m c k).set _ _), List.getElem?_set]
    rw [if_neg hne, ← List.getD_eq_getElem?_getD]
    exact ih (by omega)
/-- Joining a cycle of a permutation: its points get their images, the others stay. -/
theorem joinL_at {zs m c : List Int} (hl : m.length = zs.length) (hc : Closes zs c) (hnd : c.Nodup) {i : Nat} : (joinL m c).getD i 0 = if (i : Int) ∈ c then zs.getD i 0 else m.getD i 0 := by
  have hin : InR m.length c := by rw [hl]; exact hc.2.1
  by_cases hi : (i : Int) ∈ c
  · rw [if_pos hi]
    obtain ⟨t, ht⟩ := List.mem_iff_getElem?.1 hi
    have htl := (List.getElem?_eq_some_iff.1 ht).1
    have hte : c.getD t 0 = (i : Int) := by rw [List.getD_eq_getElem?_getD, ht]; rfl
    have h1 := joinTo_at hin hnd c.length (Nat.le_refl _) t htl
    have h2 := hc.2.2 t htl
    rw [hte, Int.toNat_natCast] at h1 h2
    exact h1.trans h2.symm
  · rw [if_neg hi]
    exact joinTo_off hin hi c.length (Nat.le_refl _)
theorem joins_at {zs : List Int} : ∀ (cs : List (List Int)) (m : List Int), m.length = zs.length → (∀ c ∈ cs, Closes zs c) → cs.flatten.Nodup → (∀ i : Nat, i < zs.length → (i : Int) ∈ cs.flatten → m.getD i 0 = (i : Int)) →
    ∀ i : Nat, i < zs.length → (joins m cs).getD i 0 = if (i : Int) ∈ cs.flatten then zs.getD i 0 else m.getD i 0 := by
  intro cs
  induction cs with
  | nil => intro m _ _ _ _ i _; simp [joins]
  | cons c cs ih =>
    intro m hl hc hnd hm i hi
    rw [List.flatten_cons] at hnd
    have hnc := (List.nodup_append.1 hnd).1
    have hns := (List.nodup_append.1 hnd).2.1
    have hdj := (List.nodup_append.1 hnd).2.2
    have hcc := hc c (by simp)
    have hstep : ∀ j : Nat, j < zs.length → (if 1 < c.length then joinL m c else m).getD j 0 = if (j : Int) ∈ c then zs.getD j 0 else m.getD j 0 := by
      intro j hj
      by_cases h1 : 1 < c.length
      · rw [if_pos h1]; exact joinL_at hl hcc hnc
      · rw [if_neg h1]
        by_cases hjc : (j : Int) ∈ c
        · rw [if_pos hjc, hm j hj (by simp [hjc])]
          obtain ⟨t, ht⟩ := List.mem_iff_getElem?.1 hjc
          have htl := (List.getElem?_eq_some_iff.1 ht).1
          have ht0 : t = 0 := by omega
          subst ht0
          have hte : c.getD 0 0 = (j : Int) := by rw [List.getD_eq_getElem?_getD, ht]; rfl
          have h2 := hcc.2.2 0 htl
          rw [show (0 + 1) % c.length = 0 by rw [show c.length = 1 by omega], hte, Int.toNat_natCast] at h2
          exact h2.symm
        · rw [if_neg hjc]
    rw [joins_cons]
    have hl2 : (if 1 < c.length then joinL m c else m).length = zs.length := by
      split
      · rw [joinL, joinTo_length]; exact hl
      · exact hl
    rw [ih _ hl2 (fun d hd => hc d (List.mem_cons_of_mem _ hd)) hns (fun j hj hjs => by
      rw [hstep j hj, if_neg (fun hjc => hdj _ hjc _ hjs rfl)]
      exact hm j hj (by simp [hjs])) i hi, hstep i hi]
    by_cases h1 : (i : Int) ∈ cs.flatten
    · rw [if_pos h1, if_pos (by simp [h1])]
    · rw [if_neg h1]
      by_cases h2 : (i : Int) ∈ c
      · rw [if_pos h2, if_pos (by simp [h2])]
      · rw [if_neg h2, if_neg (by simp [h2]; simpa using h1)]

/-- The points of the cycles are all, each once. -/
theorem upTo_nodup {zs : List Int} (hf : Fine zs) (h64 : zs.length ≤ 64) : ∀ k, k ≤ zs.length → (upTo zs k).1.Nodup := by
  intro k
  induction k with
  | zero => intro _; exact List.nodup_nil
  | succ k ih =>
    intro hk
    have h1 := ih (by omega)
    have hw := walk_ok hf 65 (upTo zs k).1 k (by omega) (by omega) (by have := free_le zs.length (upTo zs k).1; omega)
    by_cases hn : walk zs 65 (upTo zs k).1 k = []
    · rw [upTo_none hn]; exact h1
    · rw [upTo_some hn]
      exact List.nodup_append.2 ⟨h1, hw.2.1, fun a ha b hb e => hw.1 b hb (e ▸ ha)⟩
theorem cycs_back {zs : List Int} (hf : Fine zs) (h64 : zs.length ≤ 64) : joins (idL zs.length) (cycs zs) = zs ∧ (cycs zs).flatten.Nodup ∧ (∀ c ∈ cycs zs, Closes zs c) ∧ ∀ i : Nat, i < zs.length → (i : Int) ∈ (cycs zs).flatten := by
  obtain ⟨h1, h2, h3, h4⟩ := upOk hf h64 zs.length (Nat.le_refl _)
  have hnd := upTo_nodup hf h64 zs.length (Nat.le_refl _)
  rw [h4] at hnd h3
  refine ⟨?_, hnd, h2, h3⟩
  have hl : (joins (idL zs.length) (cycs zs)).length = zs.length := by rw [joins_length, idL_len]
  apply List.ext_getElem hl
  intro i g1 g2
  have h5 := joins_at (zs := zs) (cycs zs) (idL zs.length) (idL_len _) h2 hnd (fun j hj _ => idL_get hj) i g2
  rw [if_pos (show (i : Int) ∈ (cycs zs).flatten from h3 i g2)] at h5
  simpa [List.getD_eq_getElem?_getD, g1, g2] using h5
end Go.Proofs.YtpchomhfpfpckaaDoor

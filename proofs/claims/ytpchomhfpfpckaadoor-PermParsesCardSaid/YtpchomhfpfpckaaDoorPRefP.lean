/- The reference's Parse: its memory. -/
import Derived.Test.YtpchomhfpfpckaaDoorPSkip
namespace Go.Proofs.YtpchomhfpfpckaaDoor
open Go Go.RowKit

/-- The first n cells of the row at I are m. -/
def ImgR (w : World) (I n : Nat) (m : List Int) : Prop := (∃ cur, w.heap[I]? = some (.cells cur 3 (0, 0)) ∧ ∀ j, j < n → cur[j]? = some (.int .i64 (m.getD j 0))) ∧ m.length = n
theorem ImgR.cell {w : World} {I n : Nat} {m : List Int} (h : ImgR w I n m) {j : Nat} (hj : j < n) : w.cell? ⟨I, j, none⟩ = some (.int .i64 (m.getD j 0)) := by
  obtain ⟨⟨cur, hc, hh⟩, _⟩ := h
  exact cell_of_row w I j cur 3 (0, 0) hc |>.trans (hh j hj)
theorem ImgR.frozen {w : World} {I n : Nat} {m : List Int} (h : ImgR w I n m) (j : Nat) : w.frozen? ⟨I, j, none⟩ = false := by
  obtain ⟨⟨cur, hc, hh⟩, _⟩ := h
  simp [World.frozen?, hc]
theorem ImgR.set {w : World} {I n : Nat} {m : List Int} (h : ImgR w I n m) {j : Nat} (hj : j < n) (y : Int) : ImgR (w.setCell ⟨I, j, none⟩ (.int .i64 y)) I n (m.set j y) := by
  obtain ⟨⟨cur, hc, hh⟩, hl⟩ := h
  refine ⟨⟨cur.setIfInBounds j (.int .i64 y), ?_, fun i hi => ?_⟩, by simp [hl]⟩
  · simp [World.setCell, Array.getElem?_modify, hc]
  · have hjc : j < cur.size := (Array.getElem?_eq_some_iff.1 (hh j hj)).1
    rw [Array.getElem?_setIfInBounds]
    simp only [List.getD_eq_getElem?_getD, List.getElem?_set]
    by_cases e : j = i
    · subst e
      rw [if_pos rfl, if_pos rfl, if_pos hjc, if_pos (by omega)]
      rfl
    · rw [if_neg e, if_neg e]
      have := hh i hi
      simpa [List.getD_eq_getElem?_getD] using this
theorem ImgR.keep {w w' : World} {I n : Nat} {m : List Int} (h : ImgR w I n m) (hk : w'.heap[I]? = w.heap[I]?) : ImgR w' I n m := by
  obtain ⟨⟨cur, hc, hh⟩, hl⟩ := h
  exact ⟨⟨cur, hk.trans hc, hh⟩, hl⟩
theorem ImgR.lt {w : World} {I n : Nat} {m : List Int} (h : ImgR w I n m) : I < w.heap.size := by
  obtain ⟨⟨cur, hc, hh⟩, hl⟩ := h
  exact (Array.getElem?_eq_some_iff.1 hc).1
theorem HeldR.img {w : World} {T B : Nat} {v : Value} {l : List Int} (h : HeldR w T B v l) : ∃ I c, v = .slice (some ⟨I, 0, none⟩) l.length c ∧ T < I ∧ ImgR w I l.length l := by
  obtain ⟨g, c, cur, h1, h2, h3, h4, h5⟩ := h
  exact ⟨g, c, h1, h2, ⟨cur, h4, h5⟩, rfl⟩
theorem ImgR.ints {w : World} {I n c : Nat} {m : List Int} (h : ImgR w I n m) : Ints w w.heap.size (.slice (some ⟨I, 0, none⟩) n c) m := by
  have hl := h.2
  refine ⟨some ⟨I, 0, none⟩, c, by rw [hl], fun _ => ⟨I, 0, rfl, h.lt, fun j hj => ?_⟩⟩
  rw [Nat.zero_add]
  exact h.cell (by omega)

/-- The reference's memory: the images, what has been seen, the result. -/
structure RfC (w : World) (I S n : Nat) (m u : List Int) (pts : Value) (cl : List Int) (W : World) : Prop where
  im : ImgR W I n m
  sn : Row W S 4 (marksLN n u)
  fr : Row W w.heap.size 45 #[.int .i64 0, .int .i64 0]
  ow : W.ownsRow (S + 1) 3 1 pts cl.length (icells cl)
  be : Below w.heap.size w W
section
variable {w W W' : World} {I S n : Nat} {m u cl : List Int} {pts pts' : Value}
theorem RfC.nil (h : RfC w I S n m u pts cl W) : RfC w I S n m u (.slice none 0 0) [] W := ⟨h.im, h.sn, h.fr, World.ownsRow_nil _ _ _ _, h.be⟩
theorem RfC.mark (h : RfC w I S n m u pts cl W) (hI : I < S) (hS : w.heap.size < S) (i : Nat) : RfC w I S n m (u ++ [(i : Int)]) pts cl (W.setCell ⟨S, i, none⟩ (.bool true)) := by
  have hb : But S W.heap.size W (W.setCell ⟨S, i, none⟩ (.bool true)) := But.set W (p := ⟨S, i, none⟩) (.inl rfl) (Nat.le_of_lt (Row.lt h.sn)) _
  refine ⟨h.im.keep (hb.2 _ h.im.lt (by omega)), ?_, (hb.2 _ (Row.lt h.fr) (by omega)).trans h.fr, owns_but' h.ow hb (by omega), h.be.trans (hb.1.mono (by omega))⟩
  have := Row.set h.sn i (.bool true)
  rwa [marksLN_set] at this
theorem RfC.img (h : RfC w I S n m u pts cl W) (hI : I < S) (hS : w.heap.size < I) {j : Nat} (hj : j < n) (y : Int) : RfC w I S n (m.set j y) u pts cl (W.setCell ⟨I, j, none⟩ (.int .i64 y)) := by
  have hb : But I W.heap.size W (W.setCell ⟨I, j, none⟩ (.int .i64 y)) := But.set W (p := ⟨I, j, none⟩) (.inl rfl) (Nat.le_of_lt h.im.lt) _
  exact ⟨h.im.set hj y, (hb.2 _ (Row.lt h.sn) (by omega)).trans h.sn, (hb.2 _ (Row.lt h.fr) (by omega)).trans h.fr, owns_but' h.ow hb (by omega), h.be.trans (hb.1.mono (by omega))⟩
theorem RfC.drewN (h : RfC w I S n m u pts cl W) (k : Nat) : RfC w I S n m u pts cl (W.drewN k) := ⟨h.im, h.sn, h.fr, h.ow, ⟨h.be.os, h.be.tape, h.be.output, h.be.size, h.be.block⟩⟩
theorem RfC.app (h : RfC w I S n m u pts cl W) (hI : I < S) (hS : w.heap.size < I) {tmp : Obj} {x : Int} (hg : (W.alloc tmp).grownBy W' pts.ownBlock) (hown : W'.ownsRow (S + 1) 3 1 pts' (cl.length + 1) (icells cl ++ [.int .i64 x])) : RfC w I S n m u pts' (cl ++ [x]) W' := by
  have ho : ∀ r, pts.ownBlock = some r → S + 1 ≤ r := fun r e => (h.ow.lt r e).1
  have hlt := h.im.lt
  refine ⟨h.im.keep ?_, Row.kept (Row.alloc h.sn tmp) hg (fun e => ?_), Row.kept (Row.alloc h.fr tmp) hg (fun e => ?_), ?_, (h.be.alloc h.be.size tmp).grown hg (by have := h.be.size; simp; omega) (fun r e => ?_)⟩
  · rw [hg.block I (by simp; omega) (fun e => by have := ho I e.symm; omega)]
    exact (World.grownBy_alloc W tmp none).block I hlt (by simp)
  · have := ho S e.symm; omega
  · have := ho _ e.symm; omega
  · rw [List.length_append, icells_append]; exact hown
  · have := ho r e; omega
end

theorem make_seen (n : Nat) (hn : n ≤ 64) (W : World) : (Instr.makeSlice 94 (.int .i64 (n : Int)) (.int .i64 (n : Int))).run Tryd.prog W = .ok (.slice (some ⟨W.heap.size, 0, none⟩) n n) (W.alloc (.cells (marksLN n []) 4)) := by
  have := make_marks (idL n) (by rw [idL_len]; omega) W
  rwa [marksLN_nil, idL_len] at this

/-- What a cycle's end means for the whole. -/
def Link (s : ByteArray) (n : Nat) (m : List Int) (o : POut) : COut → Prop
  | .bad e q => o = .bad e q
  | .done q u c => ParR s n q u (joinL m c) o
theorem par_open {s : ByteArray} {n p : Nat} {u m : List Int} {o : POut} (h : ParR s n p u m o) (h40 : chB s p = 40) : ∃ oc, CycR s n (p + 1) u [] oc ∧ Link s n m o oc := by
  cases h with
  | stop he => have := chB_lt (s := s) (i := p) (by omega); omega
  | blank h _ => omega
  | bad _ hc => exact ⟨_, hc, rfl⟩
  | good _ hc hn => exact ⟨_, hc, hn⟩
  | other _ _ h => exact absurd h40 h

theorem Digs.uniq {s : ByteArray} {p e e' : Nat} (h : Digs s p e) (h' : Digs s p e') : e = e' := by
  rcases Nat.lt_trichotomy e e' with hlt | rfl | hlt
  · exact absurd (h'.2.2.1 e h.1 hlt) h.2.2.2
  · rfl
  · exact absurd (h.2.2.1 e' h'.1 hlt) h'.2.2.2
/-- What the digits from p on make of a cycle. -/
theorem cyc_here {s : ByteArray} {n p e : Nat} {u c : List Int} {o : COut} (h : CycR s n p u c o) (h32 : chB s p ≠ 32) (h41 : chB s p ≠ 41) (hD : Digs s p e) :
    (e = p → o = .bad 11 p) ∧ (p < e → chB s p = 48 → p + 1 < e → o = .bad 11 p) ∧
    (p < e → ¬ (chB s p = 48 ∧ p + 1 < e) → n ≤ rv s p (e - p) → o = .bad 2 p) ∧
    (p < e → ¬ (chB s p = 48 ∧ p + 1 < e) → ¬ n ≤ rv s p (e - p) → ((rv s p (e - p) : Nat) : Int) ∈ u → o = .bad 8 p) ∧
    (p < e → ¬ (chB s p = 48 ∧ p + 1 < e) → ¬ n ≤ rv s p (e - p) → ((rv s p (e - p) : Nat) : Int) ∉ u → CycR s n e (u ++ [((rv s p (e - p) : Nat) : Int)]) (c ++ [((rv s p (e - p) : Nat) : Int)]) o) := by
  cases h with
  | stop he =>
    refine ⟨fun _ => by rw [he], ?_, ?_, ?_, ?_⟩ <;> (intro hlt; have := hD.2.1; omega)
  | blank h _ => exact absurd h h32
  | close h => exact absurd h h41
  | zero hD' hz hp =>
    have := hD'.uniq hD; subst this
    exact ⟨fun _ => rfl, fun _ _ _ => rfl, fun _ hn => absurd ⟨hz, hp⟩ hn, fun _ hn => absurd ⟨hz, hp⟩ hn, fun _ hn => absurd ⟨hz, hp⟩ hn⟩
  | big hN hb =>
    have := hN.1.uniq hD; subst this
    exact ⟨fun h => absurd hN.2.1 (by omega), fun _ h1 h2 => absurd ⟨h1, h2⟩ hN.2.2, fun _ _ _ => rfl, fun _ _ h => absurd hb h, fun _ _ h => absurd hb h⟩
  | double hN hb hm =>
    have := hN.1.uniq hD; subst this
    exact ⟨fun h => absurd hN.2.1 (by omega), fun _ h1 h2 => absurd ⟨h1, h2⟩ hN.2.2, fun _ _ h => absurd hb (by omega), fun _ _ _ _ => rfl, fun _ _ _ h => absurd hm h⟩
  | point hN hb hm hn =>
    have := hN.1.uniq hD; subst this
    exact ⟨fun h => absurd hN.2.1 (by omega), fun _ h1 h2 => absurd ⟨h1, h2⟩ hN.2.2, fun _ _ h => absurd hb (by omega), fun _ _ _ h => absurd h hm, fun _ _ _ _ => hn⟩
  | other hlt _ _ hnd =>
    have he : e = p := by
      apply Nat.le_antisymm _ hD.1
      apply Nat.le_of_not_lt
      intro hpe
      exact hnd (hD.2.2.1 p (Nat.le_refl _) hpe)
    exact ⟨fun _ => rfl, fun h => absurd h (by omega), fun h => absurd h (by omega), fun h => absurd h (by omega), fun h => absurd h (by omega)⟩
end Go.Proofs.YtpchomhfpfpckaaDoor

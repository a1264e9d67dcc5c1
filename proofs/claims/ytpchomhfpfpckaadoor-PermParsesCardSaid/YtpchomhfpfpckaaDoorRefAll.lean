/- The reference's all: the cycles, those of one point included. -/
import Derived.Test.YtpchomhfpfpckaaDoorSel
import Derived.Test.YtpchomhfpfpckaaDoorCyc
import Derived.Test.YtpchomhfpfpckaaDoorRefCheck
namespace Go.Proofs.YtpchomhfpfpckaaDoor
open Go Go.RowKit

def marksLN (n : Nat) (L : List Int) : Array Value := Array.ofFn (n := n) fun i => Value.bool (decide ((i.val : Int) ∈ L))
theorem marksLN_get {n : Nat} (L : List Int) (i : Nat) (hi : i < n) : (marksLN n L)[i]? = some (.bool (decide ((i : Int) ∈ L))) := by simp [marksLN, hi]
theorem marksLN_nil (zs : List Int) : marksN zs 0 = marksLN zs.length [] := by
  apply Array.ext
  · simp [marksLN, marksN]
  · intro i h1 h2; simp [marksLN, marksN]
theorem marksLN_set {n : Nat} (L : List Int) (i : Nat) : (marksLN n L).setIfInBounds i (.bool true) = marksLN n (L ++ [(i : Int)]) := by
  apply Array.ext
  · simp [marksLN]
  · intro j h1 h2
    have hj : j < n := by simpa [marksLN] using h2
    rw [Array.getElem_setIfInBounds (by simpa [marksLN] using hj)]
    by_cases e : i = j
    · subst e; simp [marksLN]
    · have e' : ¬ (j : Int) = i := by omega
      simp [marksLN, if_neg e, e']

/-- A list in one row of ints between T and B. -/
def HeldR (w : World) (T B : Nat) (v : Value) (l : List Int) : Prop :=
  ∃ g c cur, v = .slice (some ⟨g, 0, none⟩) l.length c ∧ T < g ∧ g < B ∧ w.heap[g]? = some (.cells cur 3 (0, 0)) ∧ ∀ j, j < l.length → cur[j]? = some (.int .i64 (l.getD j 0))
theorem HeldR.more {w : World} {T B B' : Nat} {v : Value} {l : List Int} (h : HeldR w T B v l) (hB : B ≤ B') : HeldR w T B' v l := by
  obtain ⟨g, c, cur, h1, h2, h3, h4⟩ := h
  exact ⟨g, c, cur, h1, h2, by omega, h4⟩
theorem HeldR.keep {w w' : World} {T B : Nat} {v : Value} {l : List Int} (h : HeldR w T B v l) (hk : But T B w w') : HeldR w' T B v l := by
  obtain ⟨g, c, cur, h1, h2, h3, h4, h5⟩ := h
  exact ⟨g, c, cur, h1, h2, h3, (hk.2 g h3 (by omega)).trans h4, h5⟩
theorem HeldR.far {w w' : World} {T B base n : Nat} {v vo : Value} {l : List Int} {ws : List Value} (h : HeldR w T B v l) (hB : B ≤ w.heap.size) (ho : w.ownsRow base 23 1 vo n ws) (hg : w.grownBy w' vo.ownBlock) : HeldR w' T B v l := by
  obtain ⟨g, c, cur, h1, h2, h3, h4, h5⟩ := h
  refine ⟨g, c, cur, h1, h2, h3, (hg.block g (by omega) ?_).trans h4, h5⟩
  intro e
  rcases ho.2 with ⟨rfl, _⟩ | ⟨g', cap, cur', rfl, _, hh, _⟩
  · cases e
  · have : g = g' := by injection e
    subst this
    rw [h4] at hh
    injection hh with hh
    injection hh with _ hh _
    exact absurd hh (by decide)
theorem HeldR.ints {w : World} {T B : Nat} {v : Value} {l : List Int} (h : HeldR w T B v l) : Ints w B v l := by
  obtain ⟨g, c, cur, rfl, h2, h3, h4, h5⟩ := h
  exact ⟨_, c, rfl, fun _ => ⟨g, 0, rfl, h3, fun j hj => by rw [Nat.zero_add]; simp [World.cell?, h4, h5 j hj]⟩⟩
theorem heldR_of {w : World} {T base : Nat} {v : Value} {l : List Int} (h : w.ownsRow base 3 1 v l.length (icells l)) (hl : 0 < l.length) (hT : T < base) : HeldR w T w.heap.size v l := by
  rcases h.2 with ⟨_, h0⟩ | ⟨g, cap, cur, rfl, hb, hg, _, _, _, ht⟩
  · omega
  · refine ⟨g, cap, cur, rfl, by omega, (Array.getElem?_eq_some_iff.1 hg).1, hg, fun j hj => ?_⟩
    have := icells_get hj
    rw [← ht, List.getElem?_take_of_lt (by omega), Array.getElem?_toList] at this
    exact this
theorem owns_but {w w' : World} {T B base e size n : Nat} {v : Value} {xs : List Value} (h : w.ownsRow base e size v n xs) (hT : T < base) (hB : w.heap.size ≤ B) (hk : But T B w w') : w'.ownsRow base e size v n xs := by
  refine ⟨h.1, h.2.imp id ?_⟩
  rintro ⟨g, cap, cur, hv, hb, hg, hr⟩
  have := (Array.getElem?_eq_some_iff.1 hg).1
  exact ⟨g, cap, cur, hv, hb, (hk.2 g (by omega) (by omega)).trans hg, hr⟩

/-- The inner loop, from W0 on: the cycle so far, at i. -/
def CycIn (W0 : World) (zs : List Int) (T : Nat) (L : List Int) (k : Nat) (v : Value) (i : Nat) (cl : List Int) (wr : World) : Prop :=
  AtCyc zs L k cl i ∧ wr.ownsRow W0.heap.size 3 1 v cl.length (icells cl) ∧ Row wr T 4 (marksLN zs.length (L ++ cl)) ∧ But T W0.heap.size W0 wr ∧ T < W0.heap.size
theorem CycIn.step {W0 wr w3 : World} {zs L cl : List Int} {T k i : Nat} {v v' : Value} {tmp : Obj} (h : CycIn W0 zs T L k v i cl wr) (hf : Fine zs) (h64 : zs.length ≤ 64) (hi : (i : Int) ∉ L ++ cl)
    (hg : ((wr.setCell ⟨T, i, none⟩ (.bool true)).alloc tmp).grownBy w3 v.ownBlock) (hown : w3.ownsRow W0.heap.size 3 1 v' (cl.length + 1) (icells cl ++ [.int .i64 (i : Int)])) :
    CycIn W0 zs T L k v' (zs.getD i 0).toNat (cl ++ [(i : Int)]) w3 ∧ i < zs.length ∧ 0 ≤ zs.getD i 0 ∧ zs.getD i 0 < (zs.length : Int) := by
  obtain ⟨hA, hO, hR, hB, hT⟩ := h
  have hlt : i < zs.length := by have := hA.2.1; omega
  have hnx := fine_next hf hlt
  have hbs := hB.1.size
  have hsz : (wr.setCell ⟨T, i, none⟩ (.bool true)).heap.size = wr.heap.size := by simp [World.setCell]
  have hrow : ∀ q, v.ownBlock = some q → W0.heap.size ≤ q := fun q hq => (hO.lt q hq).1
  have b1 := But.set (t := T) (B := W0.heap.size) wr (p := ⟨T, i, none⟩) (.inl rfl) (by omega) (.bool true)
  have b2 : But T W0.heap.size (wr.setCell ⟨T, i, none⟩ (.bool true)) ((wr.setCell ⟨T, i, none⟩ (.bool true)).alloc tmp) := But.of ((Below.refl _ _).alloc (by omega) _) (by omega)
  have b3 : But T W0.heap.size ((wr.setCell ⟨T, i, none⟩ (.bool true)).alloc tmp) w3 := But.of ((Below.refl _ _).grown hg (by simp; omega) hrow) (by omega)
  have hR1 := hR.set i (.bool true)
  rw [marksLN_set] at hR1
  have hR2 : Row w3 T 4 (marksLN zs.length (L ++ cl ++ [(i : Int)])) := (hR1.alloc tmp).kept hg (fun e => by have := hrow T e.symm; omega)
  rw [List.append_assoc] at hR2
  refine ⟨⟨?_, ?_, hR2, hB.trans (b1.trans (b2.trans b3)), hT⟩, hlt, hnx.1, hnx.2⟩
  · rw [Int.toNat_of_nonneg hnx.1]; exact hA.step hf h64 hi
  · rw [icells_append, List.length_append]; exact hown

/-- The outer loop: the cycles of the first k points. -/
def AllAt (w : World) (zs : List Int) (vo : Value) (ws : List Value) (k : Nat) (wr : World) : Prop :=
  k ≤ zs.length ∧ wr.ownsRow (w.heap.size + 1) 23 1 vo ws.length ws ∧ ws.length = (upTo zs k).2.length ∧ (∀ j, j < ws.length → HeldR wr w.heap.size wr.heap.size (ws.getD j undef) ((upTo zs k).2.getD j [])) ∧
    Row wr w.heap.size 4 (marksLN zs.length (upTo zs k).1) ∧ Below w.heap.size w wr ∧ w.heap.size < wr.heap.size
/-- What all has returned: the list of the cycles. -/
def Cycles (w : World) (zs : List Int) (e : Ending) (w' : World) : Prop :=
  ∃ vo ws, e = .returned vo ∧ w'.ownsRow (w.heap.size + 1) 23 1 vo ws.length ws ∧ ws.length = (cycs zs).length ∧ (∀ j, j < ws.length → HeldR w' w.heap.size w'.heap.size (ws.getD j undef) ((cycs zs).getD j [])) ∧ Below w.heap.size w w'

theorem AllAt.none_ {w wr w' : World} {zs : List Int} {vo v : Value} {ws : List Value} {k i : Nat} (h : AllAt w zs vo ws k wr) (hk : k < zs.length) (hc : CycIn wr zs w.heap.size (upTo zs k).1 k v i [] w') (hi : (i : Int) ∈ (upTo zs k).1 ++ []) : AllAt w zs vo ws (k + 1) w' := by
  obtain ⟨_, h1, h2, h3, h4, h5, h6⟩ := h
  obtain ⟨c1, c2, c3, c4, c5⟩ := hc
  have hd := c1.done hi
  refine ⟨by omega, owns_but h1 (by omega) (Nat.le_refl _) c4, ?_⟩
  rw [upTo_none hd.1]
  refine ⟨h2, fun j hj => ((h3 j hj).keep c4).more c4.1.size, by simpa using c3, h5.trans c4.1, by have := c4.1.size; omega⟩
theorem AllAt.some_ {w wr w1 w' : World} {zs cl : List Int} {vo v vo' : Value} {ws : List Value} {k i : Nat} {tmp : Obj} (h : AllAt w zs vo ws k wr) (hk : k < zs.length) (hc : CycIn wr zs w.heap.size (upTo zs k).1 k v i cl w1) (hi : (i : Int) ∈ (upTo zs k).1 ++ cl) (hn : 0 < cl.length)
    (hg : (w1.alloc tmp).grownBy w' vo.ownBlock) (hown : w'.ownsRow (w.heap.size + 1) 23 1 vo' (ws.length + 1) (ws ++ [v])) : AllAt w zs vo' (ws ++ [v]) (k + 1) w' := by
  obtain ⟨_, h1, h2, h3, h4, h5, h6⟩ := h
  obtain ⟨c1, c2, c3, c4, c5⟩ := hc
  have hd := c1.done hi
  have ho := owns_but h1 (by omega) (Nat.le_refl _) c4
  have hne : cl ≠ [] := fun e => by rw [e] at hn; exact absurd hn (by simp)
  have hs1 := c4.1.size
  have hs2 : (w1.alloc tmp).heap.size = w1.heap.size + 1 := by simp
  have hs3 := hg.size
  have hoa := World.ownsRow.alloc ho tmp
  have ba : But w.heap.size w1.heap.size w1 (w1.alloc tmp) := But.of ((Below.refl _ _).alloc (Nat.le_refl _) _) (by omega)
  refine ⟨by omega, by rw [List.length_append]; exact hown, ?_⟩
  rw [upTo_some (by rw [hd.1]; exact hne), hd.1]
  refine ⟨by simp [h2], fun j hj => ?_, ?_, (h5.trans c4.1).grown ((World.grownBy_alloc w1 tmp _).trans hg) (by omega) (fun q hq => by have := (ho.lt q hq).1; omega), by omega⟩
  · by_cases hlt : j < ws.length
    · have e1 : (ws ++ [v]).getD j undef = ws.getD j undef := by simp [List.getD_eq_getElem?_getD, List.getElem?_append_left hlt]
      have e2 : ((upTo zs k).2 ++ [cl]).getD j [] = (upTo zs k).2.getD j [] := by simp [List.getD_eq_getElem?_getD, List.getElem?_append_left (show j < (upTo zs k).2.length by omega)]
      rw [e1, e2]
      exact (((((h3 j hlt).keep c4).more hs1).keep ba).far (by omega) hoa hg).more (by omega)
    · have hj' : j = ws.length := by simp at hj; omega
      subst hj'
      have e1 : (ws ++ [v]).getD ws.length undef = v := by simp [List.getD_eq_getElem?_getD]
      have e2 : ((upTo zs k).2 ++ [cl]).getD ws.length [] = cl := by rw [h2]; simp [List.getD_eq_getElem?_getD]
      rw [e1, e2]
      exact (((heldR_of c2 hn (by omega)).keep ba).far (by omega) hoa hg).more (by omega)
  · exact (c3.alloc tmp).kept hg (fun e => by have := (ho.lt _ e.symm).1; omega)
end Go.Proofs.YtpchomhfpfpckaaDoor

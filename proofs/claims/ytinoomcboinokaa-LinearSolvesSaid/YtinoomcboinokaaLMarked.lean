/- linear.marked. -/
import Derived.Test.YtinoomcboinokaaLConcat
namespace Go.Proofs.Ytinoomcboinokaa
open Go Go.RowKit Num

/-- The rows of a matrix, each followed by its row of the identity. -/
def markF (n : Nat) (f : Nat → Nat → Int) (i j : Nat) : Int := if j < n then f i j else if j = n + i then 1 else 0
/-- Behind k rows. -/
structure MkI (w : World) (L n : Nat) (f : Nat → Nat → Int) (k : Nat) (v : Value) (g c : Nat → Nat) (X : World) : Prop where
  own : X.ownsRow w.heap.size 22 1 v k ((List.range k).map fun i => .slice (some ⟨g i, 0, none⟩) L (c i))
  row : ∀ i, i < k → RowI X (g i) L (markF n f i) ∧ L ≤ c i ∧ w.heap.size ≤ g i
  be : Below w.heap.size w X
theorem own_last {X : World} {base : Nat} {e : TypeId} {g c k : Nat} {xs : List Value} {u : Value} (h : X.ownsRow base e 1 (.slice (some ⟨g, 0, none⟩) (k + 1) c) (k + 1) (xs ++ [u])) : X.cell? ⟨g, k, none⟩ = some u := by
  have hl : (xs ++ [u]).length = (k + 1) * 1 := h.1
  rcases h.2 with ⟨e, _⟩ | ⟨g3, cap3, cur3, e, _, hgb, _, _, _, r4⟩
  · cases e
  · injection e with e1 e2 e3
    injection e1 with e1
    injection e1 with e1
    subst e1
    have h1 : (xs ++ [u])[k]? = some u := by
      rw [List.length_append, List.length_cons, List.length_nil] at hl
      rw [List.getElem?_append_right (by omega), show k - xs.length = 0 by omega]; rfl
    rw [← r4, List.getElem?_take_of_lt (by omega)] at h1
    exact Row.cell (show Row X g e cur3 from hgb) (by rw [← Array.getElem?_toList]; exact h1)
/-- The next row has been appended, and marked. -/
theorem MkI.next {w : World} {L n : Nat} {f : Nat → Nat → Int} {k : Nat} {v v1 : Value} {g c : Nat → Nat} {X X1 X2 : World} {gr cr : Nat} (h : MkI w L n f k v g c X) (hk : n + k < L) (hb : Below X.heap.size X X1) (hgr : X.heap.size ≤ gr) (hrow : RowI X1 gr L (catF n (f k) (fun _ => 0))) (hcr : L ≤ cr) (o : Obj)
    (hown : X2.ownsRow w.heap.size 22 1 v1 (k + 1) ((List.range k).map (fun i => .slice (some ⟨g i, 0, none⟩) L (c i)) ++ [.slice (some ⟨gr, 0, none⟩) L cr])) (hgrow : (X1.alloc o).grownBy X2 v.ownBlock) :
    RowI X2 gr L (catF n (f k) (fun _ => 0)) ∧ MkI w L n f (k + 1) v1 (fun i => if i = k then gr else g i) (fun i => if i = k then cr else c i) (X2.setCell ⟨gr, n + k, none⟩ (.int .i64 1)) ∧ X2.cell? ⟨gr, n + k, none⟩ = some (.int .i64 0) := by
  have hX := h.be.size
  have hX1 := hb.size
  have hrl := hrow.lt
  have hvb : ∀ b, v.ownBlock = some b → w.heap.size ≤ b ∧ b < X.heap.size := fun b e => h.own.lt b e
  have ht : Turn (fun b => v.ownBlock = some b) X1 X2 := ⟨hgrow.os, hgrow.tape, hgrow.output, Nat.le_trans (by simp) hgrow.size, fun q hq hn => (hgrow.block q (by simp; omega) (fun e => hn e.symm)).trans (Below.heap_alloc _ _ _ hq)⟩
  have hty : ∀ (b : Nat) (F : Nat → Int), RowI X b L F → v.ownBlock ≠ some b := fun b F hr e => by
    obtain ⟨cs, h1, _⟩ := hr
    rcases h.own.2 with ⟨rfl, _⟩ | ⟨g3, cap3, cur3, rfl, _, hgb, _⟩
    · cases e
    · injection e with e
      have e' : g3 = b := e
      rw [e', show X.heap[b]? = _ from h1] at hgb
      cases hgb
  have hr2 : RowI X2 gr L (catF n (f k) (fun _ => 0)) := hrow.turn ht (fun e => by have := (hvb gr e).2; omega)
  have hcell : X2.cell? ⟨gr, n + k, none⟩ = some (.int .i64 0) := by
    have := hr2.cell (j := n + k) (by omega)
    rwa [show catF n (f k) (fun _ => 0) (n + k) = 0 by unfold catF; rw [if_neg (by omega)]] at this
  have hs := (Turn.refl (· = gr) X2).setCell ⟨gr, n + k, none⟩ rfl (.int .i64 1)
  refine ⟨hr2, ⟨?_, fun i hi => ?_, ?_⟩, hcell⟩
  · have hl : ((List.range k).map (fun i => Value.slice (some ⟨g i, 0, none⟩) L (c i)) ++ [.slice (some ⟨gr, 0, none⟩) L cr]) = (List.range (k + 1)).map fun i => .slice (some ⟨if i = k then gr else g i, 0, none⟩) L (if i = k then cr else c i) := by
      rw [List.range_succ, List.map_append, List.map_cons, List.map_nil, if_pos rfl, if_pos rfl]
      congr 1
      refine List.map_congr_left fun i hi => ?_
      have : i < k := List.mem_range.1 hi
      rw [if_neg (by omega), if_neg (by omega)]
    rw [hl] at hown
    refine hown.kept (row := some gr) ⟨rfl, rfl, rfl, by simp, fun q hq hn => hs.block q hq (fun e => hn (by rw [e]))⟩ ?_
    rcases hown.2 with ⟨_, h0⟩ | ⟨g3, cap3, cur3, rfl, _, hgb, _⟩
    · omega
    · refine .inr fun e => ?_
      injection e with e
      have e' : g3 = gr := e
      obtain ⟨cs, h1, _⟩ := hr2
      rw [e', show X2.heap[gr]? = _ from h1] at hgb
      cases hgb
  · by_cases e : i = k
    · subst e
      rw [if_pos rfl, if_pos rfl]
      refine ⟨(hr2.set (n + i) 1).congr fun j hj => ?_, hcr, by omega⟩
      unfold markF catF
      by_cases h1 : j < n
      · rw [if_neg (by omega), if_pos h1, if_pos h1]
      · rw [if_neg h1, if_neg h1]
    · rw [if_neg e, if_neg e]
      obtain ⟨h1, h2, h3⟩ := h.row i (by omega)
      have hlt := h1.lt
      exact ⟨(((h1.turn (S := fun _ => False) (Turn.below hb) id).turn ht (hty _ _ h1)).turn hs (fun (e2 : g i = gr) => by omega)), h2, h3⟩
  · refine h.be.trans ((Turn.to_below (S := fun b => v.ownBlock = some b ∨ b = gr) (((Turn.below hb).trans (ht.more fun b _ e => .inl e)).trans (hs.more fun b _ e => .inr e)) hX ?_))
    rintro q (e | e)
    · exact (hvb q e).1
    · omega
/-- The list, as a grid. -/
theorem MkI.grid {w : World} {L n : Nat} {f : Nat → Nat → Int} {k : Nat} {v : Value} {g c : Nat → Nat} {X : World} (h : MkI w L n f k v g c X) : Grid X (New w X) v k (fun _ => L) (markF n f) := by
  rcases h.own.2 with ⟨rfl, hz⟩ | ⟨gb, cap, cur, rfl, hbase, hgbk, r1, r2, r3, r4⟩
  · rw [hz]; exact ⟨none, 0, rfl, Nat.le_refl _, fun h => absurd h (by omega)⟩
  · refine ⟨_, cap, rfl, r1, fun _ => ⟨gb, 0, rfl, ⟨hbase, (Array.getElem?_eq_some_iff.1 hgbk).1⟩, fun i hi => ?_⟩⟩
    have h1 : ((List.range k).map fun i => Value.slice (some ⟨g i, 0, none⟩) L (c i))[i]? = some (.slice (some ⟨g i, 0, none⟩) L (c i)) := by simp [hi]
    rw [← r4, List.getElem?_take_of_lt (by omega)] at h1
    obtain ⟨h2, h3, h4⟩ := h.row i hi
    exact ⟨_, by rw [Nat.zero_add]; exact Row.cell (show Row X gb 22 cur from hgbk) (by rw [← Array.getElem?_toList]; exact h1), h2.vec h3 _ ⟨h4, h2.lt⟩⟩
def MarkRet (m n : Nat) (f : Nat → Nat → Int) (w : World) (e : Ending) (w' : World) : Prop := ∃ v, e = .returned v ∧ Grid w' (New w w') v m (fun _ => n + m) (markF n f) ∧ Below w.heap.size w w'
set_option maxRecDepth 100000 in
set_option maxHeartbeats 2000000 in
theorem marked_any (p : Int) (rows : Value) (m n : Nat) (f : Nat → Nat → Int) (w : World) (hm0 : 1 ≤ m) (hm : m ≤ 500) (hn0 : 1 ≤ n) (hn : n ≤ 500) (hg : Grid w (· < w.heap.size) rows m (fun _ => n) f) :
    Calls Try.prog 23 #[.agg #[.int .i64 p, rows]] w (MarkRet m n f w) := by
  obtain ⟨b, o, c, RA, RC, rfl, hc, hb, hgc⟩ := hg.at_ hm0
  have HG := Lib.hid hgc
  have hbx := row_new (W := w) rfl 32 #[.int .i64 p, .slice (some ⟨b, o, none⟩) m c]
  have hB0 := (Below.refl w.heap.size w).alloc (Nat.le_refl _) (.cells #[.int .i64 p, .slice (some ⟨b, o, none⟩) m c] 32)
  have hz0 : (w.alloc (.cells #[.int .i64 p, .slice (some ⟨b, o, none⟩) m c] 32)).heap.size = w.heap.size + 1 := by simp
  have hc1 : (w.alloc (.cells #[.int .i64 p, .slice (some ⟨b, o, none⟩) m c] 32)).cell? ⟨w.heap.size, 1, none⟩ = some (.slice (some ⟨b, o, none⟩) m c) := hbx.cell rfl
  obtain ⟨j0, hj0, hy0, hy1, hy2⟩ := info_parts infoSl
  obtain ⟨L, hL⟩ : ∃ L, n + m = L := ⟨_, rfl⟩
  have HLN := Lib.hid hL
  have hL1 : L ≤ 1000 := by omega
  have hL0 : 1 ≤ L := by omega
  clear hg hgc hL
  go_enter Try.func23, Try.ntmps23
  go_wp2
  generalize w.alloc (.cells #[.int .i64 p, .slice (some ⟨b, o, none⟩) m c] 32) = w1 at hbx hB0 hz0 hc1
  have HBX := Lib.hid hbx
  have HB0 := Lib.hid hB0
  clear hbx hB0
  go_loopw [3, 10] (fun v t wr => ∃ k : Nat, ∃ g c, t = .int .i64 k ∧ k ≤ m ∧ Hid (MkI w1 L n f k v g c wr)) (fun _ t _ => m - (intOf t).toNat)
  case atStart => exact ⟨0, fun _ => 0, fun _ => 0, rfl, Nat.zero_le _, Lib.hid ⟨World.ownsRow_nil _ _ _ _, fun i h => absurd h (by omega), Below.refl _ _⟩⟩
  case round =>
    obtain ⟨k, g, cc, rfl, hk, HI⟩ := hrel
    by_cases hlt : k < m
    · have hbe := HI.out.be
      have hb1 : b < w1.heap.size := by omega
      have hx : wr.cell? ⟨b, o + k, none⟩ = some (.slice (RA k) n (RC k)) := (hbe.cell (p := ⟨b, o + k, none⟩) hb1).trans ((HB0.out.cell (p := ⟨b, o + k, none⟩) hb).trans (HG.out k hlt).1)
      have hbox : wr.cell? ⟨w.heap.size, 1, none⟩ = some (.slice (some ⟨b, o, none⟩) m c) := (hbe.cell (p := ⟨w.heap.size, 1, none⟩) (by show w.heap.size < w1.heap.size; omega)).trans (HBX.out.cell rfl)
      have hvk : Vec wr (· < wr.heap.size) (.slice (RA k) n (RC k)) n (f k) := ((HG.out k hlt).2.below (fun _ h => h) (HB0.out.trans (hbe.mono HB0.out.size))).more fun b h => by have := hbe.size; omega
      have hlo := longer_any (.slice (RA k) n (RC k)) n m (f k) wr hn0 hm0 (by omega) (by omega) hvk
      rw [HLN.out] at hlo
      have HLO := Lib.hid hlo
      have hnkL : n + k < L := by have := HLN.out; omega
      generalize RA k = Ak at hx HLO
      generalize RC k = ck at hx HLO
      have hsz := hbe.size
      clear hvk hbe hlo
      go_wp2_with fail
      refine HLO.out.mono ?_
      rintro e w2 ⟨Ar, cr, rfl, hcr, hgr, hb2⟩
      obtain ⟨gr, rfl, hgr1, hrow⟩ := hgr (by omega)
      have HR := Lib.hid hrow
      have HB2 := Lib.hid hb2
      have hs2 := hb2.size
      have HOwn := Lib.hid (HI.out.own.kept (w' := w2) (row := none) ⟨hb2.os, hb2.tape, hb2.output, hb2.size, fun q hq _ => hb2.block q hq⟩ (Classical.em _))
      have hwk : IntKind.i64.wrap ((n : Int) + (k : Int)) = ((n + k : Nat) : Int) := by rw [← Int.natCast_add]; exact IntWalk.i64_in _ ⟨by omega, by omega⟩
      have hnk1 : (0 : Int) ≤ ((n + k : Nat) : Int) := by omega
      have hnk2 : ((n + k : Nat) : Int) < (L : Int) := by omega
      have hk1 : (k : Int) < ((k + 1 : Nat) : Int) := by omega
      have HNX := Lib.hid (fun v1 X2 o h1 h2 => HI.out.next (v1 := v1) (X2 := X2) hnkL HB2.out hgr1 HR.out hcr o h1 h2)
      clear hgr hb2 hrow
      generalize hnk : n + k = nk at hwk hnk1 hnk2 HNX
      go_wp2_with (at_builtin; refine wpList_append_own _ rfl (.tmp 17) (.tmp 23) 29 rfl w1.heap.size 22 j0 (.slice none 0 0) 1 24 Try.underlying29 hj0 hy0 hy1 hy2 rfl (by decide) _ _ _ rfl (World.ownsRow.alloc HOwn.out _) ⟨w2.heap.size, 0, none⟩ 1 1 [.slice (some ⟨gr, 0, none⟩) L cr] rfl rfl (cell_one_new _ _ _) (by simp [Value.oneCell']) (by unfold maxLen; omega) (by omega) (by simp; omega) ?_; intro v1 w3 hown hgrow _; obtain ⟨g8, c8, rfl⟩ := ownsRow_succ hown; have hl8 := own_last hown; obtain ⟨hr3, hI3, hc3⟩ := HNX.out _ _ _ hown hgrow; have hf3 := hr3.frozen nk; have HI3 := Lib.hid hI3; clear hown hgrow hI3 hr3)
      go_roundw
      case rel => exact ⟨k + 1, _, _, by go_num, by omega, HI3⟩
      case measure => simp [intOf]; omega
    · obtain rfl : k = m := by omega
      go_wp2
      go_ret
      have hI := HI.out
      rw [MarkRet, HLN.out]
      exact ⟨_, rfl, hI.grid.more fun b h => ⟨by have := h.1; omega, h.2⟩, HB0.out.trans (hI.be.mono HB0.out.size)⟩
end Go.Proofs.Ytinoomcboinokaa

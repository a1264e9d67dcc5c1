/- LConcat, LMarked, joined. -/
import Derived.Test.YtinoomcboinokaaGreatLIn
import Derived.Lib.AppendZeros
import Derived.OwnWalk

/- slices.Concat of two lists; linear.longer. -/
namespace Go.Proofs.YtinoomcboinokaaGreat
open Go Go.RowKit Num

/-- A slice of its own, written out. -/
theorem owns_at {w : World} {base n : Nat} {e : TypeId} {v : Value} {xs : List Value} (h : w.ownsRow base e 1 v n xs) (hn : 0 < n) :
    ∃ (g cap : Nat) (cs : Array Value), v = .slice (some ⟨g, 0, none⟩) n cap ∧ base ≤ g ∧ n ≤ cap ∧ Row w g e cs ∧ ∀ (j : Nat) (u : Value), xs[j]? = some u → cs[j]? = some u := by
  rcases h.2 with ⟨rfl, h0⟩ | ⟨g, cap, cur, rfl, hb, hg, hnc, hcm, hcs, htake⟩
  · omega
  · refine ⟨g, cap, cur, rfl, hb, hnc, hg, fun j u hj => ?_⟩
    have hj' : j < xs.length := (List.getElem?_eq_some_iff.1 hj).1
    have : (cur.toList.take (n * 1))[j]? = some u := by rw [htake]; exact hj
    rw [List.getElem?_take] at this
    split at this
    · simpa using this
    · cases this

theorem underlying_int : Tryz.prog.underlying 3 = some (.int .i64) := by kernel_rfl
set_option maxRecDepth 100000 in
set_option maxHeartbeats 400000 in
theorem grow_any (n : Nat) (w : World) (h0 : n ≠ 0) (hn : n ≤ 1000000000) :
    Calls Tryz.prog 73 #[.slice none 0 0, .int .i64 n] w fun e w' => ∃ r, e = .returned r ∧ w'.ownsRow w.heap.size 3 1 r 0 [] ∧ Below w.heap.size w w' := by
  obtain ⟨i0, hi, hz0, hz1, hz2⟩ := info_parts info3m
  have hpos : (0 : Int) < (n : Int) := by omega
  have hge : ¬ ((n : Int) < 0) := by omega
  have hr := fun ty => Lib.run_append_nil_zeros (P := Tryz.prog) w 22 3 ty 3 i0 (.int .i64 0) .i64 .i64 Tryz.underlying22 underlying_int hi hz0 n (by omega) (by omega) (by omega) (by rw [hz2]; omega)
  have hcap := grownCap_ge w n 0 3
  have hcm : grownCap w n 0 3 ≤ maxLen := grownCap_le_maxLen w n 0 3 (by unfold maxLen; omega)
  generalize grownCap w n 0 3 = cp at hr hcap hcm
  have hsz : (Builtin.zeroCells (Value.int .i64 0).cells n ++ Builtin.zeroCells (Value.int .i64 0).cells (cp - n)).size = cp * 1 := by
    rw [Array.size_append, size_zeroCells, size_zeroCells]; simp [Value.cells]; omega
  generalize Builtin.zeroCells (Value.int .i64 0).cells n ++ Builtin.zeroCells (Value.int .i64 0).cells (cp - n) = cs at hr hsz
  have HO := Lib.hid (show (w.drew.alloc (.cells cs 3)).ownsRow w.heap.size 3 1 (.slice (some ⟨w.heap.size, 0, none⟩) 0 cp) 0 [] from World.ownsRow_made w.drew cs cp (Nat.le_refl _) hcm hsz)
  have HB := Lib.hid (show Below w.heap.size w (w.drew.alloc (.cells cs 3)) from (show Below w.heap.size w w.drew from ⟨rfl, rfl, rfl, Nat.le_refl _, fun _ _ => rfl⟩).alloc (Nat.le_refl _) _)
  have HR := fun ty => Lib.hid (hr ty)
  clear hr hsz
  go_enter Tryz.func73, Tryz.ntmps73
  go_wp2_with (at_builtin; refine Lib.wpList_append_run _ rfl (.tmp 20) (.tmp 21) 22 3 rfl _ _ rfl rfl _ _ (HR _).out ?_)
  go_ret
  exact ⟨_, rfl, HO.out, HB.out⟩

/-- Two lists, one behind the other. -/
def catF (n : Nat) (f g : Nat → Int) (j : Nat) : Int := if j < n then f j else g (j - n)
def tot (n0 n1 : Nat) : Nat → Nat
  | 0 => 0
  | 1 => n0
  | _ => n0 + n1
def segs (n0 n1 : Nat) (f g : Nat → Int) : Nat → List Value
  | 0 => []
  | 1 => (List.range n0).map (iv f)
  | _ => (List.range n0).map (iv f) ++ (List.range n1).map (iv g)

theorem iv_news {w : World} {b o n : Nat} {f : Nat → Int} (h : ∀ j, j < n → w.cell? ⟨b, o + j, none⟩ = some (.int .i64 (f j))) : ∀ (j : Nat) (u : Value), ((List.range n).map (iv f))[j]? = some u → w.cell? ((⟨b, o, none⟩ : Addr).add j) = some u := fun j u hj => by
  have hjn : j < n := by
    have := (List.getElem?_eq_some_iff.1 hj).1
    simpa using this
  rw [Addr.add_lit, h j hjn]
  have e : ((List.range n).map (iv f))[j]? = some (.int .i64 (f j)) := by simp [hjn, iv]
  rw [e] at hj
  exact hj

set_option maxRecDepth 100000 in
set_option maxHeartbeats 2000000 in
theorem concat_any (B O c2 b0 o0 c0 b1 o1 c1 n0 n1 : Nat) (f g : Nat → Int) (w : World) (h0 : 1 ≤ n0) (h1 : 1 ≤ n1) (hl0 : n0 ≤ 1000) (hl1 : n1 ≤ 1000) (hB : B < w.heap.size) (hb0 : b0 < w.heap.size) (hb1 : b1 < w.heap.size)
    (hr0 : w.cell? ⟨B, O, none⟩ = some (.slice (some ⟨b0, o0, none⟩) n0 c0)) (hr1 : w.cell? ⟨B, O + 1, none⟩ = some (.slice (some ⟨b1, o1, none⟩) n1 c1))
    (hc0 : ∀ j, j < n0 → w.cell? ⟨b0, o0 + j, none⟩ = some (.int .i64 (f j))) (hc1 : ∀ j, j < n1 → w.cell? ⟨b1, o1 + j, none⟩ = some (.int .i64 (g j))) :
    Calls Tryz.prog 42 #[.slice (some ⟨B, O, none⟩) 2 c2] w (GivesR w (n0 + n1) (catF n0 f g)) := by
  obtain ⟨i0, hi, hz0, hz1, hz2⟩ := info_parts info3m
  have HC0 := Lib.hid hc0
  have HC1 := Lib.hid hc1
  clear hc0 hc1
  go_enter Tryz.func42, Tryz.ntmps42
  go_wp2
  go_loopw [3, 11] (fun s i wr => ∃ k : Nat, i = .int .i64 k ∧ k ≤ 2 ∧ s = .int .i64 (tot n0 n1 k : Nat) ∧ w = wr) (fun _ i _ => 2 - (intOf i).toNat)
  case atStart => exact ⟨0, rfl, by omega, rfl, rfl⟩
  case round =>
    obtain ⟨k, rfl, hk, rfl, rfl⟩ := hrel
    obtain rfl | rfl | rfl : k = 0 ∨ k = 1 ∨ k = 2 := by omega
    · have hge : ¬ ((n0 : Int) < 0) := by omega
      simp only [tot]
      go_wp2
      go_roundw
      case rel => exact ⟨1, by go_num, by omega, by first | rfl | simp only [tot], by trivial⟩
      case measure => simp [intOf]
    · have hge : ¬ ((n0 : Int) + (n1 : Int) < 0) := by omega
      simp only [tot]
      go_wp2
      go_roundw
      case rel => exact ⟨2, by go_num, by omega, by first | rfl | (go_num; done) | (simp only [tot]; go_num), by trivial⟩
      case measure => simp [intOf]
    · simp only [tot]
      obtain ⟨N, hN⟩ : ∃ N, n0 + n1 = N := ⟨_, rfl⟩
      rw [hN]
      have HG := Lib.hid (grow_any N w (by omega) (by omega))
      have HNN := Lib.hid hN
      clear hN
      go_wp2_with fail
      refine HG.out.mono ?_
      rintro e w1 ⟨r, rfl, ho, hb⟩
      have HO := Lib.hid ho
      have HB := Lib.hid hb
      clear ho hb HG
      go_wp2_with fail
      go_loopw [6, 27] (fun v i wr => ∃ k : Nat, i = .int .i64 k ∧ k ≤ 2 ∧ wr.ownsRow w.heap.size 3 1 v (tot n0 n1 k) (segs n0 n1 f g k) ∧ Below w.heap.size w wr) (fun _ i _ => 2 - (intOf i).toNat)
      case atStart => exact ⟨0, rfl, by omega, HO.out, HB.out⟩
      case round =>
        obtain ⟨k, rfl, hk, hO, hBr⟩ := hrel
        obtain rfl | rfl | rfl : k = 0 ∨ k = 1 ∨ k = 2 := by omega
        · have hcr := (hBr.cell (p := ⟨B, O, none⟩) hB).trans hr0
          have hnews := iv_news (w := wr) (b := b0) (o := o0) (n := n0) (f := f) fun j hj => (hBr.cell (p := ⟨b0, o0 + j, none⟩) hb0).trans (HC0.out j hj)
          have hBs := hBr.size
          have HBr := Lib.hid hBr
          simp only [tot, segs] at hO
          have HN := Lib.hid hnews
          clear hBr hnews
          go_wp2_with (at_builtin; refine wpList_append_own _ rfl (.tmp 31) (.tmp 32) 22 rfl w.heap.size 3 i0 (.int .i64 0) 1 8 Tryz.underlying22 hi hz0 hz1 hz2 rfl (by decide) _ _ _ rfl hO ⟨b0, o0, none⟩ n0 c0 ((List.range n0).map (iv f)) rfl (by simp) HN.out (fun u hu => by obtain ⟨x, _, rfl⟩ := List.mem_map.1 hu; rfl) (by unfold maxLen; omega) (by omega) hBs ?_; intro v1 w2 hown hgrow _)
          have HX := Lib.hid (show w2.ownsRow w.heap.size 3 1 v1 (tot n0 n1 1) (segs n0 n1 f g 1) from by simpa [tot, segs] using hown)
          have HB2 := Lib.hid (HBr.out.grown hgrow hBs (fun q hq => (World.ownsRow.lt hO q hq).1))
          clear hown hgrow hO
          go_wp2
          go_roundw
          case rel => exact ⟨1, by go_num, by omega, HX.out, HB2.out⟩
          case measure => simp [intOf]
        · have hcr := (hBr.cell (p := ⟨B, O + 1, none⟩) hB).trans hr1
          have hnews := iv_news (w := wr) (b := b1) (o := o1) (n := n1) (f := g) fun j hj => (hBr.cell (p := ⟨b1, o1 + j, none⟩) hb1).trans (HC1.out j hj)
          have hBs := hBr.size
          have HBr := Lib.hid hBr
          simp only [tot, segs] at hO
          have HN := Lib.hid hnews
          clear hBr hnews
          go_wp2_with (at_builtin; refine wpList_append_own _ rfl (.tmp 31) (.tmp 32) 22 rfl w.heap.size 3 i0 (.int .i64 0) 1 8 Tryz.underlying22 hi hz0 hz1 hz2 rfl (by decide) _ _ _ rfl hO ⟨b1, o1, none⟩ n1 c1 ((List.range n1).map (iv g)) rfl (by simp) HN.out (fun u hu => by obtain ⟨x, _, rfl⟩ := List.mem_map.1 hu; rfl) (by unfold maxLen; omega) (by omega) hBs ?_; intro v1 w2 hown hgrow _)
          have HX := Lib.hid (show w2.ownsRow w.heap.size 3 1 v1 (tot n0 n1 2) (segs n0 n1 f g 2) from by simpa [tot, segs] using hown)
          have HB2 := Lib.hid (HBr.out.grown hgrow hBs (fun q hq => (World.ownsRow.lt hO q hq).1))
          clear hown hgrow hO
          go_wp2
          go_roundw
          case rel => exact ⟨2, by go_num, by omega, HX.out, HB2.out⟩
          case measure => simp [intOf]
        · simp only [tot, segs] at hO
          rw [HNN.out] at hO
          have hNp : 0 < N := by have := HNN.out; omega
          obtain ⟨gb, cap, cs, rfl, hg, hcap, hrow, hcs⟩ := owns_at hO hNp
          have HV := Lib.hid (show RowI wr gb N (catF n0 f g) from ⟨cs, hrow, by
            have h1 := hcs (N - 1) ((((List.range n0).map (iv f) ++ (List.range n1).map (iv g))[N - 1]?).getD undef) (by
              have := HNN.out
              rw [List.getElem?_eq_getElem (by simp; omega)]; rfl)
            have := (Array.getElem?_eq_some_iff.1 h1).1
            omega, fun j hj => by
            refine hcs j _ ?_
            unfold catF
            by_cases h : j < n0
            · rw [if_pos h, List.getElem?_append_left (by simp; exact h)]; simp [h, iv]
            · rw [if_neg h, List.getElem?_append_right (by simp; omega)]
              simp only [List.length_map, List.length_range]
              simp [iv, show j - n0 < n1 by have := HNN.out; omega]⟩)
          have hg' := hg
          have HBr := Lib.hid hBr
          clear hO hcs hrow hBr
          go_wp2
          go_ret
          exact ⟨some ⟨gb, 0, none⟩, cap, by rw [HNN.out]; rfl, by rw [HNN.out]; exact hcap, fun _ => ⟨gb, rfl, hg', by rw [HNN.out]; exact HV.out⟩, HBr.out⟩

set_option maxRecDepth 100000 in
set_option maxHeartbeats 1000000 in
theorem longer_any (v : Value) (n k : Nat) (f : Nat → Int) (w : World) (hn0 : 1 ≤ n) (hk0 : 1 ≤ k) (hn : n ≤ 1000) (hk : k ≤ 1000) (hv : Vec w (· < w.heap.size) v n f) :
    Calls Tryz.prog 43 #[v, .int .i64 k] w (GivesR w (n + k) (catF n f (fun _ => 0))) := by
  obtain ⟨b0, o0, c0, rfl, hc0, hb0, hcc0⟩ := hv.at_ (by omega)
  have hmk := fun W => make_ints k (by omega) W
  have hB1 : Below w.heap.size w ((w.alloc (.cells (CTab k fun _ => .int .i64 0) 3)).alloc (.cells #[.slice (some ⟨b0, o0, none⟩) n c0, .slice (some ⟨w.heap.size, 0, none⟩) k k] 22)) := ((Below.refl _ _).alloc (Nat.le_refl _) _).alloc (by simp) _
  have hz := row_new (W := w) rfl 3 (CTab k fun _ => .int .i64 0)
  have hr : Row ((w.alloc (.cells (CTab k fun _ => .int .i64 0) 3)).alloc (.cells #[.slice (some ⟨b0, o0, none⟩) n c0, .slice (some ⟨w.heap.size, 0, none⟩) k k] 22)) (w.heap.size + 1) 22 #[.slice (some ⟨b0, o0, none⟩) n c0, .slice (some ⟨w.heap.size, 0, none⟩) k k] := row_new (by simp) _ _
  have HC := Lib.hid (concat_any (w.heap.size + 1) 0 2 b0 o0 c0 w.heap.size 0 k n k f (fun _ => 0) ((w.alloc (.cells (CTab k fun _ => .int .i64 0) 3)).alloc (.cells #[.slice (some ⟨b0, o0, none⟩) n c0, .slice (some ⟨w.heap.size, 0, none⟩) k k] 22)) hn0 hk0 hn hk hr.lt (by simp; omega) (by simp; omega) (hr.cell rfl) (hr.cell rfl) (fun j hj => (hB1.cell (p := ⟨b0, o0 + j, none⟩) hb0).trans (hcc0 j hj))
    (fun j hj => by rw [Nat.zero_add]; exact (hz.alloc _).cell (CTab_get k _ j hj)))
  have HB := Lib.hid hB1
  clear hv hB1 hr hcc0 hz
  go_enter Tryz.func43, Tryz.ntmps43
  go_wp2_with fail
  refine HC.out.mono ?_
  rintro e w' ⟨A, c, rfl, hc, hg, hb⟩
  have HG := Lib.hid hg
  have HB2 := Lib.hid (HB.out.trans (hb.mono HB.out.size))
  have hs := HB.out.size
  clear hg hb
  go_wp2
  go_ret
  refine ⟨A, c, rfl, hc, fun h => ?_, HB2.out⟩
  obtain ⟨g, e, h1, h2⟩ := HG.out h
  exact ⟨g, e, by omega, h2⟩
end Go.Proofs.YtinoomcboinokaaGreat

/- linear.marked. -/
namespace Go.Proofs.YtinoomcboinokaaGreat
open Go Go.RowKit Num

/-- The rows of a matrix, each followed by its row of the identity. -/
def markF (n : Nat) (f : Nat → Nat → Int) (i j : Nat) : Int := if j < n then f i j else if j = n + i then 1 else 0
/-- Behind k rows. -/
structure MkI (w : World) (L n : Nat) (f : Nat → Nat → Int) (k : Nat) (v : Value) (g c : Nat → Nat) (X : World) : Prop where
  own : X.ownsRow w.heap.size 22 1 v k ((List.range k).map fun i => .slice (some ⟨g i, 0, none⟩) L (c i))
  row : ∀ i, i < k → RowI X (g i) L (markF n f i) ∧ L ≤ c i ∧ w.heap.size ≤ g i
  be : Below w.heap.size w X
theorem own_last {X : World} {base : Nat} {e : TypeId} {g c k : Nat} {xs : List Value} {u : Value} (h : X.ownsRow base e 1 (.slice (some ⟨g, 0, none⟩) (k + 1) c) (k + 1) (xs ++ [u])) : X.cell? ⟨g, k, none⟩ = some u := by
  have hl : (xs ++ [u]).length = (k + 1) * 1 := h.1
  rcases h.2 with ⟨e, _⟩ | ⟨g3, cap3, cur3, e, _, hgb, _, _, _, r4⟩
  · cases e
  · injection e with e1 e2 e3
    injection e1 with e1
    injection e1 with e1
    subst e1
    have h1 : (xs ++ [u])[k]? = some u := by
      rw [List.length_append, List.length_cons, List.length_nil] at hl
      rw [List.getElem?_append_right (by omega), show k - xs.length = 0 by omega]; rfl
    rw [← r4, List.getElem?_take_of_lt (by omega)] at h1
    exact Row.cell (show Row X g e cur3 from hgb) (by rw [← Array.getElem?_toList]; exact h1)
/-- The next row has been appended, and marked. -/
theorem MkI.next {w : World} {L n : Nat} {f : Nat → Nat → Int} {k : Nat} {v v1 : Value} {g c : Nat → Nat} {X X1 X2 : World} {gr cr : Nat} (h : MkI w L n f k v g c X) (hk : n + k < L) (hb : Below X.heap.size X X1) (hgr : X.heap.size ≤ gr) (hrow : RowI X1 gr L (catF n (f k) (fun _ => 0))) (hcr : L ≤ cr) (o : Obj)
    (hown : X2.ownsRow w.heap.size 22 1 v1 (k + 1) ((List.range k).map (fun i => .slice (some ⟨g i, 0, none⟩) L (c i)) ++ [.slice (some ⟨gr, 0, none⟩) L cr])) (hgrow : (X1.alloc o).grownBy X2 v.ownBlock) :
    RowI X2 gr L (catF n (f k) (fun _ => 0)) ∧ MkI w L n f (k + 1) v1 (fun i => if i = k then gr else g i) (fun i => if i = k then cr else c i) (X2.setCell ⟨gr, n + k, none⟩ (.int .i64 1)) ∧ X2.cell? ⟨gr, n + k, none⟩ = some (.int .i64 0) := by
  have hX := h.be.size
  have hX1 := hb.size
  have hrl := hrow.lt
  have hvb : ∀ b, v.ownBlock = some b → w.heap.size ≤ b ∧ b < X.heap.size := fun b e => h.own.lt b e
  have ht : Turn (fun b => v.ownBlock = some b) X1 X2 := ⟨hgrow.os, hgrow.tape, hgrow.output, Nat.le_trans (by simp) hgrow.size, fun q hq hn => (hgrow.block q (by simp; omega) (fun e => hn e.symm)).trans (Below.heap_alloc _ _ _ hq)⟩
  have hty : ∀ (b : Nat) (F : Nat → Int), RowI X b L F → v.ownBlock ≠ some b := fun b F hr e => by
    obtain ⟨cs, h1, _⟩ := hr
    rcases h.own.2 with ⟨rfl, _⟩ | ⟨g3, cap3, cur3, rfl, _, hgb, _⟩
    · cases e
    · injection e with e
      have e' : g3 = b := e
      rw [e', show X.heap[b]? = _ from h1] at hgb
      cases hgb
  have hr2 : RowI X2 gr L (catF n (f k) (fun _ => 0)) := hrow.turn ht (fun e => by have := (hvb gr e).2; omega)
  have hcell : X2.cell? ⟨gr, n + k, none⟩ = some (.int .i64 0) := by
    have := hr2.cell (j := n + k) (by omega)
    rwa [show catF n (f k) (fun _ => 0) (n + k) = 0 by unfold catF; rw [if_neg (by omega)]] at this
  have hs := (Turn.refl (· = gr) X2).setCell ⟨gr, n + k, none⟩ rfl (.int .i64 1)
  refine ⟨hr2, ⟨?_, fun i hi => ?_, ?_⟩, hcell⟩
  · have hl : ((List.range k).map (fun i => Value.slice (some ⟨g i, 0, none⟩) L (c i)) ++ [.slice (some ⟨gr, 0, none⟩) L cr]) = (List.range (k + 1)).map fun i => .slice (some ⟨if i = k then gr else g i, 0, none⟩) L (if i = k then cr else c i) := by
      rw [List.range_succ, List.map_append, List.map_cons, List.map_nil, if_pos rfl, if_pos rfl]
      congr 1
      refine List.map_congr_left fun i hi => ?_
      have : i < k := List.mem_range.1 hi
      rw [if_neg (by omega), if_neg (by omega)]
    rw [hl] at hown
    refine hown.kept (row := some gr) ⟨rfl, rfl, rfl, by simp, fun q hq hn => hs.block q hq (fun e => hn (by rw [e]))⟩ ?_
    rcases hown.2 with ⟨_, h0⟩ | ⟨g3, cap3, cur3, rfl, _, hgb, _⟩
    · omega
    · refine .inr fun e => ?_
      injection e with e
      have e' : g3 = gr := e
      obtain ⟨cs, h1, _⟩ := hr2
      rw [e', show X2.heap[gr]? = _ from h1] at hgb
      cases hgb
  · by_cases e : i = k
    · subst e
      rw [if_pos rfl, if_pos rfl]
      refine ⟨(hr2.set (n + i) 1).congr fun j hj => ?_, hcr, by omega⟩
      unfold markF catF
      by_cases h1 : j < n
      · rw [if_neg (by omega), if_pos h1, if_pos h1]
      · rw [if_neg h1, if_neg h1]
    · rw [if_neg e, if_neg e]
      obtain ⟨h1, h2, h3⟩ := h.row i (by omega)
      have hlt := h1.lt
      exact ⟨(((h1.turn (S := fun _ => False) (Turn.below hb) id).turn ht (hty _ _ h1)).turn hs (fun (e2 : g i = gr) => by omega)), h2, h3⟩
  · refine h.be.trans ((Turn.to_below (S := fun b => v.ownBlock = some b ∨ b = gr) (((Turn.below hb).trans (ht.more fun b _ e => .inl e)).trans (hs.more fun b _ e => .inr e)) hX ?_))
    rintro q (e | e)
    · exact (hvb q e).1
    · omega
/-- The list, as a grid. -/
theorem MkI.grid {w : World} {L n : Nat} {f : Nat → Nat → Int} {k : Nat} {v : Value} {g c : Nat → Nat} {X : World} (h : MkI w L n f k v g c X) : Grid X (New w X) v k (fun _ => L) (markF n f) := by
  rcases h.own.2 with ⟨rfl, hz⟩ | ⟨gb, cap, cur, rfl, hbase, hgbk, r1, r2, r3, r4⟩
  · rw [hz]; exact ⟨none, 0, rfl, Nat.le_refl _, fun h => absurd h (by omega)⟩
  · refine ⟨_, cap, rfl, r1, fun _ => ⟨gb, 0, rfl, ⟨hbase, (Array.getElem?_eq_some_iff.1 hgbk).1⟩, fun i hi => ?_⟩⟩
    have h1 : ((List.range k).map fun i => Value.slice (some ⟨g i, 0, none⟩) L (c i))[i]? = some (.slice (some ⟨g i, 0, none⟩) L (c i)) := by simp [hi]
    rw [← r4, List.getElem?_take_of_lt (by omega)] at h1
    obtain ⟨h2, h3, h4⟩ := h.row i hi
    exact ⟨_, by rw [Nat.zero_add]; exact Row.cell (show Row X gb 22 cur from hgbk) (by rw [← Array.getElem?_toList]; exact h1), h2.vec h3 _ ⟨h4, h2.lt⟩⟩
def MarkRet (m n : Nat) (f : Nat → Nat → Int) (w : World) (e : Ending) (w' : World) : Prop := ∃ v, e = .returned v ∧ Grid w' (New w w') v m (fun _ => n + m) (markF n f) ∧ Below w.heap.size w w'
set_option maxRecDepth 100000 in
set_option maxHeartbeats 2000000 in
theorem marked_any (p : Int) (rows : Value) (m n : Nat) (f : Nat → Nat → Int) (w : World) (hm0 : 1 ≤ m) (hm : m ≤ 500) (hn0 : 1 ≤ n) (hn : n ≤ 500) (hg : Grid w (· < w.heap.size) rows m (fun _ => n) f) :
    Calls Tryz.prog 45 #[.agg #[.int .i64 p, rows]] w (MarkRet m n f w) := by
  obtain ⟨b, o, c, RA, RC, rfl, hc, hb, hgc⟩ := hg.at_ hm0
  have HG := Lib.hid hgc
  have hbx := row_new (W := w) rfl 31 #[.int .i64 p, .slice (some ⟨b, o, none⟩) m c]
  have hB0 := (Below.refl w.heap.size w).alloc (Nat.le_refl _) (.cells #[.int .i64 p, .slice (some ⟨b, o, none⟩) m c] 31)
  have hz0 : (w.alloc (.cells #[.int .i64 p, .slice (some ⟨b, o, none⟩) m c] 31)).heap.size = w.heap.size + 1 := by simp
  have hc1 : (w.alloc (.cells #[.int .i64 p, .slice (some ⟨b, o, none⟩) m c] 31)).cell? ⟨w.heap.size, 1, none⟩ = some (.slice (some ⟨b, o, none⟩) m c) := hbx.cell rfl
  obtain ⟨j0, hj0, hy0, hy1, hy2⟩ := info_parts infoSl
  obtain ⟨L, hL⟩ : ∃ L, n + m = L := ⟨_, rfl⟩
  have HLN := Lib.hid hL
  have hL1 : L ≤ 1000 := by omega
  have hL0 : 1 ≤ L := by omega
  clear hg hgc hL
  go_enter Tryz.func45, Tryz.ntmps45
  go_wp2
  generalize w.alloc (.cells #[.int .i64 p, .slice (some ⟨b, o, none⟩) m c] 31) = w1 at hbx hB0 hz0 hc1
  have HBX := Lib.hid hbx
  have HB0 := Lib.hid hB0
  clear hbx hB0
  go_loopw [3, 10] (fun v t wr => ∃ k : Nat, ∃ g c, t = .int .i64 k ∧ k ≤ m ∧ Hid (MkI w1 L n f k v g c wr)) (fun _ t _ => m - (intOf t).toNat)
  case atStart => exact ⟨0, fun _ => 0, fun _ => 0, rfl, Nat.zero_le _, Lib.hid ⟨World.ownsRow_nil _ _ _ _, fun i h => absurd h (by omega), Below.refl _ _⟩⟩
  case round =>
    obtain ⟨k, g, cc, rfl, hk, HI⟩ := hrel
    by_cases hlt : k < m
    · have hbe := HI.out.be
      have hb1 : b < w1.heap.size := by omega
      have hx : wr.cell? ⟨b, o + k, none⟩ = some (.slice (RA k) n (RC k)) := (hbe.cell (p := ⟨b, o + k, none⟩) hb1).trans ((HB0.out.cell (p := ⟨b, o + k, none⟩) hb).trans (HG.out k hlt).1)
      have hbox : wr.cell? ⟨w.heap.size, 1, none⟩ = some (.slice (some ⟨b, o, none⟩) m c) := (hbe.cell (p := ⟨w.heap.size, 1, none⟩) (by show w.heap.size < w1.heap.size; omega)).trans (HBX.out.cell rfl)
      have hvk : Vec wr (· < wr.heap.size) (.slice (RA k) n (RC k)) n (f k) := ((HG.out k hlt).2.below (fun _ h => h) (HB0.out.trans (hbe.mono HB0.out.size))).more fun b h => by have := hbe.size; omega
      have hlo := longer_any (.slice (RA k) n (RC k)) n m (f k) wr hn0 hm0 (by omega) (by omega) hvk
      rw [HLN.out] at hlo
      have HLO := Lib.hid hlo
      have hnkL : n + k < L := by have := HLN.out; omega
      generalize RA k = Ak at hx HLO
      generalize RC k = ck at hx HLO
      have hsz := hbe.size
      clear hvk hbe hlo
      go_wp2_with fail
      refine HLO.out.mono ?_
      rintro e w2 ⟨Ar, cr, rfl, hcr, hgr, hb2⟩
      obtain ⟨gr, rfl, hgr1, hrow⟩ := hgr (by omega)
      have HR := Lib.hid hrow
      have HB2 := Lib.hid hb2
      have hs2 := hb2.size
      have HOwn := Lib.hid (HI.out.own.kept (w' := w2) (row := none) ⟨hb2.os, hb2.tape, hb2.output, hb2.size, fun q hq _ => hb2.block q hq⟩ (Classical.em _))
      have hwk : IntKind.i64.wrap ((n : Int) + (k : Int)) = ((n + k : Nat) : Int) := by rw [← Int.natCast_add]; exact IntWalk.i64_in _ ⟨by omega, by omega⟩
      have hnk1 : (0 : Int) ≤ ((n + k : Nat) : Int) := by omega
      have hnk2 : ((n + k : Nat) : Int) < (L : Int) := by omega
      have hk1 : (k : Int) < ((k + 1 : Nat) : Int) := by omega
      have HNX := Lib.hid (fun v1 X2 o h1 h2 => HI.out.next (v1 := v1) (X2 := X2) hnkL HB2.out hgr1 HR.out hcr o h1 h2)
      clear hgr hb2 hrow
      generalize hnk : n + k = nk at hwk hnk1 hnk2 HNX
      go_wp2_with (at_builtin; refine wpList_append_own _ rfl (.tmp 17) (.tmp 23) 25 rfl w1.heap.size 22 j0 (.slice none 0 0) 1 24 Tryz.underlying25 hj0 hy0 hy1 hy2 rfl (by decide) _ _ _ rfl (World.ownsRow.alloc HOwn.out _) ⟨w2.heap.size, 0, none⟩ 1 1 [.slice (some ⟨gr, 0, none⟩) L cr] rfl rfl (cell_one_new _ _ _) (by simp [Value.oneCell']) (by unfold maxLen; omega) (by omega) (by simp; omega) ?_; intro v1 w3 hown hgrow _; obtain ⟨g8, c8, rfl⟩ := ownsRow_succ hown; have hl8 := own_last hown; obtain ⟨hr3, hI3, hc3⟩ := HNX.out _ _ _ hown hgrow; have hf3 := hr3.frozen nk; have HI3 := Lib.hid hI3; clear hown hgrow hI3 hr3)
      go_roundw
      case rel => exact ⟨k + 1, _, _, by go_num, by omega, HI3⟩
      case measure => simp [intOf]; omega
    · obtain rfl : k = m := by omega
      go_wp2
      go_ret
      have hI := HI.out
      rw [MarkRet, HLN.out]
      exact ⟨_, rfl, hI.grid.more fun b h => ⟨by have := h.1; omega, h.2⟩, HB0.out.trans (hI.be.mono HB0.out.size)⟩
end Go.Proofs.YtinoomcboinokaaGreat

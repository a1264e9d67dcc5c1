/- cayleylaw04.drawn: a square matrix that numbers select. -/
import Derived.Test.YtokiejichnnmnaaMTake
import Derived.Maps.AppendAt
import Derived.BigRegion
import Derived.OwnWalk
namespace Go.Proofs.Ytokiejichnnmnaa
open Go Go.RowKit Num

def icells (l : List Int) : List Value := l.map fun x => Value.int .i64 x
theorem icells_append (l m : List Int) : icells (l ++ m) = icells l ++ icells m := by simp [icells]
theorem icells_get {l : List Int} {j : Nat} (hj : j < l.length) : (icells l)[j]? = some (.int .i64 (l.getD j 0)) := by
  simp [icells, List.getD_eq_getElem?_getD, hj]
/-- The slice v owns just the integers l, in a block from B on. -/
def OwnsI (w : World) (B : Nat) (v : Value) (l : List Int) : Prop := w.ownsRow B 3 1 v l.length (icells l)
/-- Below B only block t has turned. -/
def But (t B : Nat) (w w' : World) : Prop := Below t w w' ∧ ∀ i, i < B → i ≠ t → w'.heap[i]? = w.heap[i]?
theorem But.refl (t B : Nat) (w : World) : But t B w w := ⟨Below.refl _ _, fun _ _ _ => rfl⟩
theorem But.trans {t B : Nat} {a b c : World} (h : But t B a b) (k : But t B b c) : But t B a c := ⟨h.1.trans k.1, fun i hi hn => (k.2 i hi hn).trans (h.2 i hi hn)⟩
theorem But.of {t B : Nat} {a b : World} (h : Below B a b) (ht : t ≤ B) : But t B a b := ⟨h.mono ht, fun i hi _ => h.block i hi⟩
theorem But.mono {t B B' : Nat} {w w' : World} (h : But t B w w') (hB : B' ≤ B) : But t B' w w' := ⟨h.1, fun i hi hn => h.2 i (by omega) hn⟩
theorem But.row {t B g : Nat} {w w' : World} {e : TypeId} {cs : Array Value} (h : But t B w w') (hr : Row w g e cs) (hg : g < B) (hn : g ≠ t) : Row w' g e cs := (h.2 g hg hn).trans hr
theorem But.vec {t B : Nat} {w w' : World} {S : Nat → Prop} {v : Value} {n : Nat} {f : Nat → Int} (h : But t B w w') (hv : Vec w S v n f) (hS : ∀ b, S b → b < B ∧ b ≠ t) : Vec w' S v n f :=
  hv.keep (fun _ h => h) (fun p hp => World.cell?_of_block (h.2 p.block (hS _ hp).1 (hS _ hp).2)) (fun _ _ => rfl)
theorem But.owns {t B base n size : Nat} {w w' : World} {e : TypeId} {v : Value} {xs : List Value} (hb : But t B w w') (h : w.ownsRow base e size v n xs) (hv : ∀ g, v.ownBlock = some g → g < B ∧ g ≠ t) : w'.ownsRow base e size v n xs := by
  refine ⟨h.1, h.2.imp id ?_⟩
  rintro ⟨g', cap', cur, hv', hbg, hgg, hr⟩
  have := hv g' (by rw [hv']; rfl)
  exact ⟨g', cap', cur, hv', hbg, (hb.2 g' this.1 this.2).trans hgg, hr⟩
/-- Only block t has turned. -/
theorem MTook.keep {w w' : World} {t k n : Nat} {e : Ending} {A : Option Addr} {c N : Nat} {z : Nat → Int} (h : MTook w t k n e w') (hT : MTk w t A c N z k) :
    ∃ x k', e = .returned (.int .i64 x) ∧ 0 ≤ x ∧ x < n ∧ MTk w' t A c N z k' ∧ (∀ B, But t B w w') ∧ w'.heap.size = w.heap.size := by
  obtain ⟨x, m, he, h0, h1, rfl | rfl⟩ := h
  · have hh : (w.drewN m).heap = w.heap := by induction m with | zero => rfl | succ m ih => exact ih
    refine ⟨x, k, he, h0, h1, ?_, fun B => ⟨below_drewN (Below.refl _ _) m, fun i _ _ => by rw [hh]⟩, by rw [hh]⟩
    refine ⟨?_, hT.2.keep (fun _ h => h) (fun p _ => World.cell?_of_block (by rw [hh])) (fun _ _ => rfl)⟩
    show (w.drewN m).heap[t]? = _
    rw [hh]; exact hT.1
  · generalize hw2 : w.setCell ⟨t, 1, none⟩ (.int .i64 ((k + 1 : Nat) : Int)) = w2
    have hh : (w2.drewN m).heap = w2.heap := by clear hw2; induction m with | zero => rfl | succ m ih => exact ih
    have hb : ∀ i, i ≠ t → w2.heap[i]? = w.heap[i]? := fun i hi => by rw [← hw2]; exact Below.heap_setCell w ⟨t, 1, none⟩ _ i hi
    have hB : Below t w w2 := by rw [← hw2]; exact (Below.refl t w).setCell (p := ⟨t, 1, none⟩) (Nat.le_refl _) _
    refine ⟨x, k + 1, he, h0, h1, ⟨?_, ?_⟩, fun B => ⟨hB.trans (below_drewN (Below.refl _ _) m), fun i _ hi => by rw [hh]; exact hb i hi⟩, ?_⟩
    · show (w2.drewN m).heap[t]? = _
      rw [hh, ← hw2]
      exact hT.1.set 1 (.int .i64 ((k + 1 : Nat) : Int))
    · exact hT.2.keep (fun _ h => h) (fun p hp => World.cell?_of_block (by rw [hh]; exact hb p.block (by have : p.block < t := hp; omega))) (fun _ _ => rfl)
    · rw [hh, ← hw2]; exact size_set _ _ _
theorem MTk.but {t B : Nat} {w w' : World} {A : Option Addr} {c N k : Nat} {z : Nat → Int} (h : MTk w t A c N z k) (hb : Below B w w') (ht : t < B) : MTk w' t A c N z k :=
  ⟨h.1.below hb ht, h.2.below (fun b hb => by have : b < t := hb; omega) hb⟩

/-- Between two numbers of a row. -/
structure DIn (W1 : World) (t : Nat) (A : Option Addr) (c N : Nat) (z : Nat → Int) (n : Nat) (p : Int) (v : Value) (k : Nat) (wr : World) : Prop where
  le : k ≤ n
  tk : ∃ q, MTk wr t A c N z q
  but : But t W1.heap.size W1 wr
  sz : W1.heap.size ≤ wr.heap.size
  own : ∃ zs : List Int, zs.length = k ∧ OwnsI wr W1.heap.size v zs ∧ ∀ x ∈ zs, 0 ≤ x ∧ x < p
/-- Between two rows. -/
structure DOut (w : World) (t : Nat) (A : Option Addr) (c N : Nat) (z : Nat → Int) (n : Nat) (p : Int) (i : Nat) (wr : World) : Prop where
  le : i ≤ n
  tk : ∃ q, MTk wr t A c N z q
  but : But t w.heap.size w wr
  sz : w.heap.size + 1 + 1 ≤ wr.heap.size
  res : Row wr w.heap.size 61 #[.int .i64 0, .slice none 0 0]
  rows : ∃ (v : Value) (rs : List Value) (f : Nat → Nat → Int), Row wr (w.heap.size + 1) 61 #[.int .i64 p, v] ∧ rs.length = i ∧ wr.ownsRow (w.heap.size + 1 + 1) 28 1 v i rs ∧
    ∀ j, j < i → ∃ r, rs[j]? = some r ∧ InP p n (f j) ∧ Vec wr (fun b => w.heap.size + 1 + 1 ≤ b ∧ b < wr.heap.size ∧ v.ownBlock ≠ some b) r n (f j)

theorem dout_start (w : World) (t : Nat) (A : Option Addr) (c N : Nat) (z : Nat → Int) (n k0 : Nat) (p : Int) (h : MTk w t A c N z k0) :
    DOut w t A c N z n p 0 ((w.alloc (.cells #[.int .i64 0, .slice none 0 0] 61)).alloc (.cells #[.int .i64 p, .slice none 0 0] 61)) := by
  have hb : Below w.heap.size w ((w.alloc (.cells #[.int .i64 0, .slice none 0 0] 61)).alloc (.cells #[.int .i64 p, .slice none 0 0] 61)) := ((Below.refl w.heap.size w).alloc (Nat.le_refl _) _).alloc (by simp) _
  exact ⟨Nat.zero_le _, ⟨k0, h.but hb h.1.lt⟩, But.of hb (Nat.le_of_lt h.1.lt), by simp, (row_new rfl _ _).alloc _, .slice none 0 0, [], fun _ _ => 0, row_new (by simp) _ _, rfl, World.ownsRow_nil _ _ _ _, fun j hj => absurd hj (by omega)⟩
theorem din_start {w W1 : World} {t : Nat} {A : Option Addr} {c N : Nat} {z : Nat → Int} {n i : Nat} {p : Int} (h : DOut w t A c N z n p i W1) : DIn W1 t A c N z n p (.slice none 0 0) 0 W1 :=
  ⟨Nat.zero_le _, h.tk, But.refl _ _ _, Nat.le_refl _, [], rfl, World.ownsRow_nil _ _ _ _, fun x hx => by cases hx⟩
/-- A number more. -/
theorem din_step {W1 w1 w2 w3 : World} {t : Nat} {A : Option Addr} {c N : Nat} {z : Nat → Int} {n k q : Nat} {p x : Int} {v v1 : Value} {zs : List Int} (ht : t < W1.heap.size) (h : DIn W1 t A c N z n p v k w1) (hk : k < n) (hzs : zs.length = k) (hz : ∀ x ∈ zs, 0 ≤ x ∧ x < p) (hx0 : 0 ≤ x) (hx : x < p)
    (hT : MTk w2 t A c N z q) (hb : ∀ B, But t B w1 w2) (hs : w2.heap.size = w1.heap.size) (hO : OwnsI w2 W1.heap.size v zs) (hown : w3.ownsRow W1.heap.size 3 1 v1 (zs.length + 1) (icells zs ++ [.int .i64 x]))
    (hg : (w2.alloc (.cells #[.int .i64 x] 3)).grownBy w3 v.ownBlock) : DIn W1 t A c N z n p v1 (k + 1) w3 := by
  have hsz := h.sz
  have hB : Below W1.heap.size w2 w3 := ((Below.refl W1.heap.size w2).alloc (by omega) _).grown hg (by simp; omega) (fun q hq => (hO.lt q hq).1)
  have hsz2 := hB.size
  refine ⟨by omega, ⟨q, hT.but hB ht⟩, h.but.trans ((hb _).trans (But.of hB (Nat.le_of_lt ht))), by omega, zs ++ [x], by simp [hzs], ?_, fun y hy => ?_⟩
  · unfold OwnsI
    rw [icells_append, List.length_append]
    exact hown
  · rcases List.mem_append.1 hy with hy | hy
    · exact hz y hy
    · rw [List.mem_singleton.1 hy]; exact ⟨hx0, hx⟩
theorem OwnsI.form {w : World} {B : Nat} {v : Value} {l : List Int} (h : OwnsI w B v l) : ∃ A c, v = .slice A l.length c := by
  rcases h.2 with ⟨rfl, h0⟩ | ⟨g, cap, cur, rfl, _⟩
  · exact ⟨none, 0, by rw [h0]⟩
  · exact ⟨_, cap, rfl⟩
theorem owns_form {w : World} {B n : Nat} {e : TypeId} {v : Value} {xs : List Value} (h : w.ownsRow B e 1 v n xs) : ∃ A c, v = .slice A n c := by
  rcases h.2 with ⟨rfl, h0⟩ | ⟨g, cap, cur, rfl, _⟩
  · exact ⟨none, 0, by rw [h0]⟩
  · exact ⟨_, cap, rfl⟩
/-- A list of one's own reads as its numbers. -/
theorem OwnsI.vec {w : World} {B : Nat} {S : Nat → Prop} {v : Value} {l : List Int} (h : OwnsI w B v l) (hS : ∀ g, v.ownBlock = some g → S g) : Vec w S v l.length (fun j => l.getD j 0) := by
  rcases h.2 with ⟨rfl, h0⟩ | ⟨g, cap, cur, rfl, hb, hg, hnc, hcm, hcs, htake⟩
  · rw [h0]; exact Vec.nil _ _ _
  · refine ⟨_, cap, rfl, hnc, fun _ => ⟨g, 0, rfl, hS g rfl, fun j hj => ?_⟩⟩
    rw [Nat.zero_add]
    have := World.ownsRow.cells h (g := g) rfl j _ (icells_get hj)
    rwa [Addr.add_lit, Nat.zero_add] at this
/-- A row more. -/
theorem dout_step {w W1 wr w3 : World} {t : Nat} {A : Option Addr} {c N : Nat} {z : Nat → Int} {n i : Nat} {p : Int} {row v v1 : Value} {rs : List Value} {f : Nat → Nat → Int} (ht : t < w.heap.size) (h : DOut w t A c N z n p i W1) (hi : i < n) (hI : DIn W1 t A c N z n p row n wr)
    (hr : Row W1 (w.heap.size + 1) 61 #[.int .i64 p, v]) (hl : rs.length = i) (hO : W1.ownsRow (w.heap.size + 1 + 1) 28 1 v i rs)
    (hV : ∀ j, j < i → ∃ r, rs[j]? = some r ∧ InP p n (f j) ∧ Vec W1 (fun b => w.heap.size + 1 + 1 ≤ b ∧ b < W1.heap.size ∧ v.ownBlock ≠ some b) r n (f j))
    (hown : w3.ownsRow (w.heap.size + 1 + 1) 28 1 v1 (i + 1) (rs ++ [row])) (hg : (wr.alloc (.cells #[row] 28)).grownBy w3 v.ownBlock)
    (hv1 : v1.ownBlock = v.ownBlock ∨ v1.ownBlock = some (wr.alloc (.cells #[row] 28)).heap.size) : DOut w t A c N z n p (i + 1) (w3.setCell ⟨w.heap.size + 1, 1, none⟩ v1) := by
  have hsz := h.sz
  have hsz1 := hI.sz
  have hz3 : (wr.alloc (.cells #[row] 28)).heap.size = wr.heap.size + 1 := by simp
  have hsz3 := hg.size
  have htW : t < W1.heap.size := by omega
  have hOlt := hO.lt
  -- blocks of W1 but t are as they were
  have hbW : ∀ b, b < W1.heap.size → b ≠ t → v.ownBlock ≠ some b → b ≠ w.heap.size + 1 → (w3.setCell ⟨w.heap.size + 1, 1, none⟩ v1).heap[b]? = W1.heap[b]? := fun b h1 h2 h3 h4 => by
    rw [Below.heap_setCell w3 ⟨w.heap.size + 1, 1, none⟩ v1 b (by exact h4), hg.block b (by omega) (by exact fun e => h3 e.symm)]
    have := (World.grownBy_alloc wr (.cells #[row] 28) none).block b (by omega) (by simp)
    rw [this]
    exact hI.but.2 b h1 h2
  have hvt : v.ownBlock ≠ some t := fun e => by have := hOlt t e; omega
  have hvR : v.ownBlock ≠ some (w.heap.size + 1) := fun e => by have := hOlt _ e; omega
  have hvR0 : v.ownBlock ≠ some w.heap.size := fun e => by have := hOlt _ e; omega
  -- the same for cells that are new in the row
  have hbR : ∀ b, W1.heap.size ≤ b → b < wr.heap.size → (w3.setCell ⟨w.heap.size + 1, 1, none⟩ v1).heap[b]? = wr.heap[b]? := fun b h1 h2 => by
    rw [Below.heap_setCell w3 ⟨w.heap.size + 1, 1, none⟩ v1 b (by show b ≠ w.heap.size + 1; omega), hg.block b (by omega) (by exact fun e => by have := hOlt b e.symm; omega)]
    exact (World.grownBy_alloc wr (.cells #[row] 28) none).block b (by omega) (by simp)
  have hBt : Below t wr w3 := ((Below.refl t wr).alloc (by omega) _).grown hg (by simp; omega) (fun q hq => by have := hOlt q hq; omega)
  have hBs : Below t wr (w3.setCell ⟨w.heap.size + 1, 1, none⟩ v1) := hBt.setCell (p := ⟨w.heap.size + 1, 1, none⟩) (by show t ≤ w.heap.size + 1; omega) _
  have hsize : (w3.setCell ⟨w.heap.size + 1, 1, none⟩ v1).heap.size = w3.heap.size := size_set _ _ _
  obtain ⟨zs, hzl, hzO, hzs⟩ := hI.own
  have hv1b : ∀ b, b < wr.heap.size → v.ownBlock ≠ some b → v1.ownBlock ≠ some b := fun b h1 h2 e => by
    rcases hv1 with h | h
    · exact h2 (h ▸ e)
    · rw [h, hz3] at e; injection e with e; omega
  have hrowW : Row wr (w.heap.size + 1) 61 #[.int .i64 p, v] := hI.but.row hr (by omega) (by omega)
  have hrow3 : Row w3 (w.heap.size + 1) 61 #[.int .i64 p, v] := (hrowW.alloc (.cells #[row] 28)).kept hg (fun e => hvR e.symm)
  refine ⟨by omega, ?_, ?_, by rw [hsize]; omega, ?_, v1, rs ++ [row], (fun j => if j = i then (fun q => zs.getD q 0) else f j), hrow3.set 1 v1, by simp [hl], ?_, fun j hj => ?_⟩
  · obtain ⟨q, hq⟩ := hI.tk
    have htk : (w3.setCell ⟨w.heap.size + 1, 1, none⟩ v1).heap[t]? = wr.heap[t]? := by
      rw [Below.heap_setCell w3 ⟨w.heap.size + 1, 1, none⟩ v1 t (by show t ≠ w.heap.size + 1; omega), hg.block t (by omega) (by exact fun e => hvt e.symm)]
      exact (World.grownBy_alloc wr (.cells #[row] 28) none).block t (by omega) (by simp)
    exact ⟨q, htk.trans hq.1, hq.2.below (fun b hb => hb) hBs⟩
  · refine h.but.trans ⟨hI.but.1.trans hBs, fun b hb hbt => hbW b (by omega) hbt (fun e => by have := hOlt b e; omega) (by omega)⟩
  · exact (hbW _ (by omega) (by omega) hvR0 (by omega)).trans h.res
  · exact ownsRow_setCell_below hown (by show w.heap.size + 1 < _; omega) v1
  · by_cases e : j = i
    · subst e
      refine ⟨row, by rw [← hl]; simp, ?_, ?_⟩
      · show InP p n (if j = j then _ else _)
        rw [if_pos rfl]
        intro q hq
        have : zs.getD q 0 = zs[q]'(by omega) := by simp [List.getD_eq_getElem?_getD, hzl, hq]
        show 0 ≤ zs.getD q 0 ∧ zs.getD q 0 < p
        rw [this]
        exact hzs _ (List.getElem_mem _)
      · have hvec : Vec wr (fun b => W1.heap.size ≤ b ∧ b < wr.heap.size) row n (fun q => zs.getD q 0) := by
          have := hzO.vec (S := fun b => W1.heap.size ≤ b ∧ b < wr.heap.size) (fun g hg => hzO.lt g hg)
          rwa [hzl] at this
        show Vec _ _ row n (if j = j then (fun q => zs.getD q 0) else f j)
        rw [if_pos rfl]
        exact hvec.keep (fun b hb => ⟨by omega, by rw [hsize]; omega, hv1b b hb.2 (fun e => by have := hOlt b e; omega)⟩) (fun q hq => World.cell?_of_block (hbR q.block hq.1 hq.2)) (fun _ _ => rfl)
    · obtain ⟨r, h1, h2, h3⟩ := hV j (by omega)
      refine ⟨r, by rw [List.getElem?_append_left (by omega)]; exact h1, ?_, ?_⟩
      · show InP p n (if j = i then _ else f j)
        rw [if_neg e]; exact h2
      · show Vec _ _ r n (if j = i then (fun q => zs.getD q 0) else f j)
        rw [if_neg e]
        exact h3.keep (fun b hb => ⟨hb.1, by rw [hsize]; omega, hv1b b (by omega) hb.2.2⟩) (fun q hq => World.cell?_of_block (hbW q.block hq.2.1 (by have := hq.1; omega) hq.2.2 (by have := hq.1; omega))) (fun _ _ => rfl)

/-- A matrix of residues is given; below only block t has turned. -/
def DrawnP (w : World) (t : Nat) (A : Option Addr) (c N : Nat) (z : Nat → Int) (n : Nat) (p : Int) (e : Ending) (w' : World) : Prop :=
  ∃ r f q, e = .returned (.agg #[.int .i64 p, r]) ∧ Grid w' (New w w') r n (fun _ => n) f ∧ InG p n n f ∧ MTk w' t A c N z q ∧ But t w.heap.size w w' ∧ w.heap.size ≤ w'.heap.size
theorem dout_end {w wr : World} {t : Nat} {A : Option Addr} {c N : Nat} {z : Nat → Int} {n : Nat} {p : Int} {v : Value} {rs : List Value} {f : Nat → Nat → Int} (ht : t < w.heap.size) (h : DOut w t A c N z n p n wr)
    (_hl : rs.length = n) (hO : wr.ownsRow (w.heap.size + 1 + 1) 28 1 v n rs)
    (hV : ∀ j, j < n → ∃ r, rs[j]? = some r ∧ InP p n (f j) ∧ Vec wr (fun b => w.heap.size + 1 + 1 ≤ b ∧ b < wr.heap.size ∧ v.ownBlock ≠ some b) r n (f j)) :
    DrawnP w t A c N z n p (.returned (.agg #[.int .i64 p, v])) ((wr.setCell ⟨w.heap.size, 0, none⟩ (.int .i64 p)).setCell ⟨w.heap.size, 1, none⟩ v) := by
  have hsz := h.sz
  have hs2 := size_set2 wr ⟨w.heap.size, 0, none⟩ ⟨w.heap.size, 1, none⟩ (.int .i64 p) v
  have hbk : ∀ b, b ≠ w.heap.size → ((wr.setCell ⟨w.heap.size, 0, none⟩ (.int .i64 p)).setCell ⟨w.heap.size, 1, none⟩ v).heap[b]? = wr.heap[b]? := fun b hb => by
    rw [Below.heap_setCell _ ⟨w.heap.size, 1, none⟩ v b hb, Below.heap_setCell _ ⟨w.heap.size, 0, none⟩ _ b hb]
  have hB : Below w.heap.size wr ((wr.setCell ⟨w.heap.size, 0, none⟩ (.int .i64 p)).setCell ⟨w.heap.size, 1, none⟩ v) :=
    ((Below.refl w.heap.size wr).setCell (p := ⟨w.heap.size, 0, none⟩) (Nat.le_refl _) _).setCell (p := ⟨w.heap.size, 1, none⟩) (Nat.le_refl _) _
  obtain ⟨q, hq⟩ := h.tk
  refine ⟨v, f, q, rfl, ?_, fun i hi => (hV i hi).choose_spec.2.1, hq.but hB ht, h.but.trans (But.of hB (Nat.le_of_lt ht)), by rw [hs2]; omega⟩
  rcases hO.2 with ⟨rfl, h0⟩ | ⟨g, cap, cur, rfl, hb, hg, hnc, _⟩
  · rw [h0]
    exact ⟨none, 0, rfl, Nat.le_refl _, fun hn => absurd hn (by omega)⟩
  · have hlt := hO.lt g rfl
    refine ⟨_, cap, rfl, hnc, fun _ => ⟨g, 0, rfl, ⟨by omega, by rw [hs2]; omega⟩, fun i hi => ?_⟩⟩
    obtain ⟨r, h1, h2, h3⟩ := hV i hi
    refine ⟨r, ?_, h3.keep (fun b hb => ⟨by omega, by rw [hs2]; omega⟩) (fun q hq => World.cell?_of_block (hbk q.block (by have := hq.1; omega))) (fun _ _ => rfl)⟩
    have := World.ownsRow.cells hO (g := g) rfl i r h1
    rw [Addr.add_lit] at this
    exact (World.cell?_of_block (hbk g (by omega))).trans this

set_option maxRecDepth 100000 in
set_option maxHeartbeats 2000000 in
theorem drawn_any (t : Nat) (A : Option Addr) (c N : Nat) (z : Nat → Int) (k0 n p : Nat) (w : World) (hl : N ≤ 17592186044400) (hn : n ≤ 64) (hp2 : 2 ≤ p) (hp : p ≤ 10000) (h : MTk w t A c N z k0) :
    Calls Try.prog 72 #[.pointer (some ⟨t, 0, none⟩), .int .i64 n, .int .i64 p] w (DrawnP w t A c N z n p) := by
  obtain ⟨i0, hi0, hz0, hz1, hz2⟩ := info_parts info3m
  obtain ⟨j0, hj0, hy0, hy1, hy2⟩ := info_parts info27m
  have ht := h.1.lt
  have HT := fun W k (hk : MTk W t A c N z k) => Lib.hid (take_any t A c N z k p W hl hp2 (by omega) hk)
  have HS := Lib.hid (dout_start w t A c N z n k0 p h)
  clear h
  go_enter Try.func72, Try.ntmps72
  go_wp2
  go_loopw [8] (fun i wr => ∃ k : Nat, i = .int .i64 k ∧ DOut w t A c N z n p k wr) (fun i _ => n - (intOf i).toNat)
  case atStart => exact ⟨0, rfl, HS.out⟩
  case round =>
    obtain ⟨i, rfl, hO⟩ := hrel
    rename World => W1
    have hle := hO.le
    by_cases hlt : i < n
    · have hd : decide ((i : Int) < (n : Int)) = true := decide_eq_true (by omega)
      have HI := Lib.hid (din_start hO)
      have HO := Lib.hid hO
      have htW : t < W1.heap.size := by have := hO.sz; omega
      clear hO
      go_wp2
      go_loopw [9, 10] (fun v k wr => ∃ q : Nat, k = .int .i64 q ∧ DIn W1 t A c N z n p v q wr) (fun _ k _ => n - (intOf k).toNat)
      case atStart => exact ⟨0, rfl, HI.out⟩
      case round =>
        obtain ⟨k, rfl, hI⟩ := hrel
        rename World => w1
        have hkn := hI.le
        have hs1 := hI.sz
        by_cases hk : k < n
        · have hd2 : decide ((k : Int) < (n : Int)) = true := decide_eq_true (by omega)
          obtain ⟨q, hq⟩ := hI.tk
          obtain ⟨zs, hzl, hzO, hzs⟩ := hI.own
          have HI1 := Lib.hid hI
          have HQ := Lib.hid hq
          have HZ := Lib.hid hzO
          have HZL := Lib.hid hzl
          have HZS := Lib.hid hzs
          clear hI hq hzO hzl hzs
          go_wp2_with fail
          refine ((HT _ _ HQ.out).out).mono ?_
          rintro e w2 hT
          obtain ⟨x, k', rfl, hx0, hx1, hT2, hb, hs⟩ := hT.keep HQ.out
          have hO2 : OwnsI w2 W1.heap.size _ zs := (hb w1.heap.size).owns HZ.out (fun g hg => ⟨(HZ.out.lt g hg).2, by have := (HZ.out.lt g hg).1; omega⟩)
          have HT2 := Lib.hid hT2
          have HB2 := Lib.hid hb
          have HS2 := Lib.hid hs
          have HO2 := Lib.hid hO2
          have hlim : zs.length + 1 ≤ 1000 := by have := HZL.out; omega
          have hb2 : W1.heap.size ≤ w2.heap.size := by omega
          clear hT hT2 hb hs hO2
          go_wp2_with (at_builtin; refine wpList_append_own _ rfl (.tmp 23) (.tmp 27) 28 rfl W1.heap.size 3 i0 (.int .i64 0) 1 8 Try.underlying28 hi0 hz0 hz1 hz2 rfl (by decide) _ _ _ rfl (World.ownsRow.alloc HO2.out _) ⟨w2.heap.size, 0, none⟩ 1 1 [.int .i64 x] rfl rfl (cell_one_new _ _ _) (by simp [Value.oneCell']) (by unfold maxLen; omega) (by omega) (by simp; omega) ?_; intro v1 w3 hown hgrow _; have HN := Lib.hid (din_step htW HI1.out hk HZL.out HZS.out hx0 hx1 HT2.out HB2.out HS2.out HO2.out hown hgrow); clear hown hgrow)
          go_roundw
          case rel => exact ⟨k + 1, by go_num, HN.out⟩
          case measure => simp [intOf]; omega
        · have hkn : k = n := by omega
          subst hkn
          have hd2 : decide ((k : Int) < (k : Int)) = false := decide_eq_false (by omega)
          obtain ⟨v, rs, f, hr, hrl, hro, hrv⟩ := HO.out.rows
          obtain ⟨zs, hzl, hzO, hzs⟩ := hI.own
          obtain ⟨A1, c1, e⟩ := hzO.form
          rw [hzl] at e
          subst e
          have hrow := hI.but.row hr (by have := HO.out.sz; omega) (by omega)
          have hc1 : (w1.alloc (.cells #[.slice A1 k c1] 28)).cell? ⟨w.heap.size + 1, 1, none⟩ = some v := (hrow.alloc (.cells #[.slice A1 k c1] 28)).cell (i := 1) rfl
          have hcc : w1.cell? ⟨w.heap.size + 1, 1, none⟩ = some v := hrow.cell (i := 1) rfl
          have hro2 := hI.but.owns hro (fun g hg => ⟨(hro.lt g hg).2, by have := (hro.lt g hg).1; omega⟩)
          have hfr := fun w3 (hg : (w1.alloc (.cells #[.slice A1 k c1] 28)).grownBy w3 v.ownBlock) => Row.frozen ((hrow.alloc (.cells #[.slice A1 k c1] 28)).kept hg (fun e => by have := hro.lt _ e.symm; omega)) 1
          have hfc := fun w3 (hg : (w1.alloc (.cells #[.slice A1 k c1] 28)).grownBy w3 v.ownBlock) => (show w3.cell? ⟨w.heap.size + 1, 1, none⟩ = some v from Row.cell ((hrow.alloc (.cells #[.slice A1 k c1] 28)).kept hg (fun e => by have := hro.lt _ e.symm; omega)) (i := 1) rfl)
          have hb1 : w.heap.size + 1 + 1 ≤ w1.heap.size := by have := HO.out.sz; omega
          have HI1 := Lib.hid hI
          have HRO := Lib.hid hro2
          have HR := Lib.hid hr
          have HRL := Lib.hid hrl
          have HRW := Lib.hid hro
          have HRV := Lib.hid hrv
          have HFR := Lib.hid hfr
          have HFC := Lib.hid hfc
          have hle2 : rs.length + 1 ≤ 100 := by omega
          clear hI hr hrl hro hrv hzO hzs hzl hrow hro2 hfr hfc
          go_wp2_with (at_builtin; refine wpList_append_own_at _ rfl (.tmp 30) (.tmp 32) 37 rfl (w.heap.size + 1 + 1) 28 j0 (.slice none 0 0) 1 24 Try.underlying37 hj0 hy0 hy1 hy2 rfl (by decide) _ _ _ rfl (World.ownsRow.alloc HRO.out _) ⟨w1.heap.size, 0, none⟩ 1 1 [.slice A1 k c1] rfl rfl (cell_one_new _ _ _) (by simp [Value.oneCell']) (by unfold maxLen; omega) (by omega) (by simp; omega) ?_; intro v1 w3 hown hgrow _ hob; obtain ⟨A3, c3, rfl⟩ := owns_form hown; have d1 := HFR.out _ hgrow; have d2 := HFC.out _ hgrow; have HN := Lib.hid (dout_step ht HO.out hlt HI1.out HR.out HRL.out HRW.out HRV.out hown hgrow hob); clear hown hgrow hob)
          go_roundw
          case rel => exact ⟨i + 1, by go_num, HN.out⟩
          case measure => simp [intOf]; omega
    · have hin : i = n := by omega
      subst hin
      have hd : decide ((i : Int) < (i : Int)) = false := decide_eq_false (by omega)
      obtain ⟨v, rs, f, hr, hrl, hro, hrv⟩ := hO.rows
      obtain ⟨A0, c0, rfl⟩ := owns_form hro
      have c1 := hr.cell (i := 0) rfl
      have c2 := hr.cell (i := 1) rfl
      have d1 := hO.res.cell (i := 0) rfl
      have d2 := hO.res.cell (i := 1) rfl
      have f1 := hO.res.frozen 0
      have f2 := hO.res.frozen 1
      have HE := Lib.hid (dout_end ht hO hrl hro hrv)
      have HX := Lib.hid (hO.res.row_set (.int .i64 p) (.slice A0 i c0))
      clear hO hr hrl hro hrv
      go_wp2
      have e1 := HX.out.cell (i := 0) rfl
      have e2 := HX.out.cell (i := 1) rfl
      refine bodyPost_ret (v := .agg #[.int .i64 p, .slice A0 i c0]) ?_ rfl HE.out
      simp [results, Try.results72, go_sem, e1, e2]
end Go.Proofs.Ytokiejichnnmnaa

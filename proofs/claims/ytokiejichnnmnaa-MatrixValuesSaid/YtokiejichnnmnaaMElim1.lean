/- The elimination in memory; finding a pivot. -/
import Derived.Test.YtokiejichnnmnaaMTurn
import Derived.Test.YtokiejichnnmnaaMOne
import Derived.StillTailTactics
namespace Go.Proofs.Ytokiejichnnmnaa
open Go Go.RowKit Num

/-- All blocks are as they were but two. -/
structure Kept2 (E g0 : Nat) (w w' : World) : Prop where
  os : w'.os = w.os
  tape : w'.tape = w.tape
  output : w'.output = w.output
  size : w.heap.size ≤ w'.heap.size
  block : ∀ b, b < w.heap.size → b ≠ E → b ≠ g0 → w'.heap[b]? = w.heap[b]?
theorem Kept2.refl (E g0 : Nat) (w : World) : Kept2 E g0 w w := ⟨rfl, rfl, rfl, Nat.le_refl _, fun _ _ _ _ => rfl⟩
theorem Kept2.trans {E g0 : Nat} {u v w : World} (h : Kept2 E g0 u v) (k : Kept2 E g0 v w) : Kept2 E g0 u w :=
  ⟨k.os.trans h.os, k.tape.trans h.tape, k.output.trans h.output, Nat.le_trans h.size k.size, fun b h1 h2 h3 => (k.block b (Nat.lt_of_lt_of_le h1 h.size) h2 h3).trans (h.block b h1 h2 h3)⟩
theorem Kept2.of {E g0 : Nat} {w w' : World} (h : Below w.heap.size w w') : Kept2 E g0 w w' := ⟨h.os, h.tape, h.output, h.size, fun b hb _ _ => h.block b hb⟩
theorem Kept2.set {E g0 : Nat} {w w' : World} (h : Kept2 E g0 w w') {p : Addr} (hp : p.block = E ∨ p.block = g0) (v : Value) : Kept2 E g0 w (w'.setCell p v) :=
  ⟨h.os, h.tape, h.output, by rw [size_set]; exact h.size, fun b h1 h2 h3 => (Below.heap_setCell w' p v b (by rcases hp with e | e <;> rw [e] <;> assumption)).trans (h.block b h1 h2 h3)⟩
theorem Kept2.below {E g0 : Nat} {w0 w w' : World} {B : Nat} (h0 : Below B w0 w) (h : Kept2 E g0 w w') (hB : B ≤ w.heap.size) (hE : B ≤ E) (hg : B ≤ g0) : Below B w0 w' :=
  ⟨h.os.trans h0.os, h.tape.trans h0.tape, h.output.trans h0.output, Nat.le_trans h0.size h.size, fun b hb => (h.block b (by omega) (by omega) (by omega)).trans (h0.block b hb)⟩
theorem Kept2.row {E g0 g : Nat} {w w' : World} {t : TypeId} {cs : Array Value} (h : Kept2 E g0 w w') (hr : Row w g t cs) (h1 : g ≠ E) (h2 : g ≠ g0) : Row w' g t cs := (h.block g hr.lt h1 h2).trans hr
theorem cell_of_block {w w' : World} {p : Addr} (h : w'.heap[p.block]? = w.heap[p.block]?) : w'.cell? p = w.cell? p := by simp [World.cell?, h]
/-- Blocks that are there, but three. -/
def OffE (E g0 D : Nat) (w : World) (b : Nat) : Prop := b < w.heap.size ∧ b ≠ E ∧ b ≠ g0 ∧ b ≠ D
theorem Kept2.vec {E g0 D : Nat} {w w' : World} {v : Value} {n : Nat} {f : Nat → Int} (h : Kept2 E g0 w w') (hv : Vec w (OffE E g0 D w) v n f) : Vec w' (OffE E g0 D w') v n f :=
  hv.keep (fun _ hb => ⟨Nat.lt_of_lt_of_le hb.1 h.size, hb.2⟩) (fun _ hp => cell_of_block (h.block _ hp.1 hp.2.1 hp.2.2.1)) (fun _ _ => rfl)

/-- The elimination's struct and its rows. -/
structure ElimAt (E g0 D : Nat) (p : Int) (m n : Nat) (F : Nat → Nat → Int) (odd : Bool) (w : World) : Prop where
  ne : E ≠ g0
  st : ∃ c, m ≤ c ∧ Row w E 139 #[.int .i64 p, .slice (some ⟨g0, 0, none⟩) m c, .bool odd]
  rows : ∃ (r : Nat → Value) (cs : Array Value), Row w g0 28 cs ∧ (∀ i, i < m → cs[i]? = some (r i)) ∧ ∀ i, i < m → Vec w (OffE E g0 D w) (r i) n (F i)
theorem ElimAt.on {E g0 D : Nat} {p : Int} {m n : Nat} {F : Nat → Nat → Int} {odd : Bool} {w w' : World} (h : ElimAt E g0 D p m n F odd w) (hb : Below w.heap.size w w') : ElimAt E g0 D p m n F odd w' := by
  obtain ⟨ne, ⟨c, hc, hs⟩, r, cs, hr, hcs, hv⟩ := h
  exact ⟨ne, ⟨c, hc, hs.below hb hs.lt⟩, r, cs, hr.below hb hr.lt, hcs, fun i hi => (Kept2.of hb).vec (hv i hi)⟩
theorem ElimAt.congr {E g0 D : Nat} {p : Int} {m n : Nat} {F G : Nat → Nat → Int} {odd : Bool} {w : World} (h : ElimAt E g0 D p m n F odd w) (hf : ∀ i, i < m → ∀ j, j < n → F i j = G i j) : ElimAt E g0 D p m n G odd w := by
  obtain ⟨ne, hs, r, cs, hr, hcs, hv⟩ := h
  exact ⟨ne, hs, r, cs, hr, hcs, fun i hi => (hv i hi).congr (hf i hi)⟩
/-- A row is replaced. -/
theorem ElimAt.put {E g0 D : Nat} {p : Int} {m n : Nat} {F : Nat → Nat → Int} {odd : Bool} {w : World} (h : ElimAt E g0 D p m n F odd w) {i : Nat} {v : Value} {f : Nat → Int} (hi : i < m) (hv : Vec w (OffE E g0 D w) v n f) :
    ElimAt E g0 D p m n (fun a => if a = i then f else F a) odd (w.setCell ⟨g0, i, none⟩ v) := by
  obtain ⟨ne, ⟨c, hc, hs⟩, r, cs, hr, hcs, hvs⟩ := h
  have hz := size_set w ⟨g0, i, none⟩ v
  refine ⟨ne, ⟨c, hc, hs.far (p := ⟨g0, i, none⟩) ne v⟩, fun a => if a = i then v else r a, _, hr.set i v, fun a ha => ?_, fun a ha => ?_⟩
  · by_cases e : a = i
    · subst e
      show _ = some (if a = a then v else r a)
      rw [if_pos rfl, Array.getElem?_setIfInBounds_self_of_lt (Array.getElem?_eq_some_iff.1 (hcs a ha)).1]
    · show _ = some (if a = i then v else r a)
      rw [if_neg e, Array.getElem?_setIfInBounds_ne (by omega)]
      exact hcs a ha
  · show Vec _ _ (if a = i then v else r a) n (if a = i then f else F a)
    by_cases e : a = i
    · subst e
      rw [if_pos rfl, if_pos rfl]
      exact (hv.set (p := ⟨g0, a, none⟩) (fun h => h.2.2.1 rfl) v).more fun b h => ⟨by rw [hz]; exact h.1, h.2⟩
    · rw [if_neg e, if_neg e]
      exact ((hvs a ha).set (p := ⟨g0, i, none⟩) (fun h => h.2.2.1 rfl) v).more fun b h => ⟨by rw [hz]; exact h.1, h.2⟩
theorem ElimAt.lt {E g0 D : Nat} {p : Int} {m n : Nat} {F : Nat → Nat → Int} {odd : Bool} {w : World} (h : ElimAt E g0 D p m n F odd w) : E < w.heap.size ∧ g0 < w.heap.size := by
  obtain ⟨ne, ⟨c, hc, hs⟩, r, cs, hr, hcs, hvs⟩ := h
  exact ⟨hs.lt, hr.lt⟩
/-- The rows' cells, written out. -/
theorem ElimAt.at_ {E g0 D : Nat} {p : Int} {m n : Nat} {F : Nat → Nat → Int} {odd : Bool} {w : World} (h : ElimAt E g0 D p m n F odd w) :
    ∃ c, m ≤ c ∧ w.cell? ⟨E, 0, none⟩ = some (.int .i64 p) ∧ w.cell? ⟨E, 1, none⟩ = some (.slice (some ⟨g0, 0, none⟩) m c) ∧ w.cell? ⟨E, 2, none⟩ = some (.bool odd) ∧ (∀ i, w.frozen? ⟨E, i, none⟩ = false) ∧ (∀ i, w.frozen? ⟨g0, i, none⟩ = false) ∧
      ∃ RA : Nat → Option Addr, ∃ RC : Nat → Nat, ∀ i, i < m → w.cell? ⟨g0, i, none⟩ = some (.slice (RA i) n (RC i)) ∧ Vec w (OffE E g0 D w) (.slice (RA i) n (RC i)) n (F i) := by
  obtain ⟨ne, ⟨c, hc, hs⟩, r, cs, hr, hcs, hvs⟩ := h
  have key : ∀ i, ∃ A' c', i < m → w.cell? ⟨g0, i, none⟩ = some (.slice A' n c') ∧ Vec w (OffE E g0 D w) (.slice A' n c') n (F i) := fun i => by
    by_cases hi : i < m
    · obtain ⟨A', c', e, _⟩ := (hvs i hi).form
      refine ⟨A', c', fun _ => ⟨?_, e ▸ hvs i hi⟩⟩
      rw [← e]
      exact hr.cell (hcs i hi)
    · exact ⟨none, 0, fun h => absurd h hi⟩
  exact ⟨c, hc, hs.cell rfl, hs.cell rfl, hs.cell rfl, fun i => hs.frozen i, fun i => hr.frozen i, fun i => (key i).choose, fun i => (key i).choose_spec.choose, fun i hi => (key i).choose_spec.choose_spec hi⟩

set_option maxRecDepth 100000 in
set_option maxHeartbeats 400000 in
theorem pivot_any (v : Value) (n i : Nat) (f : Nat → Int) (B : Nat) (w : World) (S : Nat → Prop) (hi : i < n) (hn : n ≤ 1000000) (hv : Vec w S v n f) (hb : Row w B 3 #[.int .i64 i]) :
    Calls Try.prog 192 #[v, .pointer (some ⟨B, 0, none⟩)] w fun e w' => e = .returned (.bool (f i != 0)) ∧ w' = w := by
  obtain ⟨b, o, c, rfl, hc, _, hcc⟩ := hv.at_ (by omega)
  have hx := hcc i hi
  have h0 : w.cell? ⟨B, 0, none⟩ = some (.int .i64 i) := hb.cell rfl
  generalize hz : f i = z at hx
  clear hcc hv hb hz
  go_enter Try.func192, Try.ntmps192
  go_wp2
  go_ret
  exact ⟨rfl, rfl⟩

set_option maxRecDepth 100000 in
set_option maxHeartbeats 800000 in
theorem indexPivot_any (u : Value) (m n i : Nat) (F : Nat → Nat → Int) (B : Nat) (S : Nat → Prop) (w : World) (hm : m ≤ 1000000) (hn : n ≤ 1000000) (hi : i < n) (hb : Row w B 3 #[.int .i64 i]) (hg : Grid w S u m (fun _ => n) F) :
    Calls Try.prog 191 #[u, .func (.func 192) #[] #[.pointer (some ⟨B, 0, none⟩)]] w (IndexRet (fun j => F j i != 0) m w) := by
  have HG := Lib.hid hg
  have HB := Lib.hid hb
  obtain ⟨A, c, rfl, hnc⟩ := hg.form
  clear hg hb
  go_enter Try.func191, Try.ntmps191
  go_wp2
  go_loop [8] (fun t => ∃ j : Nat, t = .int .i64 j ∧ j ≤ m ∧ Hid (∀ a, a < j → (F a i != 0) = false)) (fun t => m - (intOf t).toNat)
  case atStart => exact ⟨0, rfl, Nat.zero_le _, Lib.hid fun i h => absurd h (by omega)⟩
  case round =>
    obtain ⟨j, rfl, hj, HA⟩ := hrel
    by_cases hlt : j < m
    · obtain ⟨bg, og, cg', RA, RC, e, hcg', hbg, hgc⟩ := HG.out.at_ (by omega)
      cases e
      obtain ⟨hx, hv⟩ := hgc j hlt
      have hC1 := Lib.hid (pivot_any (.slice (RA j) n (RC j)) n i (F j) B w S hi hn hv HB.out)
      clear hgc hv
      cases hob : (F j i != 0) with
      | true =>
        have HE := Lib.hid (show FirstIs (fun j => F j i != 0) m j from .inl ⟨j, rfl, hlt, hob, HA.out⟩)
        rw [hob] at hC1
        clear hob
        go_wp2_with fail
        refine hC1.out.mono ?_
        rintro e w' ⟨rfl, rfl⟩
        go_wp2
        go_ret
        exact ⟨_, HE.out, rfl, rfl⟩
      | false =>
        have HE := Lib.hid (show ∀ a, a < j + 1 → (F a i != 0) = false from fun a ha => by
          by_cases e : a = j
          · subst e; exact hob
          · exact HA.out a (by omega))
        rw [hob] at hC1
        clear hob
        go_wp2_with fail
        refine hC1.out.mono ?_
        rintro e w' ⟨rfl, rfl⟩
        go_wp2
        go_round
        case rel => exact ⟨j + 1, by go_num, by omega, HE⟩
        case measure => simp [intOf]; omega
    · have HE := Lib.hid (show FirstIs (fun j => F j i != 0) m (-1) from .inr ⟨rfl, fun i hi => HA.out i (by omega)⟩)
      go_wp2
      go_ret
      exact ⟨_, HE.out, rfl, rfl⟩
end Go.Proofs.Ytokiejichnnmnaa

/- matrix.Scale. -/
import Derived.Test.YtinoomcboinokaaMMulQ
namespace Go.Proofs.Ytinoomcboinokaa
open Go Go.RowKit Num

/-- The world behind one boxed struct and the zero one of the result. -/
structure Box2 (w w3 : World) (a : Array Value) : Prop where
  be : Below w.heap.size w w3
  ra : Row w3 w.heap.size 32 a
  rr : Row w3 (w.heap.size + 1) 32 #[.int .i64 0, .slice none 0 0]
  sz : w3.heap.size = w.heap.size + 1 + 1
theorem box2 (w : World) (a : Array Value) : Box2 w ((w.alloc (.cells a 32)).alloc (.cells #[.int .i64 0, .slice none 0 0] 32)) a :=
  ⟨((Below.refl w.heap.size w).alloc (Nat.le_refl _) _).alloc (by simp) _, (row_new rfl _ _).alloc _, row_new (by simp) _ _, by simp⟩
theorem Box2.on {w w3 w' : World} {a : Array Value} (h : Box2 w w3 a) (hb : Below w3.heap.size w3 w') : Below w.heap.size w w' ∧ Row w' w.heap.size 32 a ∧ Row w' (w.heap.size + 1) 32 #[.int .i64 0, .slice none 0 0] :=
  ⟨h.be.trans (hb.mono h.be.size), Row.below h.ra hb h.ra.lt, Row.below h.rr hb h.rr.lt⟩
theorem size_below {B : Nat} {W W' : World} (h : Below B W W') : W.heap.size ≤ W'.heap.size := h.size
/-- The end of a call that returns a grid in a struct. -/
theorem end_ok {w W : World} {R g0 m n : Nat} {F : Nat → Nat → Int} (hr : Row W R 32 #[.int .i64 0, .slice none 0 0]) (hb : Below w.heap.size w W) (hR : w.heap.size ≤ R) (hg0 : R < g0) (hg : FillG g0 m (fun _ => n) F m W) (p : Int) :
    Row ((W.setCell ⟨R, 0, none⟩ (.int .i64 p)).setCell ⟨R, 1, none⟩ (.slice (some ⟨g0, 0, none⟩) m m)) R 32 #[.int .i64 p, .slice (some ⟨g0, 0, none⟩) m m] ∧
    Below w.heap.size w ((W.setCell ⟨R, 0, none⟩ (.int .i64 p)).setCell ⟨R, 1, none⟩ (.slice (some ⟨g0, 0, none⟩) m m)) ∧
    Grid ((W.setCell ⟨R, 0, none⟩ (.int .i64 p)).setCell ⟨R, 1, none⟩ (.slice (some ⟨g0, 0, none⟩) m m)) (New w ((W.setCell ⟨R, 0, none⟩ (.int .i64 p)).setCell ⟨R, 1, none⟩ (.slice (some ⟨g0, 0, none⟩) m m))) (.slice (some ⟨g0, 0, none⟩) m m) m (fun _ => n) F := by
  obtain ⟨h1, h2⟩ := agg_res hr hb hR (.int .i64 p) (.slice (some ⟨g0, 0, none⟩) m m)
  exact ⟨h1, h2, ((hg.far (p := ⟨R, 0, none⟩) hg0 (.int .i64 p)).far (p := ⟨R, 1, none⟩) hg0 (.slice (some ⟨g0, 0, none⟩) m m)).grid.more fun b h => ⟨by have := h.1; omega, h.2⟩⟩

end Go.Proofs.Ytinoomcboinokaa
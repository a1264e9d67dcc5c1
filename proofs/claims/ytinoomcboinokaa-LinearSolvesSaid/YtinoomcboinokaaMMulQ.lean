/- matrix.Mul, Add. -/
import Derived.Test.YtinoomcboinokaaMMulP
namespace Go.Proofs.Ytinoomcboinokaa
open Go Go.RowKit Num

/-- The world behind two boxed structs and the zero one of the result. -/
structure Box3 (w w3 : World) (a b : Array Value) : Prop where
  be : Below w.heap.size w w3
  ra : Row w3 w.heap.size 32 a
  rb : Row w3 (w.heap.size + 1) 32 b
  rr : Row w3 (w.heap.size + 1 + 1) 32 #[.int .i64 0, .slice none 0 0]
  sz : w3.heap.size = w.heap.size + 1 + 1 + 1
theorem box3 (w : World) (a b : Array Value) : Box3 w (((w.alloc (.cells a 32)).alloc (.cells b 32)).alloc (.cells #[.int .i64 0, .slice none 0 0] 32)) a b :=
  ⟨(((Below.refl w.heap.size w).alloc (Nat.le_refl _) _).alloc (by simp) _).alloc (by simp; omega) _, ((row_new rfl _ _).alloc _).alloc _, (row_new (by simp) _ _).alloc _, row_new (by simp) _ _, by simp⟩
theorem Box3.on {w w3 w' : World} {a b : Array Value} (h : Box3 w w3 a b) (hb : Below w3.heap.size w3 w') : Below w.heap.size w w' ∧ Row w' w.heap.size 32 a ∧ Row w' (w.heap.size + 1) 32 b ∧ Row w' (w.heap.size + 1 + 1) 32 #[.int .i64 0, .slice none 0 0] :=
  ⟨h.be.trans (hb.mono h.be.size), Row.below h.ra hb h.ra.lt, Row.below h.rb hb h.rb.lt, Row.below h.rr hb h.rr.lt⟩
/-- The ends of a call that returns a matrix and an error. -/
theorem end_bad {w W : World} {R : Nat} {B : Nat} (h : Row W R 32 #[.int .i64 0, .slice none 0 0]) (hb : Below B w W) (hR : B ≤ R) :
    Row ((W.setCell ⟨R, 0, none⟩ (.int .i64 0)).setCell ⟨R, 1, none⟩ (.slice none 0 0)) R 32 #[.int .i64 0, .slice none 0 0] ∧ Below B w ((W.setCell ⟨R, 0, none⟩ (.int .i64 0)).setCell ⟨R, 1, none⟩ (.slice none 0 0)) := agg_res h hb hR _ _
theorem Grid.set2 {W : World} {S : Nat → Prop} {v : Value} {m : Nat} {n : Nat → Nat} {f : Nat → Nat → Int} (h : Grid W S v m n f) {R : Nat} (hR : ¬ S R) (x y : Value) : Grid ((W.setCell ⟨R, 0, none⟩ x).setCell ⟨R, 1, none⟩ y) S v m n f :=
  (h.set (p := ⟨R, 0, none⟩) hR x).set (p := ⟨R, 1, none⟩) hR y
theorem size_set2 (W : World) (p q : Addr) (x y : Value) : ((W.setCell p x).setCell q y).heap.size = W.heap.size := by rw [size_set, size_set]

/-- What a call returns that may find the error x, or that sizes do not fit. -/
def MPost (x : Int) (fit : Prop) (w : World) (p : Int) (m n : Nat) (f : Nat → Nat → Int) (e : Ending) (w' : World) : Prop :=
  (x ≠ 0 → BadM w x e w') ∧ (x = 0 → ¬ fit → BadM w 10 e w') ∧ (x = 0 → fit → OkM w p m n f e w')

end Go.Proofs.Ytinoomcboinokaa
/- matrix.times and matrix.apply. -/
import Derived.Test.YtinoomcboinokaaMComb
import Derived.Deep.RegionHeld3
import Derived.BigRegion
namespace Go.Proofs.Ytinoomcboinokaa
open Go Go.RowKit Num

theorem below_drew {B : Nat} {W W1 : World} (h : Below B W W1) : Below B W W1.drew := ⟨h.os, h.tape, h.output, h.size, h.block⟩
theorem below_alloc {B : Nat} {W W1 : World} (h : Below B W W1) (hB : B ≤ W.heap.size) (o : Obj) : Below B W (W1.alloc o) := h.alloc (Nat.le_trans hB h.size) o
theorem row_new {W : World} {g : Nat} (h : W.heap.size = g) (t : TypeId) (cs : Array Value) : Row (W.alloc (.cells cs t)) g t cs := h ▸ Row.new W t cs
theorem vec_zero' {W : World} {S : Nat → Prop} {g n : Nat} (hS : S g) (h : Row W g 3 (CTab n fun _ => .int .i64 0)) : Vec W S (.slice (some ⟨g, 0, none⟩) n n) n (fun _ => 0) := Row.vec (f := fun _ => 0) h hS (Nat.le_refl _)
theorem vec_zero {W : World} {g n : Nat} (h : Row W g 3 (CTab n fun _ => .int .i64 0)) : Vec W (· < W.heap.size) (.slice (some ⟨g, 0, none⟩) n n) n (fun _ => 0) := Row.vec (f := fun _ => 0) h h.lt (Nat.le_refl _)

/-- The sum of the first k rows, each times its number: the entry at j. -/
def dotTo (x : Nat → Int) (g : Nat → Nat → Int) (j : Nat) : Nat → Int
  | 0 => 0
  | k + 1 => dotTo x g j k + x k * g k j
theorem dotTo_step (x : Nat → Int) (g : Nat → Nat → Int) (p : Int) (k j : Nat) : axpy (x k) p (fun j => dotTo x g j k % p) (g k) j = dotTo x g j (k + 1) % p := by
  show (dotTo x g j k % p + x k * g k j) % p = (dotTo x g j k + x k * g k j) % p
  rw [Int.emod_add_emod]
theorem mod_in {p : Int} (hp : 0 < p) (f : Nat → Int) (n : Nat) : InP p n (fun j => f j % p) := fun j _ => ⟨Int.emod_nonneg _ (by omega), Int.emod_lt_of_pos _ hp⟩
theorem Vec.lt {w : World} {S : Nat → Prop} {v : Value} {n : Nat} {f : Nat → Int} (h : Vec w S v n f) (hS : ∀ b, S b → b < w.heap.size) : Vec w (· < w.heap.size) v n f := h.more hS
theorem Vec.on {w w' : World} {v : Value} {n : Nat} {f : Nat → Int} (h : Vec w (· < w.heap.size) v n f) (hb : Below w.heap.size w w') : Vec w' (· < w'.heap.size) v n f := (h.below (fun _ h => h) hb).more fun _ h => Nat.lt_of_lt_of_le h hb.size
theorem Grid.on {w w' : World} {v : Value} {m : Nat} {n : Nat → Nat} {f : Nat → Nat → Int} (h : Grid w (· < w.heap.size) v m n f) (hb : Below w.heap.size w w') : Grid w' (· < w'.heap.size) v m n f := (h.below (fun _ h => h) hb).more fun _ h => Nat.lt_of_lt_of_le h hb.size
/-- Residues in all rows. -/
def InG (p : Int) (m n : Nat) (g : Nat → Nat → Int) : Prop := ∀ i, i < m → InP p n (g i)

end Go.Proofs.Ytinoomcboinokaa
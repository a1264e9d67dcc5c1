/- matrix.plus and its closure; combine over two lists of ints with it. -/
import Derived.Test.YtinoomcboinokaaMFound
import Derived.Test.YtinoomcboinokaaMPrime
namespace Go.Proofs.Ytinoomcboinokaa
open Go Go.RowKit Num

theorem mul_in {a b p q : Int} (ha : 0 ≤ a ∧ a ≤ p) (hb : 0 ≤ b ∧ b ≤ q) (hp : p ≤ 10000) (hq : q ≤ 10000) : 0 ≤ a * b ∧ a * b ≤ 100000000 := by
  refine ⟨Int.mul_nonneg ha.1 hb.1, ?_⟩
  have h1 : a * b ≤ 10000 * b := Int.mul_le_mul_of_nonneg_right (by omega) hb.1
  omega

theorem boxBelow {W W' : World} {B N : Nat} {t : TypeId} {v : Value} (h : Boxed W B t v) (hb : Below N W W') (hB : B < N) : Boxed W' B t v := (hb.block B hB).trans h
/-- Residues. -/
def InP (p : Int) (n : Nat) (f : Nat → Int) : Prop := ∀ j, j < n → 0 ≤ f j ∧ f j < p
/-- A row and k times another. -/
def axpy (k p : Int) (f g : Nat → Int) (j : Nat) : Int := (f j + k * g j) % p
theorem axpy_in {k p : Int} (hp : 0 < p) (f g : Nat → Int) (n : Nat) : InP p n (axpy k p f g) := fun j _ => ⟨Int.emod_nonneg _ (by omega), Int.emod_lt_of_pos _ hp⟩

/-- Between two rounds of a call that fills a block of its own. -/
def Fill (w : World) (t : TypeId) (n : Nat) (g : Nat → Value) (z : Value) (k : Nat) (wr : World) : Prop :=
  k ≤ n ∧ Row wr w.heap.size t (CTab n (part k g z)) ∧ Below w.heap.size w wr
theorem Fill.start (w : World) (t : TypeId) (n : Nat) (g : Nat → Value) (z : Value) : Fill w t n g z 0 (w.alloc (.cells (CTab n fun _ => z) t)) :=
  ⟨Nat.zero_le _, by rw [part_zero]; exact Row.new w t _, (Below.refl _ _).alloc (Nat.le_refl _) _⟩
theorem Fill.step {w wr : World} {t : TypeId} {n : Nat} {g : Nat → Value} {z : Value} {k : Nat} (h : Fill w t n g z k wr) (hk : k < n) : Fill w t n g z (k + 1) (wr.setCell ⟨w.heap.size, k, none⟩ (g k)) :=
  ⟨by omega, by rw [← part_set n k g z (g k) rfl]; exact h.2.1.set k _, h.2.2.setCell (p := ⟨w.heap.size, k, none⟩) (Nat.le_refl _) _⟩

end Go.Proofs.Ytinoomcboinokaa
/- matrix.checkPair, checkSquare; Mul. -/
import Derived.Test.YtinoomcboinokaaMCheck
import Derived.BigQuiet
import Derived.Deep.QuietTactic
namespace Go.Proofs.Ytinoomcboinokaa
open Go Go.RowKit Num

/-- The error of two matrices. -/
def chkP (x y p q : Int) : Int := if x ≠ 0 then x else if y ≠ 0 then y else if p ≠ q then 10 else 0
theorem chkP_1 {x y p q : Int} (h : x ≠ 0) : chkP x y p q = x := if_pos h
theorem chkP_2 {x y p q : Int} (h : x = 0) (k : y ≠ 0) : chkP x y p q = y := by unfold chkP; rw [if_neg (by omega), if_pos k]
theorem chkP_3 {x y p q : Int} (h : x = 0) (k : y = 0) (l : p ≠ q) : chkP x y p q = 10 := by unfold chkP; rw [if_neg (by omega), if_neg (by omega), if_pos l]
theorem chkP_0 {x y p q : Int} (h : x = 0) (k : y = 0) (l : p = q) : chkP x y p q = 0 := by unfold chkP; rw [if_neg (by omega), if_neg (by omega), if_neg (by omega)]
theorem chkP_zero {x y p q : Int} (h : chkP x y p q = 0) : x = 0 ∧ y = 0 ∧ p = q := by
  unfold chkP at h
  split at h
  · omega
  · split at h
    · omega
    · split at h
      · omega
      · omega

/-- A call has returned an error, and the zero matrix. -/
def BadM (w : World) (x : Int) (e : Ending) (w' : World) : Prop := e = .returned (.tuple #[.agg #[.int .i64 0, .slice none 0 0], .int .i64 x]) ∧ Below w.heap.size w w'
/-- A call has returned a matrix. -/
def OkM (w : World) (p : Int) (m n : Nat) (f : Nat → Nat → Int) (e : Ending) (w' : World) : Prop := ∃ r, e = .returned (.tuple #[.agg #[.int .i64 p, r], .int .i64 0]) ∧ Grid w' (New w w') r m (fun _ => n) f ∧ Below w.heap.size w w'
theorem grid_reg {w : World} {S : Nat → Prop} {v : Value} {m k : Nat} {n : Nat → Nat} {f : Nat → Nat → Int} (h : Grid w S v m n f) (hn : ∀ i, i < m → n i = k) : Grid w S v m (fun _ => k) f := h.keep (fun _ h => h) (fun _ _ => rfl) hn (fun _ _ _ _ => rfl)
theorem Grid.new_lt {w w' W : World} {v : Value} {m : Nat} {n : Nat → Nat} {f : Nat → Nat → Int} (h : Grid W (New w w') v m n f) : Grid W (· < w'.heap.size) v m n f := h.more fun _ h => h.2
theorem Grid.new_more {w0 w w' w1 W : World} {v : Value} {m : Nat} {n : Nat → Nat} {f : Nat → Nat → Int} (h : Grid W (New w w') v m n f) (h0 : w0.heap.size ≤ w.heap.size) (h1 : w'.heap.size ≤ w1.heap.size) : Grid W (New w0 w1) v m n f := h.more fun _ h => ⟨Nat.le_trans h0 h.1, Nat.lt_of_lt_of_le h.2 h1⟩
end Go.Proofs.Ytinoomcboinokaa

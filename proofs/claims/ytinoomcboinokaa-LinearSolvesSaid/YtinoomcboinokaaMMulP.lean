/- matrix.checkSquare, matrix.Mul. -/
import Derived.Test.YtinoomcboinokaaMPair
namespace Go.Proofs.Ytinoomcboinokaa
open Go Go.RowKit Num

/-- The error of a matrix that has to be square. -/
def chkS (x : Int) (m n : Nat) : Int := if x ≠ 0 then x else if m ≠ n then 10 else 0
theorem chkS_1 {x : Int} {m n : Nat} (h : x ≠ 0) : chkS x m n = x := if_pos h
theorem chkS_2 {x : Int} {m n : Nat} (h : x = 0) (k : m ≠ n) : chkS x m n = 10 := by unfold chkS; rw [if_neg (by omega), if_pos k]
theorem chkS_0 {x : Int} {m n : Nat} (h : x = 0) (k : m = n) : chkS x m n = 0 := by unfold chkS; rw [if_neg (by omega), if_neg (by omega)]
theorem chkS_zero {x : Int} {m n : Nat} (h : chkS x m n = 0) : x = 0 ∧ m = n := by
  unfold chkS at h
  split at h
  · omega
  · split at h
    · omega
    · omega
theorem below_drewN {B : Nat} {W W1 : World} (h : Below B W W1) (k : Nat) : Below B W (W1.drewN k) := ⟨h.os, h.tape, h.output, h.size, h.block⟩
theorem Row.drewN {w : World} {g : Nat} {t : TypeId} {cs : Array Value} (h : Row w g t cs) (k : Nat) : Row (w.drewN k) g t cs := h

end Go.Proofs.Ytinoomcboinokaa
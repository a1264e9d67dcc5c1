/- cayleykit.Own of a list of rows. -/
import Derived.Test.YtinoomcboinokaaLEchelon
import Derived.Deep.AppendSrc
import Derived.Lib.AppendZeros
namespace Go.Proofs.Ytinoomcboinokaa
open Go Go.RowKit Num

/-- A copy of a list of slices has been made. -/
def OwnRet (m : Nat) (vals : List Value) (w : World) (e : Ending) (w' : World) : Prop := ∃ r, e = .returned r ∧ w'.ownsRow w.heap.size 22 1 r m vals ∧ Below w.heap.size w w'
end Go.Proofs.Ytinoomcboinokaa
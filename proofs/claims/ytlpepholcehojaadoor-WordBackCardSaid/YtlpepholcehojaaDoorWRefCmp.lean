/- The reference's size, before, Cmp, Check; word.inRange and word.Check in general (seat ZD alone). -/
import Derived.Test.YtlpepholcehojaaDoorWCmp
namespace Go.Proofs.YtlpepholcehojaaDoor
open Go Go.RowKit

theorem sameW {P : Program} {f : FuncId} {args : Array Value} {w : World} {v : Value} (h : Calls P f args w fun e w' => e = .returned v ∧ w = w') : Calls P f args w fun e w' => e = .returned v ∧ w' = w := h.mono fun _ _ h => ⟨h.1, h.2.symm⟩

end Go.Proofs.YtlpepholcehojaaDoor
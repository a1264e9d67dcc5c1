/-
  No cell of these rows narrows 'for every input' (looked for: loops, veiled, ifaces, maps, wideKeys, modest, calm, conditions, laid).
  DERIVED. THE GIVEN ROWS OF THIS SEAT. 12 by the template 'for every input the law returns true; each argument reads behind the call as it read before'; 0 by the template 'total and deterministic' (their statements: YtokiejichnnmnaaTotals.lean).
  GIVEN WITH THE SEED: the statements are not yours to turn. If you find one false, say at which input.
  Laid BY PROGRAM, IN A SANDBOX (cutbox-rows.mjs): the forced cells as the released guide's own fill.sh prints them over the translation edae56f95817a9e2… (all of the seat's roots in one cut). By AI agents, Wed Nov 11 2026. No macro, syntax, notation, axiom, sorry.
-/
import Derived.Test.YtokiejichnnmnaaChecked
import GoSem.Claim
import GoSem.ClaimJoined
import GoSem.ClaimMapViews
import Derived.JoinedTies
import Derived.KernelRfl
namespace Go.Proofs.Ytokiejichnnmnaa
/- THE CELL 'sum', in the pinned program and in every row, IS THE sha256 OF THE DUMP (.gsa) THAT YtokiejichnnmnaaProg.lean LOADS. Nothing in Lean hashes anything: it is a label: what it is worth is what the hold of that sum in a sandbox is worth. -/
noncomputable def Try.pinned : Pinned := { name := "ytokiejichnnmnaa", sum := "edae56f95817a9e27a8cea577ca4df2f1243b2821bd3545d5d7382393f567fa1", checked := Try.checked }
namespace Rows
def none {H : Type} : Left H := { results := [], args := [] }

/-- 'cayleylaw07.OrbitCalls': WHATEVER THE INPUT: true; the input reads as it did. -/
def orbitCallsSpec : ChangeSpec := { name := "orbitCalls", fn := fun _ => fun
  | [d1, d2, d3] => { results := [.lit (.bool true)], args := [d1, d2, d3] }
  | _ => none }
def orbitCallsRow : OpenClaim := { program := "ytokiejichnnmnaa", sum := "edae56f95817a9e27a8cea577ca4df2f1243b2821bd3545d5d7382393f567fa1", func := "cayley/cayleylaw07.OrbitCalls", spec := "orbitCalls", unfollowed := true, recurses := true, plainKeys := false, apart := false }
def OrbitCallsSaid : Prop := orbitCallsRow.holds Try.pinned (OpenSpec.ofChange orbitCallsSpec)

/-- ITS FALSE NEIGHBOUR: 'it returns false'. Refute it at one input. -/
def orbitCallsWrong : ChangeSpec := { name := "orbitCalls", fn := fun _ => fun
  | [d1, d2, d3] => { results := [.lit (.bool false)], args := [d1, d2, d3] }
  | _ => none }
def OrbitCallsWrongFalsely : Prop := orbitCallsRow.holds Try.pinned (OpenSpec.ofChange orbitCallsWrong)

/-- 'cayleylaw07.OrbitStabs': WHATEVER THE INPUT: true; the input reads as it did. -/
def orbitStabsSpec : ChangeSpec := { name := "orbitStabs", fn := fun _ => fun
  | [d1, d2] => { results := [.lit (.bool true)], args := [d1, d2] }
  | _ => none }
def orbitStabsRow : OpenClaim := { program := "ytokiejichnnmnaa", sum := "edae56f95817a9e27a8cea577ca4df2f1243b2821bd3545d5d7382393f567fa1", func := "cayley/cayleylaw07.OrbitStabs", spec := "orbitStabs", unfollowed := true, recurses := true, plainKeys := false, apart := false }
def OrbitStabsSaid : Prop := orbitStabsRow.holds Try.pinned (OpenSpec.ofChange orbitStabsSpec)

/-- ITS FALSE NEIGHBOUR: 'it returns false'. Refute it at one input. -/
def orbitStabsWrong : ChangeSpec := { name := "orbitStabs", fn := fun _ => fun
  | [d1, d2] => { results := [.lit (.bool false)], args := [d1, d2] }
  | _ => none }
def OrbitStabsWrongFalsely : Prop := orbitStabsRow.holds Try.pinned (OpenSpec.ofChange orbitStabsWrong)

/-- 'cayleylaw07.OrbitSets': WHATEVER THE INPUT: true; the input reads as it did. -/
def orbitSetsSpec : ChangeSpec := { name := "orbitSets", fn := fun _ => fun
  | [d1, d2] => { results := [.lit (.bool true)], args := [d1, d2] }
  | _ => none }
def orbitSetsRow : OpenClaim := { program := "ytokiejichnnmnaa", sum := "edae56f95817a9e27a8cea577ca4df2f1243b2821bd3545d5d7382393f567fa1", func := "cayley/cayleylaw07.OrbitSets", spec := "orbitSets", unfollowed := true, recurses := true, plainKeys := false, apart := false }
def OrbitSetsSaid : Prop := orbitSetsRow.holds Try.pinned (OpenSpec.ofChange orbitSetsSpec)

/-- ITS FALSE NEIGHBOUR: 'it returns false'. Refute it at one input. -/
def orbitSetsWrong : ChangeSpec := { name := "orbitSets", fn := fun _ => fun
  | [d1, d2] => { results := [.lit (.bool false)], args := [d1, d2] }
  | _ => none }
def OrbitSetsWrongFalsely : Prop := orbitSetsRow.holds Try.pinned (OpenSpec.ofChange orbitSetsWrong)

/-- 'cayleylaw07.OrbitKnown': WHATEVER THE INPUT: true; the input reads as it did. -/
def orbitKnownSpec : ChangeSpec := { name := "orbitKnown", fn := fun _ => fun
  | [] => { results := [.lit (.bool true)], args := [] }
  | _ => none }
def orbitKnownRow : OpenClaim := { program := "ytokiejichnnmnaa", sum := "edae56f95817a9e27a8cea577ca4df2f1243b2821bd3545d5d7382393f567fa1", func := "cayley/cayleylaw07.OrbitKnown", spec := "orbitKnown", unfollowed := true, recurses := true, plainKeys := false, apart := false }
def OrbitKnownSaid : Prop := orbitKnownRow.holds Try.pinned (OpenSpec.ofChange orbitKnownSpec)

/-- ITS FALSE NEIGHBOUR: 'it returns false'. Refute it at one input. -/
def orbitKnownWrong : ChangeSpec := { name := "orbitKnown", fn := fun _ => fun
  | [] => { results := [.lit (.bool false)], args := [] }
  | _ => none }
def OrbitKnownWrongFalsely : Prop := orbitKnownRow.holds Try.pinned (OpenSpec.ofChange orbitKnownWrong)

/-- 'cayleylaw07.OrbitParts': WHATEVER THE INPUT: true; the input reads as it did. -/
def orbitPartsSpec : ChangeSpec := { name := "orbitParts", fn := fun _ => fun
  | [d] => { results := [.lit (.bool true)], args := [d] }
  | _ => none }
def orbitPartsRow : OpenClaim := { program := "ytokiejichnnmnaa", sum := "edae56f95817a9e27a8cea577ca4df2f1243b2821bd3545d5d7382393f567fa1", func := "cayley/cayleylaw07.OrbitParts", spec := "orbitParts", unfollowed := true, recurses := true, plainKeys := false, apart := false }
def OrbitPartsSaid : Prop := orbitPartsRow.holds Try.pinned (OpenSpec.ofChange orbitPartsSpec)

/-- ITS FALSE NEIGHBOUR: 'it returns false'. Refute it at one input. -/
def orbitPartsWrong : ChangeSpec := { name := "orbitParts", fn := fun _ => fun
  | [d] => { results := [.lit (.bool false)], args := [d] }
  | _ => none }
def OrbitPartsWrongFalsely : Prop := orbitPartsRow.holds Try.pinned (OpenSpec.ofChange orbitPartsWrong)

/-- 'cayleylaw07.OrbitPaths': WHATEVER THE INPUT: true; the input reads as it did. -/
def orbitPathsSpec : ChangeSpec := { name := "orbitPaths", fn := fun _ => fun
  | [d1, d2, d3] => { results := [.lit (.bool true)], args := [d1, d2, d3] }
  | _ => none }
def orbitPathsRow : OpenClaim := { program := "ytokiejichnnmnaa", sum := "edae56f95817a9e27a8cea577ca4df2f1243b2821bd3545d5d7382393f567fa1", func := "cayley/cayleylaw07.OrbitPaths", spec := "orbitPaths", unfollowed := true, recurses := true, plainKeys := false, apart := false }
def OrbitPathsSaid : Prop := orbitPathsRow.holds Try.pinned (OpenSpec.ofChange orbitPathsSpec)

/-- ITS FALSE NEIGHBOUR: 'it returns false'. Refute it at one input. -/
def orbitPathsWrong : ChangeSpec := { name := "orbitPaths", fn := fun _ => fun
  | [d1, d2, d3] => { results := [.lit (.bool false)], args := [d1, d2, d3] }
  | _ => none }
def OrbitPathsWrongFalsely : Prop := orbitPathsRow.holds Try.pinned (OpenSpec.ofChange orbitPathsWrong)

/-- 'cayleylaw07.OrbitCounts': WHATEVER THE INPUT: true; the input reads as it did. -/
def orbitCountsSpec : ChangeSpec := { name := "orbitCounts", fn := fun _ => fun
  | [d1, d2] => { results := [.lit (.bool true)], args := [d1, d2] }
  | _ => none }
def orbitCountsRow : OpenClaim := { program := "ytokiejichnnmnaa", sum := "edae56f95817a9e27a8cea577ca4df2f1243b2821bd3545d5d7382393f567fa1", func := "cayley/cayleylaw07.OrbitCounts", spec := "orbitCounts", unfollowed := true, recurses := true, plainKeys := false, apart := false }
def OrbitCountsSaid : Prop := orbitCountsRow.holds Try.pinned (OpenSpec.ofChange orbitCountsSpec)

/-- ITS FALSE NEIGHBOUR: 'it returns false'. Refute it at one input. -/
def orbitCountsWrong : ChangeSpec := { name := "orbitCounts", fn := fun _ => fun
  | [d1, d2] => { results := [.lit (.bool false)], args := [d1, d2] }
  | _ => none }
def OrbitCountsWrongFalsely : Prop := orbitCountsRow.holds Try.pinned (OpenSpec.ofChange orbitCountsWrong)

/-- 'cayleylaw04.MatrixNames': WHATEVER THE INPUT: true; the input reads as it did. -/
def matrixNamesSpec : ChangeSpec := { name := "matrixNames", fn := fun _ => fun
  | [] => { results := [.lit (.bool true)], args := [] }
  | _ => none }
def matrixNamesRow : OpenClaim := { program := "ytokiejichnnmnaa", sum := "edae56f95817a9e27a8cea577ca4df2f1243b2821bd3545d5d7382393f567fa1", func := "cayley/cayleylaw04.MatrixNames", spec := "matrixNames", unfollowed := true, recurses := true, plainKeys := false, apart := false }
def MatrixNamesSaid : Prop := matrixNamesRow.holds Try.pinned (OpenSpec.ofChange matrixNamesSpec)

/-- ITS FALSE NEIGHBOUR: 'it returns false'. Refute it at one input. -/
def matrixNamesWrong : ChangeSpec := { name := "matrixNames", fn := fun _ => fun
  | [] => { results := [.lit (.bool false)], args := [] }
  | _ => none }
def MatrixNamesWrongFalsely : Prop := matrixNamesRow.holds Try.pinned (OpenSpec.ofChange matrixNamesWrong)

/-- 'cayleylaw04.MatrixValues': WHATEVER THE INPUT: true; the input reads as it did. -/
def matrixValuesSpec : ChangeSpec := { name := "matrixValues", fn := fun _ => fun
  | [d1, d2] => { results := [.lit (.bool true)], args := [d1, d2] }
  | _ => none }
def matrixValuesRow : OpenClaim := { program := "ytokiejichnnmnaa", sum := "edae56f95817a9e27a8cea577ca4df2f1243b2821bd3545d5d7382393f567fa1", func := "cayley/cayleylaw04.MatrixValues", spec := "matrixValues", unfollowed := true, recurses := true, plainKeys := false, apart := false }
def MatrixValuesSaid : Prop := matrixValuesRow.holds Try.pinned (OpenSpec.ofChange matrixValuesSpec)

/-- ITS FALSE NEIGHBOUR: 'it returns false'. Refute it at one input. -/
def matrixValuesWrong : ChangeSpec := { name := "matrixValues", fn := fun _ => fun
  | [d1, d2] => { results := [.lit (.bool false)], args := [d1, d2] }
  | _ => none }
def MatrixValuesWrongFalsely : Prop := matrixValuesRow.holds Try.pinned (OpenSpec.ofChange matrixValuesWrong)

/-- 'cayleylaw04.MatrixOrders': WHATEVER THE INPUT: true; the input reads as it did. -/
def matrixOrdersSpec : ChangeSpec := { name := "matrixOrders", fn := fun _ => fun
  | [d] => { results := [.lit (.bool true)], args := [d] }
  | _ => none }
def matrixOrdersRow : OpenClaim := { program := "ytokiejichnnmnaa", sum := "edae56f95817a9e27a8cea577ca4df2f1243b2821bd3545d5d7382393f567fa1", func := "cayley/cayleylaw04.MatrixOrders", spec := "matrixOrders", unfollowed := true, recurses := true, plainKeys := false, apart := false }
def MatrixOrdersSaid : Prop := matrixOrdersRow.holds Try.pinned (OpenSpec.ofChange matrixOrdersSpec)

/-- ITS FALSE NEIGHBOUR: 'it returns false'. Refute it at one input. -/
def matrixOrdersWrong : ChangeSpec := { name := "matrixOrders", fn := fun _ => fun
  | [d] => { results := [.lit (.bool false)], args := [d] }
  | _ => none }
def MatrixOrdersWrongFalsely : Prop := matrixOrdersRow.holds Try.pinned (OpenSpec.ofChange matrixOrdersWrong)

/-- 'cayleylaw04.MatrixPoly': WHATEVER THE INPUT: true; the input reads as it did. -/
def matrixPolySpec : ChangeSpec := { name := "matrixPoly", fn := fun _ => fun
  | [d1, d2, d3] => { results := [.lit (.bool true)], args := [d1, d2, d3] }
  | _ => none }
def matrixPolyRow : OpenClaim := { program := "ytokiejichnnmnaa", sum := "edae56f95817a9e27a8cea577ca4df2f1243b2821bd3545d5d7382393f567fa1", func := "cayley/cayleylaw04.MatrixPoly", spec := "matrixPoly", unfollowed := true, recurses := true, plainKeys := false, apart := false }
def MatrixPolySaid : Prop := matrixPolyRow.holds Try.pinned (OpenSpec.ofChange matrixPolySpec)

/-- ITS FALSE NEIGHBOUR: 'it returns false'. Refute it at one input. -/
def matrixPolyWrong : ChangeSpec := { name := "matrixPoly", fn := fun _ => fun
  | [d1, d2, d3] => { results := [.lit (.bool false)], args := [d1, d2, d3] }
  | _ => none }
def MatrixPolyWrongFalsely : Prop := matrixPolyRow.holds Try.pinned (OpenSpec.ofChange matrixPolyWrong)

/-- 'cayleylaw04.MatrixActs': WHATEVER THE INPUT: true; the input reads as it did. -/
def matrixActsSpec : ChangeSpec := { name := "matrixActs", fn := fun _ => fun
  | [d1, d2] => { results := [.lit (.bool true)], args := [d1, d2] }
  | _ => none }
def matrixActsRow : OpenClaim := { program := "ytokiejichnnmnaa", sum := "edae56f95817a9e27a8cea577ca4df2f1243b2821bd3545d5d7382393f567fa1", func := "cayley/cayleylaw04.MatrixActs", spec := "matrixActs", unfollowed := true, recurses := true, plainKeys := false, apart := false }
def MatrixActsSaid : Prop := matrixActsRow.holds Try.pinned (OpenSpec.ofChange matrixActsSpec)

/-- ITS FALSE NEIGHBOUR: 'it returns false'. Refute it at one input. -/
def matrixActsWrong : ChangeSpec := { name := "matrixActs", fn := fun _ => fun
  | [d1, d2] => { results := [.lit (.bool false)], args := [d1, d2] }
  | _ => none }
def MatrixActsWrongFalsely : Prop := matrixActsRow.holds Try.pinned (OpenSpec.ofChange matrixActsWrong)

/- THE SECOND FORM. 'bulk': how many values and letters a reading holds, each counted each time it is reached (what is shared counts as often as it is met; a slice's spare places count too). A statement '..UptoSaid' is the law's where the arguments, and the package variables that the reading takes, are together of bulk at most 1048576: NARROWER than '..Said'. Prove '..Said' where nothing that the law and all that it calls make is longer than what came in: it says more and counts as full. Else prove '..UptoSaid'. A law counts once. -/
mutual
def uptoBulk {H : Type} : DataW H → Nat
  | .lit (.string bytes) => bytes.length + 1
  | .lit _ => 1
  | .nil => 1
  | .ptr d => uptoBulk d + 1
  | .slice elems spare => uptoBulkAll elems + uptoBulkAll spare + 1
  | .agg parts => uptoBulkAll parts + 1
  | .iface _ d => uptoBulk d + 1
  | .map entries => uptoBulkEntries entries + 1
  | .held _ => 1
def uptoBulkAll {H : Type} : List (DataW H) → Nat
  | [] => 0
  | d :: r => uptoBulk d + uptoBulkAll r
def uptoBulkEntries {H : Type} : List (Lit × DataW H) → Nat
  | [] => 0
  | x :: r => uptoBulkEntry x + uptoBulkEntries r
def uptoBulkEntry {H : Type} : Lit × DataW H → Nat
  | (.string bytes, d) => bytes.length + uptoBulk d + 1
  | (_, d) => uptoBulk d + 1
 end
def uptoSmall : (H : Type) → List (DataW H) → Bool := fun _ ds => decide (uptoBulkAll ds ≤ 1048576)
def OpenSpec.upto (s : _root_.Go.ChangeSpec) : _root_.Go.OpenSpec := { _root_.Go.OpenSpec.ofChange s with cond := some uptoSmall }

/-- 'cayleylaw07.OrbitCalls', WHERE WHAT IT READS IS OF BULK AT MOST 1048576: true; the input reads as it did. -/
def orbitCallsUptoRow : OpenClaim := { program := "ytokiejichnnmnaa", sum := "edae56f95817a9e27a8cea577ca4df2f1243b2821bd3545d5d7382393f567fa1", func := "cayley/cayleylaw07.OrbitCalls", spec := "orbitCalls", unfollowed := true, recurses := true, plainKeys := false, apart := false, narrowed := true }
def OrbitCallsUptoSaid : Prop := orbitCallsUptoRow.holds Try.pinned (OpenSpec.upto orbitCallsSpec)

/-- 'cayleylaw07.OrbitStabs', WHERE WHAT IT READS IS OF BULK AT MOST 1048576: true; the input reads as it did. -/
def orbitStabsUptoRow : OpenClaim := { program := "ytokiejichnnmnaa", sum := "edae56f95817a9e27a8cea577ca4df2f1243b2821bd3545d5d7382393f567fa1", func := "cayley/cayleylaw07.OrbitStabs", spec := "orbitStabs", unfollowed := true, recurses := true, plainKeys := false, apart := false, narrowed := true }
def OrbitStabsUptoSaid : Prop := orbitStabsUptoRow.holds Try.pinned (OpenSpec.upto orbitStabsSpec)

/-- 'cayleylaw07.OrbitSets', WHERE WHAT IT READS IS OF BULK AT MOST 1048576: true; the input reads as it did. -/
def orbitSetsUptoRow : OpenClaim := { program := "ytokiejichnnmnaa", sum := "edae56f95817a9e27a8cea577ca4df2f1243b2821bd3545d5d7382393f567fa1", func := "cayley/cayleylaw07.OrbitSets", spec := "orbitSets", unfollowed := true, recurses := true, plainKeys := false, apart := false, narrowed := true }
def OrbitSetsUptoSaid : Prop := orbitSetsUptoRow.holds Try.pinned (OpenSpec.upto orbitSetsSpec)

/-- 'cayleylaw07.OrbitKnown', WHERE WHAT IT READS IS OF BULK AT MOST 1048576: true; the input reads as it did. -/
def orbitKnownUptoRow : OpenClaim := { program := "ytokiejichnnmnaa", sum := "edae56f95817a9e27a8cea577ca4df2f1243b2821bd3545d5d7382393f567fa1", func := "cayley/cayleylaw07.OrbitKnown", spec := "orbitKnown", unfollowed := true, recurses := true, plainKeys := false, apart := false, narrowed := true }
def OrbitKnownUptoSaid : Prop := orbitKnownUptoRow.holds Try.pinned (OpenSpec.upto orbitKnownSpec)

/-- 'cayleylaw07.OrbitParts', WHERE WHAT IT READS IS OF BULK AT MOST 1048576: true; the input reads as it did. -/
def orbitPartsUptoRow : OpenClaim := { program := "ytokiejichnnmnaa", sum := "edae56f95817a9e27a8cea577ca4df2f1243b2821bd3545d5d7382393f567fa1", func := "cayley/cayleylaw07.OrbitParts", spec := "orbitParts", unfollowed := true, recurses := true, plainKeys := false, apart := false, narrowed := true }
def OrbitPartsUptoSaid : Prop := orbitPartsUptoRow.holds Try.pinned (OpenSpec.upto orbitPartsSpec)

/-- 'cayleylaw07.OrbitPaths', WHERE WHAT IT READS IS OF BULK AT MOST 1048576: true; the input reads as it did. -/
def orbitPathsUptoRow : OpenClaim := { program := "ytokiejichnnmnaa", sum := "edae56f95817a9e27a8cea577ca4df2f1243b2821bd3545d5d7382393f567fa1", func := "cayley/cayleylaw07.OrbitPaths", spec := "orbitPaths", unfollowed := true, recurses := true, plainKeys := false, apart := false, narrowed := true }
def OrbitPathsUptoSaid : Prop := orbitPathsUptoRow.holds Try.pinned (OpenSpec.upto orbitPathsSpec)

/-- 'cayleylaw07.OrbitCounts', WHERE WHAT IT READS IS OF BULK AT MOST 1048576: true; the input reads as it did. -/
def orbitCountsUptoRow : OpenClaim := { program := "ytokiejichnnmnaa", sum := "edae56f95817a9e27a8cea577ca4df2f1243b2821bd3545d5d7382393f567fa1", func := "cayley/cayleylaw07.OrbitCounts", spec := "orbitCounts", unfollowed := true, recurses := true, plainKeys := false, apart := false, narrowed := true }
def OrbitCountsUptoSaid : Prop := orbitCountsUptoRow.holds Try.pinned (OpenSpec.upto orbitCountsSpec)

/-- 'cayleylaw04.MatrixNames', WHERE WHAT IT READS IS OF BULK AT MOST 1048576: true; the input reads as it did. -/
def matrixNamesUptoRow : OpenClaim := { program := "ytokiejichnnmnaa", sum := "edae56f95817a9e27a8cea577ca4df2f1243b2821bd3545d5d7382393f567fa1", func := "cayley/cayleylaw04.MatrixNames", spec := "matrixNames", unfollowed := true, recurses := true, plainKeys := false, apart := false, narrowed := true }
def MatrixNamesUptoSaid : Prop := matrixNamesUptoRow.holds Try.pinned (OpenSpec.upto matrixNamesSpec)

/-- 'cayleylaw04.MatrixValues', WHERE WHAT IT READS IS OF BULK AT MOST 1048576: true; the input reads as it did. -/
def matrixValuesUptoRow : OpenClaim := { program := "ytokiejichnnmnaa", sum := "edae56f95817a9e27a8cea577ca4df2f1243b2821bd3545d5d7382393f567fa1", func := "cayley/cayleylaw04.MatrixValues", spec := "matrixValues", unfollowed := true, recurses := true, plainKeys := false, apart := false, narrowed := true }
def MatrixValuesUptoSaid : Prop := matrixValuesUptoRow.holds Try.pinned (OpenSpec.upto matrixValuesSpec)

/-- 'cayleylaw04.MatrixOrders', WHERE WHAT IT READS IS OF BULK AT MOST 1048576: true; the input reads as it did. -/
def matrixOrdersUptoRow : OpenClaim := { program := "ytokiejichnnmnaa", sum := "edae56f95817a9e27a8cea577ca4df2f1243b2821bd3545d5d7382393f567fa1", func := "cayley/cayleylaw04.MatrixOrders", spec := "matrixOrders", unfollowed := true, recurses := true, plainKeys := false, apart := false, narrowed := true }
def MatrixOrdersUptoSaid : Prop := matrixOrdersUptoRow.holds Try.pinned (OpenSpec.upto matrixOrdersSpec)

/-- 'cayleylaw04.MatrixPoly', WHERE WHAT IT READS IS OF BULK AT MOST 1048576: true; the input reads as it did. -/
def matrixPolyUptoRow : OpenClaim := { program := "ytokiejichnnmnaa", sum := "edae56f95817a9e27a8cea577ca4df2f1243b2821bd3545d5d7382393f567fa1", func := "cayley/cayleylaw04.MatrixPoly", spec := "matrixPoly", unfollowed := true, recurses := true, plainKeys := false, apart := false, narrowed := true }
def MatrixPolyUptoSaid : Prop := matrixPolyUptoRow.holds Try.pinned (OpenSpec.upto matrixPolySpec)

/-- 'cayleylaw04.MatrixActs', WHERE WHAT IT READS IS OF BULK AT MOST 1048576: true; the input reads as it did. -/
def matrixActsUptoRow : OpenClaim := { program := "ytokiejichnnmnaa", sum := "edae56f95817a9e27a8cea577ca4df2f1243b2821bd3545d5d7382393f567fa1", func := "cayley/cayleylaw04.MatrixActs", spec := "matrixActs", unfollowed := true, recurses := true, plainKeys := false, apart := false, narrowed := true }
def MatrixActsUptoSaid : Prop := matrixActsUptoRow.holds Try.pinned (OpenSpec.upto matrixActsSpec)

end Rows
end Go.Proofs.Ytokiejichnnmnaa

/-
  DERIVED. GIVEN WITH THE SEED: THE CARDS: each row of YtjllnbldpcmddaaGreatDoorRows.lean that lists a variable, with what it lists TIED to the program's text (the seventh form; the later family's looks); each row that meets fmt, with fmt's text TOLD by the authors' own Lean function (tested against real Go, not proved from fmt's source: count such statements apart). THE CARD IS WHAT COUNTS. Prove the row's statement (the work); the ties are given (YtjllnbldpcmddaaGreatDoorTie.lean); close each card by the builder's one call (the guide's Derived/Test/ToyasCard.lean, 'card_holds'). Laid BY PROGRAM, IN A SANDBOX (cutbox-door.mjs). By AI agents, Wed Nov 11 2026. No macro, syntax, notation, axiom, sorry.
-/
import Derived.Test.YtjllnbldpcmddaaGreatDoorRows
import GoSem.ClaimSeven
namespace Go.Proofs.YtjllnbldpcmddaaGreatDoor
namespace Rows

/-- THE TIED CARD OF 'cayleylaw02.WordPowers'. -/
def wordPowersCard : Claim7 := { stood := { row := wordPowersRow, standIns := [], harness := (true, "6c9e60b8db2148dc7ba01e1c71148bd2e47390a3d8cdb2124d20468947051e9e"), looks := true }, kinds := [], alts := [], laidByText := true, laidKinds := [.data, .data, .data, .sentinel, .sentinel], laidTests := true, laidLooks := .later }
def WordPowersCardSaid : Prop := Claim7.holds Tryz.pinned (.plain (OpenSpec.ofChange wordPowersSpec)) wordPowersCard

/-- THE SECOND FORM's CARD OF 'cayleylaw02.WordPowers'. -/
def wordPowersUptoCard : Claim7 := { stood := { row := wordPowersUptoRow, standIns := [], harness := (true, "6c9e60b8db2148dc7ba01e1c71148bd2e47390a3d8cdb2124d20468947051e9e"), looks := true }, kinds := [], alts := [], laidByText := true, laidKinds := [.data, .data, .data, .sentinel, .sentinel], laidTests := true, laidLooks := .later }
def WordPowersUptoCardSaid : Prop := Claim7.holds Tryz.pinned (.plain (OpenSpec.upto wordPowersSpec)) wordPowersUptoCard
end Rows
end Go.Proofs.YtjllnbldpcmddaaGreatDoor

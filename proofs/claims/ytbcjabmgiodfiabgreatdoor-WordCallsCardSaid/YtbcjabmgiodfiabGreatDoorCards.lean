/-
  DERIVED. GIVEN WITH THE SEED: THE CARDS: each row of YtbcjabmgiodfiabGreatDoorRows.lean that lists a variable, with what it lists TIED to the program's text (the seventh form; the later family's looks); each row that meets fmt, with fmt's text TOLD by the authors' own Lean function (tested against real Go, not proved from fmt's source: count such statements apart). THE CARD IS WHAT COUNTS. Prove the row's statement (the work); the ties are given (YtbcjabmgiodfiabGreatDoorTie.lean); close each card by the builder's one call (the guide's Derived/Test/ToyasCard.lean, 'card_holds'). Laid BY PROGRAM, IN A SANDBOX (cutbox-door.mjs). By AI agents, Wed Nov 11 2026. No macro, syntax, notation, axiom, sorry.
-/
import Derived.Test.YtbcjabmgiodfiabGreatDoorRows
import GoSem.ClaimSeven
namespace Go.Proofs.YtbcjabmgiodfiabGreatDoor
namespace Rows

/-- THE TIED CARD OF 'cayleylaw02.WordCalls'. -/
def wordCallsCard : Claim7 := { stood := { row := wordCallsRow, standIns := [], harness := (true, "cd65480fee65cd7b6112467dd3e6ece66f121ed9c0610f9b304eeb11485b17d4"), looks := true }, kinds := [], alts := [], laidByText := true, laidKinds := [.data, .data, .data, .sentinel, .sentinel], laidTests := true, laidLooks := .later }
def WordCallsCardSaid : Prop := Claim7.holds Tryz.pinned (.plain (OpenSpec.ofChange wordCallsSpec)) wordCallsCard

/-- THE TIED CARD OF 'cayleylaw02.WordPowers'. -/
def wordPowersCard : Claim7 := { stood := { row := wordPowersRow, standIns := [], harness := (true, "cd65480fee65cd7b6112467dd3e6ece66f121ed9c0610f9b304eeb11485b17d4"), looks := true }, kinds := [], alts := [], laidByText := true, laidKinds := [.data, .data, .data, .sentinel, .sentinel], laidTests := true, laidLooks := .later }
def WordPowersCardSaid : Prop := Claim7.holds Tryz.pinned (.plain (OpenSpec.ofChange wordPowersSpec)) wordPowersCard

/-- THE SECOND FORM's CARD OF 'cayleylaw02.WordCalls'. -/
def wordCallsUptoCard : Claim7 := { stood := { row := wordCallsUptoRow, standIns := [], harness := (true, "cd65480fee65cd7b6112467dd3e6ece66f121ed9c0610f9b304eeb11485b17d4"), looks := true }, kinds := [], alts := [], laidByText := true, laidKinds := [.data, .data, .data, .sentinel, .sentinel], laidTests := true, laidLooks := .later }
def WordCallsUptoCardSaid : Prop := Claim7.holds Tryz.pinned (.plain (OpenSpec.upto wordCallsSpec)) wordCallsUptoCard

/-- THE SECOND FORM's CARD OF 'cayleylaw02.WordPowers'. -/
def wordPowersUptoCard : Claim7 := { stood := { row := wordPowersUptoRow, standIns := [], harness := (true, "cd65480fee65cd7b6112467dd3e6ece66f121ed9c0610f9b304eeb11485b17d4"), looks := true }, kinds := [], alts := [], laidByText := true, laidKinds := [.data, .data, .data, .sentinel, .sentinel], laidTests := true, laidLooks := .later }
def WordPowersUptoCardSaid : Prop := Claim7.holds Tryz.pinned (.plain (OpenSpec.upto wordPowersSpec)) wordPowersUptoCard
end Rows
end Go.Proofs.YtbcjabmgiodfiabGreatDoor

/-
  DERIVED. GIVEN WITH THE SEED: THE CARDS: each row of YtakamboflfkchaaGreatDoorRows.lean that lists a variable, with what it lists TIED to the program's text (the seventh form; the later family's looks); each row that meets fmt, with fmt's text TOLD by the authors' own Lean function (tested against real Go, not proved from fmt's source: count such statements apart). THE CARD IS WHAT COUNTS. Prove the row's statement (the work); the ties are given (YtakamboflfkchaaGreatDoorTie.lean); close each card by the builder's one call (the guide's Derived/Test/ToyasCard.lean, 'card_holds'). Laid BY PROGRAM, IN A SANDBOX (cutbox-door.mjs). By AI agents, Wed Nov 11 2026. No macro, syntax, notation, axiom, sorry.
-/
import Derived.Test.YtakamboflfkchaaGreatDoorRows
import GoSem.ClaimSeven
namespace Go.Proofs.YtakamboflfkchaaGreatDoor
namespace Rows

/-- THE TIED CARD OF 'laws.FnLineMeetings'. -/
def fnLineMeetingsCard : Claim7 := { stood := { row := fnLineMeetingsRow, standIns := [], harness := (true, "a514178a7af257f3dfbeaa916401e58b4a1722da963c4ddc76f9595986f59229"), looks := true }, kinds := [], alts := [], laidByText := true, laidKinds := [.data, .data, .data, .data, .sentinel, .sentinel, .data, .data, .pinned], laidTests := true, laidLooks := .later }
def FnLineMeetingsCardSaid : Prop := Claim7.holds Tryz.pinned (.plain (OpenSpec.ofChange fnLineMeetingsSpec)) fnLineMeetingsCard

/-- THE SECOND FORM's CARD OF 'laws.FnLineMeetings'. -/
def fnLineMeetingsUptoCard : Claim7 := { stood := { row := fnLineMeetingsUptoRow, standIns := [], harness := (true, "a514178a7af257f3dfbeaa916401e58b4a1722da963c4ddc76f9595986f59229"), looks := true }, kinds := [], alts := [], laidByText := true, laidKinds := [.data, .data, .data, .data, .sentinel, .sentinel, .data, .data, .pinned], laidTests := true, laidLooks := .later }
def FnLineMeetingsUptoCardSaid : Prop := Claim7.holds Tryz.pinned (.plain (OpenSpec.upto fnLineMeetingsSpec)) fnLineMeetingsUptoCard
end Rows
end Go.Proofs.YtakamboflfkchaaGreatDoor

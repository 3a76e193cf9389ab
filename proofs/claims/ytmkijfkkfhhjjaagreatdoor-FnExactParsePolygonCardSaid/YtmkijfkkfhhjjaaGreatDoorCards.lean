/-
  DERIVED. GIVEN WITH THE SEED: THE CARDS: each row of YtmkijfkkfhhjjaaGreatDoorRows.lean that lists a variable, with what it lists TIED to the program's text (the seventh form; the later family's looks); each row that meets fmt, with fmt's text TOLD by the authors' own Lean function (tested against real Go, not proved from fmt's source: count such statements apart). THE CARD IS WHAT COUNTS. Prove the row's statement (the work); the ties are given (YtmkijfkkfhhjjaaGreatDoorTie.lean); close each card by the builder's one call (the guide's Derived/Test/ToyasCard.lean, 'card_holds'). Laid BY PROGRAM, IN A SANDBOX (cutbox-door.mjs). By AI agents, Wed Nov 11 2026. No macro, syntax, notation, axiom, sorry.
-/
import Derived.Test.YtmkijfkkfhhjjaaGreatDoorRows
import GoSem.ClaimSeven
namespace Go.Proofs.YtmkijfkkfhhjjaaGreatDoor
namespace Rows

/-- THE TIED CARD OF 'laws.FnExactParsePolygon'. -/
def fnExactParsePolygonCard : Claim7 := { stood := { row := fnExactParsePolygonRow, standIns := [], harness := (true, "99df49d572f25161639e0c14a8b8e0f58c946b6426dacdaad948c0c23eb18cf0"), looks := true }, kinds := [], alts := [], laidByText := true, laidKinds := [.data, .data, .data, .data, .sentinel, .sentinel, .data, .data, .pinned], laidTests := true, laidLooks := .later }
def FnExactParsePolygonCardSaid : Prop := Claim7.holds Tryz.pinned (.plain (OpenSpec.ofChange fnExactParsePolygonSpec)) fnExactParsePolygonCard

/-- THE SECOND FORM's CARD OF 'laws.FnExactParsePolygon'. -/
def fnExactParsePolygonUptoCard : Claim7 := { stood := { row := fnExactParsePolygonUptoRow, standIns := [], harness := (true, "99df49d572f25161639e0c14a8b8e0f58c946b6426dacdaad948c0c23eb18cf0"), looks := true }, kinds := [], alts := [], laidByText := true, laidKinds := [.data, .data, .data, .data, .sentinel, .sentinel, .data, .data, .pinned], laidTests := true, laidLooks := .later }
def FnExactParsePolygonUptoCardSaid : Prop := Claim7.holds Tryz.pinned (.plain (OpenSpec.upto fnExactParsePolygonSpec)) fnExactParsePolygonUptoCard
end Rows
end Go.Proofs.YtmkijfkkfhhjjaaGreatDoor

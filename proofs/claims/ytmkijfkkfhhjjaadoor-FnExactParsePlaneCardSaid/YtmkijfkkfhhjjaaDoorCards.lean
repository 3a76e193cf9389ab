/-
  DERIVED. GIVEN WITH THE SEED: THE CARDS: each row of YtmkijfkkfhhjjaaDoorRows.lean that lists a variable, with what it lists TIED to the program's text (the seventh form; the later family's looks); each row that meets fmt, with fmt's text TOLD by the authors' own Lean function (tested against real Go, not proved from fmt's source: count such statements apart). THE CARD IS WHAT COUNTS. Prove the row's statement (the work); the ties are given (YtmkijfkkfhhjjaaDoorTie.lean); close each card by the builder's one call (the guide's Derived/Test/ToyasCard.lean, 'card_holds'). Laid BY PROGRAM, IN A SANDBOX (cutbox-door.mjs). By AI agents, Wed Nov 11 2026. No macro, syntax, notation, axiom, sorry.
-/
import Derived.Test.YtmkijfkkfhhjjaaDoorRows
import GoSem.ClaimSeven
namespace Go.Proofs.YtmkijfkkfhhjjaaDoor
namespace Rows

/-- THE TIED CARD OF 'laws.FnExactParsePlane'. -/
def fnExactParsePlaneCard : Claim7 := { stood := { row := fnExactParsePlaneRow, standIns := [], harness := (true, "ffd4ec503e7a66d66da5ef3f7b0ddc13831f879df0d8e77b45042d55ad7d8917"), looks := true }, kinds := [], alts := [], laidByText := true, laidKinds := [.data, .data, .data, .data, .sentinel, .sentinel, .data, .data, .pinned], laidTests := true, laidLooks := .later }
def FnExactParsePlaneCardSaid : Prop := Claim7.holds Tryd.pinned (.plain (OpenSpec.ofChange fnExactParsePlaneSpec)) fnExactParsePlaneCard

/-- THE TIED CARD OF 'laws.FnExactPolygonText'. -/
def fnExactPolygonTextCard : Claim7 := { stood := { row := fnExactPolygonTextRow, standIns := [], harness := (true, "ffd4ec503e7a66d66da5ef3f7b0ddc13831f879df0d8e77b45042d55ad7d8917"), looks := true }, kinds := [], alts := [], laidByText := true, laidKinds := [.data, .data, .data, .data, .data], laidTests := true, laidLooks := .later }
def FnExactPolygonTextCardSaid : Prop := Claim7.holds Tryd.pinned (.plain (OpenSpec.ofChange fnExactPolygonTextSpec)) fnExactPolygonTextCard

/-- THE SECOND FORM's CARD OF 'laws.FnExactParsePlane'. -/
def fnExactParsePlaneUptoCard : Claim7 := { stood := { row := fnExactParsePlaneUptoRow, standIns := [], harness := (true, "ffd4ec503e7a66d66da5ef3f7b0ddc13831f879df0d8e77b45042d55ad7d8917"), looks := true }, kinds := [], alts := [], laidByText := true, laidKinds := [.data, .data, .data, .data, .sentinel, .sentinel, .data, .data, .pinned], laidTests := true, laidLooks := .later }
def FnExactParsePlaneUptoCardSaid : Prop := Claim7.holds Tryd.pinned (.plain (OpenSpec.upto fnExactParsePlaneSpec)) fnExactParsePlaneUptoCard

/-- THE SECOND FORM's CARD OF 'laws.FnExactPolygonText'. -/
def fnExactPolygonTextUptoCard : Claim7 := { stood := { row := fnExactPolygonTextUptoRow, standIns := [], harness := (true, "ffd4ec503e7a66d66da5ef3f7b0ddc13831f879df0d8e77b45042d55ad7d8917"), looks := true }, kinds := [], alts := [], laidByText := true, laidKinds := [.data, .data, .data, .data, .data], laidTests := true, laidLooks := .later }
def FnExactPolygonTextUptoCardSaid : Prop := Claim7.holds Tryd.pinned (.plain (OpenSpec.upto fnExactPolygonTextSpec)) fnExactPolygonTextUptoCard
end Rows
end Go.Proofs.YtmkijfkkfhhjjaaDoor

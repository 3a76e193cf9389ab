/-
  DERIVED. GIVEN WITH THE SEED: THE CARDS: each row of YtcnaopgikedgfaaDoorRows.lean that lists a variable, with what it lists TIED to the program's text (the seventh form; the later family's looks); each row that meets fmt, with fmt's text TOLD by the authors' own Lean function (tested against real Go, not proved from fmt's source: count such statements apart). THE CARD IS WHAT COUNTS. Prove the row's statement (the work); the ties are given (YtcnaopgikedgfaaDoorTie.lean); close each card by the builder's one call (the guide's Derived/Test/ToyasCard.lean, 'card_holds'). Laid BY PROGRAM, IN A SANDBOX (cutbox-door.mjs). By AI agents, Wed Nov 11 2026. No macro, syntax, notation, axiom, sorry.
-/
import Derived.Test.YtcnaopgikedgfaaDoorRows
import GoSem.ClaimSeven
namespace Go.Proofs.YtcnaopgikedgfaaDoor
namespace Rows

/-- THE TIED CARD OF 'laws.FnExactFracText'. -/
def fnExactFracTextCard : Claim7 := { stood := { row := fnExactFracTextRow, standIns := [], harness := (true, "ee07f7c8f3eefb45569fc4aa508e689cffec2b4b664d912b77ac2cbc44dfbc44"), looks := true }, kinds := [], alts := [], laidByText := true, laidKinds := [.data, .data, .data], laidTests := true, laidLooks := .later }
def FnExactFracTextCardSaid : Prop := Claim7.holds Tryd.pinned (.plain (OpenSpec.ofChange fnExactFracTextSpec)) fnExactFracTextCard

/-- THE TIED CARD OF 'laws.FnExactParseFrac'. -/
def fnExactParseFracCard : Claim7 := { stood := { row := fnExactParseFracRow, standIns := [], harness := (true, "ee07f7c8f3eefb45569fc4aa508e689cffec2b4b664d912b77ac2cbc44dfbc44"), looks := true }, kinds := [], alts := [], laidByText := true, laidKinds := [.data, .data, .data, .sentinel, .sentinel], laidTests := true, laidLooks := .later }
def FnExactParseFracCardSaid : Prop := Claim7.holds Tryd.pinned (.plain (OpenSpec.ofChange fnExactParseFracSpec)) fnExactParseFracCard

/-- THE SECOND FORM's CARD OF 'laws.FnExactFracText'. -/
def fnExactFracTextUptoCard : Claim7 := { stood := { row := fnExactFracTextUptoRow, standIns := [], harness := (true, "ee07f7c8f3eefb45569fc4aa508e689cffec2b4b664d912b77ac2cbc44dfbc44"), looks := true }, kinds := [], alts := [], laidByText := true, laidKinds := [.data, .data, .data], laidTests := true, laidLooks := .later }
def FnExactFracTextUptoCardSaid : Prop := Claim7.holds Tryd.pinned (.plain (OpenSpec.upto fnExactFracTextSpec)) fnExactFracTextUptoCard

/-- THE SECOND FORM's CARD OF 'laws.FnExactParseFrac'. -/
def fnExactParseFracUptoCard : Claim7 := { stood := { row := fnExactParseFracUptoRow, standIns := [], harness := (true, "ee07f7c8f3eefb45569fc4aa508e689cffec2b4b664d912b77ac2cbc44dfbc44"), looks := true }, kinds := [], alts := [], laidByText := true, laidKinds := [.data, .data, .data, .sentinel, .sentinel], laidTests := true, laidLooks := .later }
def FnExactParseFracUptoCardSaid : Prop := Claim7.holds Tryd.pinned (.plain (OpenSpec.upto fnExactParseFracSpec)) fnExactParseFracUptoCard
end Rows
end Go.Proofs.YtcnaopgikedgfaaDoor

/-
  DERIVED. GIVEN WITH THE SEED: THE CARDS: each row of YtinijfkidjakpaaDoorRows.lean that lists a variable, with what it lists TIED to the program's text (the seventh form; the later family's looks); each row that meets fmt, with fmt's text TOLD by the authors' own Lean function (tested against real Go, not proved from fmt's source: count such statements apart). THE CARD IS WHAT COUNTS. Prove the row's statement (the work); the ties are given (YtinijfkidjakpaaDoorTie.lean); close each card by the builder's one call (the guide's Derived/Test/ToyasCard.lean, 'card_holds'). Laid BY PROGRAM, IN A SANDBOX (cutbox-door.mjs). By AI agents, Wed Nov 11 2026. No macro, syntax, notation, axiom, sorry.
-/
import Derived.Test.YtinijfkidjakpaaDoorRows
import GoSem.ClaimSeven
namespace Go.Proofs.YtinijfkidjakpaaDoor
namespace Rows

/-- THE TIED CARD OF 'laws.FnExactRootsText'. -/
def fnExactRootsTextCard : Claim7 := { stood := { row := fnExactRootsTextRow, standIns := [], harness := (true, "867f33b69927dfe230671a40ae89be7c680d4caad295ab2a3bc3e33d52ef35eb"), looks := false }, kinds := [], alts := [], laidByText := true, laidKinds := [.data, .data, .data], laidTests := true, laidLooks := .later }
def FnExactRootsTextCardSaid : Prop := Claim7.holds Tryd.pinned (.plain (OpenSpec.ofChange fnExactRootsTextSpec)) fnExactRootsTextCard

/-- THE SECOND FORM's CARD OF 'laws.FnExactRootsText'. -/
def fnExactRootsTextUptoCard : Claim7 := { stood := { row := fnExactRootsTextUptoRow, standIns := [], harness := (true, "867f33b69927dfe230671a40ae89be7c680d4caad295ab2a3bc3e33d52ef35eb"), looks := false }, kinds := [], alts := [], laidByText := true, laidKinds := [.data, .data, .data], laidTests := true, laidLooks := .later }
def FnExactRootsTextUptoCardSaid : Prop := Claim7.holds Tryd.pinned (.plain (OpenSpec.upto fnExactRootsTextSpec)) fnExactRootsTextUptoCard
end Rows
end Go.Proofs.YtinijfkidjakpaaDoor

/-
  DERIVED. GIVEN WITH THE SEED: THE CARDS: each row of YtbhmlfidideemaaDoorRows.lean that lists a variable, with what it lists TIED to the program's text (the seventh form; the later family's looks); each row that meets fmt, with fmt's text TOLD by the authors' own Lean function (tested against real Go, not proved from fmt's source: count such statements apart). THE CARD IS WHAT COUNTS. Prove the row's statement (the work); the ties are given (YtbhmlfidideemaaDoorTie.lean); close each card by the builder's one call (the guide's Derived/Test/ToyasCard.lean, 'card_holds'). Laid BY PROGRAM, IN A SANDBOX (cutbox-door.mjs). By AI agents, Wed Nov 11 2026. No macro, syntax, notation, axiom, sorry.
-/
import Derived.Test.YtbhmlfidideemaaDoorRows
import GoSem.ClaimSeven
namespace Go.Proofs.YtbhmlfidideemaaDoor
namespace Rows

/-- THE TIED CARD OF 'laws.FnExactPolyValue'. -/
def fnExactPolyValueCard : Claim7 := { stood := { row := fnExactPolyValueRow, standIns := [], harness := (true, "6336aead7dae270883c9e01546dbafee31d2481a68bc065f91a333f3aa33104b"), looks := true }, kinds := [], alts := [], laidByText := true, laidKinds := [.data], laidTests := true, laidLooks := .later }
def FnExactPolyValueCardSaid : Prop := Claim7.holds Tryd.pinned (.plain (OpenSpec.ofChange fnExactPolyValueSpec)) fnExactPolyValueCard

/-- THE TIED CARD OF 'laws.FnExactLeastTerms'. -/
def fnExactLeastTermsCard : Claim7 := { stood := { row := fnExactLeastTermsRow, standIns := [], harness := (true, "6336aead7dae270883c9e01546dbafee31d2481a68bc065f91a333f3aa33104b"), looks := true }, kinds := [], alts := [], laidByText := true, laidKinds := [.data], laidTests := true, laidLooks := .later }
def FnExactLeastTermsCardSaid : Prop := Claim7.holds Tryd.pinned (.plain (OpenSpec.ofChange fnExactLeastTermsSpec)) fnExactLeastTermsCard

/-- THE TIED CARD OF 'laws.FnExactSlopesAt'. -/
def fnExactSlopesAtCard : Claim7 := { stood := { row := fnExactSlopesAtRow, standIns := [], harness := (true, "6336aead7dae270883c9e01546dbafee31d2481a68bc065f91a333f3aa33104b"), looks := true }, kinds := [], alts := [], laidByText := true, laidKinds := [.data], laidTests := true, laidLooks := .later }
def FnExactSlopesAtCardSaid : Prop := Claim7.holds Tryd.pinned (.plain (OpenSpec.ofChange fnExactSlopesAtSpec)) fnExactSlopesAtCard

/-- THE TIED CARD OF 'laws.FnExactPolyProduct'. -/
def fnExactPolyProductCard : Claim7 := { stood := { row := fnExactPolyProductRow, standIns := [], harness := (true, "6336aead7dae270883c9e01546dbafee31d2481a68bc065f91a333f3aa33104b"), looks := true }, kinds := [], alts := [], laidByText := true, laidKinds := [.data], laidTests := true, laidLooks := .later }
def FnExactPolyProductCardSaid : Prop := Claim7.holds Tryd.pinned (.plain (OpenSpec.ofChange fnExactPolyProductSpec)) fnExactPolyProductCard

/-- THE TIED CARD OF 'laws.FnExactPolyPower'. -/
def fnExactPolyPowerCard : Claim7 := { stood := { row := fnExactPolyPowerRow, standIns := [], harness := (true, "6336aead7dae270883c9e01546dbafee31d2481a68bc065f91a333f3aa33104b"), looks := true }, kinds := [], alts := [], laidByText := true, laidKinds := [.data], laidTests := true, laidLooks := .later }
def FnExactPolyPowerCardSaid : Prop := Claim7.holds Tryd.pinned (.plain (OpenSpec.ofChange fnExactPolyPowerSpec)) fnExactPolyPowerCard

/-- THE TIED CARD OF 'laws.FnExactPolyText'. -/
def fnExactPolyTextCard : Claim7 := { stood := { row := fnExactPolyTextRow, standIns := [], harness := (true, "6336aead7dae270883c9e01546dbafee31d2481a68bc065f91a333f3aa33104b"), looks := true }, kinds := [], alts := [], laidByText := true, laidKinds := [.data, .data, .data, .data, .data], laidTests := true, laidLooks := .later }
def FnExactPolyTextCardSaid : Prop := Claim7.holds Tryd.pinned (.plain (OpenSpec.ofChange fnExactPolyTextSpec)) fnExactPolyTextCard

/-- THE TIED CARD OF 'laws.FnExactParsePoly'. -/
def fnExactParsePolyCard : Claim7 := { stood := { row := fnExactParsePolyRow, standIns := [], harness := (true, "6336aead7dae270883c9e01546dbafee31d2481a68bc065f91a333f3aa33104b"), looks := true }, kinds := [], alts := [], laidByText := true, laidKinds := [.data, .data, .data, .data, .sentinel, .sentinel, .data, .data, .pinned], laidTests := true, laidLooks := .later }
def FnExactParsePolyCardSaid : Prop := Claim7.holds Tryd.pinned (.plain (OpenSpec.ofChange fnExactParsePolySpec)) fnExactParsePolyCard

/-- THE SECOND FORM's CARD OF 'laws.FnExactPolyValue'. -/
def fnExactPolyValueUptoCard : Claim7 := { stood := { row := fnExactPolyValueUptoRow, standIns := [], harness := (true, "6336aead7dae270883c9e01546dbafee31d2481a68bc065f91a333f3aa33104b"), looks := true }, kinds := [], alts := [], laidByText := true, laidKinds := [.data], laidTests := true, laidLooks := .later }
def FnExactPolyValueUptoCardSaid : Prop := Claim7.holds Tryd.pinned (.plain (OpenSpec.upto fnExactPolyValueSpec)) fnExactPolyValueUptoCard

/-- THE SECOND FORM's CARD OF 'laws.FnExactLeastTerms'. -/
def fnExactLeastTermsUptoCard : Claim7 := { stood := { row := fnExactLeastTermsUptoRow, standIns := [], harness := (true, "6336aead7dae270883c9e01546dbafee31d2481a68bc065f91a333f3aa33104b"), looks := true }, kinds := [], alts := [], laidByText := true, laidKinds := [.data], laidTests := true, laidLooks := .later }
def FnExactLeastTermsUptoCardSaid : Prop := Claim7.holds Tryd.pinned (.plain (OpenSpec.upto fnExactLeastTermsSpec)) fnExactLeastTermsUptoCard

/-- THE SECOND FORM's CARD OF 'laws.FnExactSlopesAt'. -/
def fnExactSlopesAtUptoCard : Claim7 := { stood := { row := fnExactSlopesAtUptoRow, standIns := [], harness := (true, "6336aead7dae270883c9e01546dbafee31d2481a68bc065f91a333f3aa33104b"), looks := true }, kinds := [], alts := [], laidByText := true, laidKinds := [.data], laidTests := true, laidLooks := .later }
def FnExactSlopesAtUptoCardSaid : Prop := Claim7.holds Tryd.pinned (.plain (OpenSpec.upto fnExactSlopesAtSpec)) fnExactSlopesAtUptoCard

/-- THE SECOND FORM's CARD OF 'laws.FnExactPolyProduct'. -/
def fnExactPolyProductUptoCard : Claim7 := { stood := { row := fnExactPolyProductUptoRow, standIns := [], harness := (true, "6336aead7dae270883c9e01546dbafee31d2481a68bc065f91a333f3aa33104b"), looks := true }, kinds := [], alts := [], laidByText := true, laidKinds := [.data], laidTests := true, laidLooks := .later }
def FnExactPolyProductUptoCardSaid : Prop := Claim7.holds Tryd.pinned (.plain (OpenSpec.upto fnExactPolyProductSpec)) fnExactPolyProductUptoCard

/-- THE SECOND FORM's CARD OF 'laws.FnExactPolyPower'. -/
def fnExactPolyPowerUptoCard : Claim7 := { stood := { row := fnExactPolyPowerUptoRow, standIns := [], harness := (true, "6336aead7dae270883c9e01546dbafee31d2481a68bc065f91a333f3aa33104b"), looks := true }, kinds := [], alts := [], laidByText := true, laidKinds := [.data], laidTests := true, laidLooks := .later }
def FnExactPolyPowerUptoCardSaid : Prop := Claim7.holds Tryd.pinned (.plain (OpenSpec.upto fnExactPolyPowerSpec)) fnExactPolyPowerUptoCard

/-- THE SECOND FORM's CARD OF 'laws.FnExactPolyText'. -/
def fnExactPolyTextUptoCard : Claim7 := { stood := { row := fnExactPolyTextUptoRow, standIns := [], harness := (true, "6336aead7dae270883c9e01546dbafee31d2481a68bc065f91a333f3aa33104b"), looks := true }, kinds := [], alts := [], laidByText := true, laidKinds := [.data, .data, .data, .data, .data], laidTests := true, laidLooks := .later }
def FnExactPolyTextUptoCardSaid : Prop := Claim7.holds Tryd.pinned (.plain (OpenSpec.upto fnExactPolyTextSpec)) fnExactPolyTextUptoCard

/-- THE SECOND FORM's CARD OF 'laws.FnExactParsePoly'. -/
def fnExactParsePolyUptoCard : Claim7 := { stood := { row := fnExactParsePolyUptoRow, standIns := [], harness := (true, "6336aead7dae270883c9e01546dbafee31d2481a68bc065f91a333f3aa33104b"), looks := true }, kinds := [], alts := [], laidByText := true, laidKinds := [.data, .data, .data, .data, .sentinel, .sentinel, .data, .data, .pinned], laidTests := true, laidLooks := .later }
def FnExactParsePolyUptoCardSaid : Prop := Claim7.holds Tryd.pinned (.plain (OpenSpec.upto fnExactParsePolySpec)) fnExactParsePolyUptoCard
end Rows
end Go.Proofs.YtbhmlfidideemaaDoor

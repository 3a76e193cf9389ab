/-
  DERIVED. GIVEN WITH THE SEED: THE CARDS: each row of YtoeodkkbaieifaaDoorRows.lean that lists a variable, with what it lists TIED to the program's text (the seventh form; the later family's looks); each row that meets fmt, with fmt's text TOLD by the authors' own Lean function (tested against real Go, not proved from fmt's source: count such statements apart). THE CARD IS WHAT COUNTS. Prove the row's statement (the work); the ties are given (YtoeodkkbaieifaaDoorTie.lean); close each card by the builder's one call (the guide's Derived/Test/ToyasCard.lean, 'card_holds'). Laid BY PROGRAM, IN A SANDBOX (cutbox-door.mjs). By AI agents, Wed Nov 11 2026. No macro, syntax, notation, axiom, sorry.
-/
import Derived.Test.YtoeodkkbaieifaaDoorRows
import GoSem.ClaimSeven
namespace Go.Proofs.YtoeodkkbaieifaaDoor
namespace Rows

/-- THE TIED CARD OF 'laws.FnExactTropPower'. -/
def fnExactTropPowerCard : Claim7 := { stood := { row := fnExactTropPowerRow, standIns := [], harness := (true, "aa008ba699f2968718e714883b154ba4b2db56b426135355d2c9c12ec12853ac"), looks := true }, kinds := [], alts := [], laidByText := true, laidKinds := [.data], laidTests := true, laidLooks := .later }
def FnExactTropPowerCardSaid : Prop := Claim7.holds Tryd.pinned (.plain (OpenSpec.ofChange fnExactTropPowerSpec)) fnExactTropPowerCard

/-- THE TIED CARD OF 'laws.FnExactTropSumOf'. -/
def fnExactTropSumOfCard : Claim7 := { stood := { row := fnExactTropSumOfRow, standIns := [], harness := (true, "aa008ba699f2968718e714883b154ba4b2db56b426135355d2c9c12ec12853ac"), looks := true }, kinds := [], alts := [], laidByText := true, laidKinds := [.data], laidTests := true, laidLooks := .later }
def FnExactTropSumOfCardSaid : Prop := Claim7.holds Tryd.pinned (.plain (OpenSpec.ofChange fnExactTropSumOfSpec)) fnExactTropSumOfCard

/-- THE TIED CARD OF 'laws.FnExactLeastPlaces'. -/
def fnExactLeastPlacesCard : Claim7 := { stood := { row := fnExactLeastPlacesRow, standIns := [], harness := (true, "aa008ba699f2968718e714883b154ba4b2db56b426135355d2c9c12ec12853ac"), looks := true }, kinds := [], alts := [], laidByText := true, laidKinds := [.data], laidTests := true, laidLooks := .later }
def FnExactLeastPlacesCardSaid : Prop := Claim7.holds Tryd.pinned (.plain (OpenSpec.ofChange fnExactLeastPlacesSpec)) fnExactLeastPlacesCard

/-- THE TIED CARD OF 'laws.FnExactDoesVanish'. -/
def fnExactDoesVanishCard : Claim7 := { stood := { row := fnExactDoesVanishRow, standIns := [], harness := (true, "aa008ba699f2968718e714883b154ba4b2db56b426135355d2c9c12ec12853ac"), looks := true }, kinds := [], alts := [], laidByText := true, laidKinds := [.data], laidTests := true, laidLooks := .later }
def FnExactDoesVanishCardSaid : Prop := Claim7.holds Tryd.pinned (.plain (OpenSpec.ofChange fnExactDoesVanishSpec)) fnExactDoesVanishCard

/-- THE TIED CARD OF 'laws.FnExactTropDot'. -/
def fnExactTropDotCard : Claim7 := { stood := { row := fnExactTropDotRow, standIns := [], harness := (true, "aa008ba699f2968718e714883b154ba4b2db56b426135355d2c9c12ec12853ac"), looks := true }, kinds := [], alts := [], laidByText := true, laidKinds := [.data], laidTests := true, laidLooks := .later }
def FnExactTropDotCardSaid : Prop := Claim7.holds Tryd.pinned (.plain (OpenSpec.ofChange fnExactTropDotSpec)) fnExactTropDotCard

/-- THE TIED CARD OF 'laws.FnExactNormalList'. -/
def fnExactNormalListCard : Claim7 := { stood := { row := fnExactNormalListRow, standIns := [], harness := (true, "aa008ba699f2968718e714883b154ba4b2db56b426135355d2c9c12ec12853ac"), looks := true }, kinds := [], alts := [], laidByText := true, laidKinds := [.data], laidTests := true, laidLooks := .later }
def FnExactNormalListCardSaid : Prop := Claim7.holds Tryd.pinned (.plain (OpenSpec.ofChange fnExactNormalListSpec)) fnExactNormalListCard

/-- THE TIED CARD OF 'laws.FnExactNumberText'. -/
def fnExactNumberTextCard : Claim7 := { stood := { row := fnExactNumberTextRow, standIns := [], harness := (true, "aa008ba699f2968718e714883b154ba4b2db56b426135355d2c9c12ec12853ac"), looks := true }, kinds := [], alts := [], laidByText := true, laidKinds := [.data, .data, .data, .data, .data], laidTests := true, laidLooks := .later }
def FnExactNumberTextCardSaid : Prop := Claim7.holds Tryd.pinned (.plain (OpenSpec.ofChange fnExactNumberTextSpec)) fnExactNumberTextCard

/-- THE TIED CARD OF 'laws.FnExactParseNumber'. -/
def fnExactParseNumberCard : Claim7 := { stood := { row := fnExactParseNumberRow, standIns := [], harness := (true, "aa008ba699f2968718e714883b154ba4b2db56b426135355d2c9c12ec12853ac"), looks := true }, kinds := [], alts := [], laidByText := true, laidKinds := [.data, .data, .data, .sentinel, .sentinel, .data, .data], laidTests := true, laidLooks := .later }
def FnExactParseNumberCardSaid : Prop := Claim7.holds Tryd.pinned (.plain (OpenSpec.ofChange fnExactParseNumberSpec)) fnExactParseNumberCard

/-- THE SECOND FORM's CARD OF 'laws.FnExactTropPower'. -/
def fnExactTropPowerUptoCard : Claim7 := { stood := { row := fnExactTropPowerUptoRow, standIns := [], harness := (true, "aa008ba699f2968718e714883b154ba4b2db56b426135355d2c9c12ec12853ac"), looks := true }, kinds := [], alts := [], laidByText := true, laidKinds := [.data], laidTests := true, laidLooks := .later }
def FnExactTropPowerUptoCardSaid : Prop := Claim7.holds Tryd.pinned (.plain (OpenSpec.upto fnExactTropPowerSpec)) fnExactTropPowerUptoCard

/-- THE SECOND FORM's CARD OF 'laws.FnExactTropSumOf'. -/
def fnExactTropSumOfUptoCard : Claim7 := { stood := { row := fnExactTropSumOfUptoRow, standIns := [], harness := (true, "aa008ba699f2968718e714883b154ba4b2db56b426135355d2c9c12ec12853ac"), looks := true }, kinds := [], alts := [], laidByText := true, laidKinds := [.data], laidTests := true, laidLooks := .later }
def FnExactTropSumOfUptoCardSaid : Prop := Claim7.holds Tryd.pinned (.plain (OpenSpec.upto fnExactTropSumOfSpec)) fnExactTropSumOfUptoCard

/-- THE SECOND FORM's CARD OF 'laws.FnExactLeastPlaces'. -/
def fnExactLeastPlacesUptoCard : Claim7 := { stood := { row := fnExactLeastPlacesUptoRow, standIns := [], harness := (true, "aa008ba699f2968718e714883b154ba4b2db56b426135355d2c9c12ec12853ac"), looks := true }, kinds := [], alts := [], laidByText := true, laidKinds := [.data], laidTests := true, laidLooks := .later }
def FnExactLeastPlacesUptoCardSaid : Prop := Claim7.holds Tryd.pinned (.plain (OpenSpec.upto fnExactLeastPlacesSpec)) fnExactLeastPlacesUptoCard

/-- THE SECOND FORM's CARD OF 'laws.FnExactDoesVanish'. -/
def fnExactDoesVanishUptoCard : Claim7 := { stood := { row := fnExactDoesVanishUptoRow, standIns := [], harness := (true, "aa008ba699f2968718e714883b154ba4b2db56b426135355d2c9c12ec12853ac"), looks := true }, kinds := [], alts := [], laidByText := true, laidKinds := [.data], laidTests := true, laidLooks := .later }
def FnExactDoesVanishUptoCardSaid : Prop := Claim7.holds Tryd.pinned (.plain (OpenSpec.upto fnExactDoesVanishSpec)) fnExactDoesVanishUptoCard

/-- THE SECOND FORM's CARD OF 'laws.FnExactTropDot'. -/
def fnExactTropDotUptoCard : Claim7 := { stood := { row := fnExactTropDotUptoRow, standIns := [], harness := (true, "aa008ba699f2968718e714883b154ba4b2db56b426135355d2c9c12ec12853ac"), looks := true }, kinds := [], alts := [], laidByText := true, laidKinds := [.data], laidTests := true, laidLooks := .later }
def FnExactTropDotUptoCardSaid : Prop := Claim7.holds Tryd.pinned (.plain (OpenSpec.upto fnExactTropDotSpec)) fnExactTropDotUptoCard

/-- THE SECOND FORM's CARD OF 'laws.FnExactNormalList'. -/
def fnExactNormalListUptoCard : Claim7 := { stood := { row := fnExactNormalListUptoRow, standIns := [], harness := (true, "aa008ba699f2968718e714883b154ba4b2db56b426135355d2c9c12ec12853ac"), looks := true }, kinds := [], alts := [], laidByText := true, laidKinds := [.data], laidTests := true, laidLooks := .later }
def FnExactNormalListUptoCardSaid : Prop := Claim7.holds Tryd.pinned (.plain (OpenSpec.upto fnExactNormalListSpec)) fnExactNormalListUptoCard

/-- THE SECOND FORM's CARD OF 'laws.FnExactNumberText'. -/
def fnExactNumberTextUptoCard : Claim7 := { stood := { row := fnExactNumberTextUptoRow, standIns := [], harness := (true, "aa008ba699f2968718e714883b154ba4b2db56b426135355d2c9c12ec12853ac"), looks := true }, kinds := [], alts := [], laidByText := true, laidKinds := [.data, .data, .data, .data, .data], laidTests := true, laidLooks := .later }
def FnExactNumberTextUptoCardSaid : Prop := Claim7.holds Tryd.pinned (.plain (OpenSpec.upto fnExactNumberTextSpec)) fnExactNumberTextUptoCard

/-- THE SECOND FORM's CARD OF 'laws.FnExactParseNumber'. -/
def fnExactParseNumberUptoCard : Claim7 := { stood := { row := fnExactParseNumberUptoRow, standIns := [], harness := (true, "aa008ba699f2968718e714883b154ba4b2db56b426135355d2c9c12ec12853ac"), looks := true }, kinds := [], alts := [], laidByText := true, laidKinds := [.data, .data, .data, .sentinel, .sentinel, .data, .data], laidTests := true, laidLooks := .later }
def FnExactParseNumberUptoCardSaid : Prop := Claim7.holds Tryd.pinned (.plain (OpenSpec.upto fnExactParseNumberSpec)) fnExactParseNumberUptoCard
end Rows
end Go.Proofs.YtoeodkkbaieifaaDoor

/-
  No cell of these rows narrows 'for every input' (looked for: loops, veiled, ifaces, maps, wideKeys, modest, calm, conditions, laid).
  DERIVED. THE GIVEN ROWS OF THIS SEAT. 11 by the template 'for every input the law returns true; each argument reads behind the call as it read before'; 0 by the template 'total and deterministic' (their statements: YtmkijfkkfhhjjaaTotals.lean).
  GIVEN WITH THE SEED: the statements are not yours to turn. If you find one false, say at which input.
  Laid BY PROGRAM, IN A SANDBOX (cutbox-rows.mjs): the forced cells as the released guide's own fill.sh prints them over the translation 7ebba54ab0d1f297… (all of the seat's roots in one cut). By AI agents, Wed Nov 11 2026. No macro, syntax, notation, axiom, sorry.
-/
import Derived.Test.YtmkijfkkfhhjjaaChecked
import GoSem.Claim
import GoSem.ClaimJoined
import GoSem.ClaimMapViews
import Derived.JoinedTies
import Derived.KernelRfl
namespace Go.Proofs.Ytmkijfkkfhhjjaa
/- THE CELL 'sum', in the pinned program and in every row, IS THE sha256 OF THE DUMP (.gsa) THAT YtmkijfkkfhhjjaaProg.lean LOADS. Nothing in Lean hashes anything: it is a label: what it is worth is what the hold of that sum in a sandbox is worth. -/
noncomputable def Try.pinned : Pinned := { name := "ytmkijfkkfhhjjaa", sum := "7ebba54ab0d1f297774c9ed1c6941e4066887d676d5c4f1085a5dcdb2f48a21c", checked := Try.checked }
namespace Rows
def none {H : Type} : Left H := { results := [], args := [] }

/-- 'laws.FnExactIsPoint': WHATEVER THE INPUT: true; the input reads as it did. -/
def fnExactIsPointSpec : ChangeSpec := { name := "fnExactIsPoint", fn := fun _ => fun
  | [d] => { results := [.lit (.bool true)], args := [d] }
  | _ => none }
def fnExactIsPointRow : OpenClaim := { program := "ytmkijfkkfhhjjaa", sum := "7ebba54ab0d1f297774c9ed1c6941e4066887d676d5c4f1085a5dcdb2f48a21c", func := "loop.example/g01056/laws.FnExactIsPoint", spec := "fnExactIsPoint", apart := false }
def FnExactIsPointSaid : Prop := fnExactIsPointRow.holds Try.pinned (OpenSpec.ofChange fnExactIsPointSpec)

/-- ITS FALSE NEIGHBOUR: 'it returns false'. Refute it at one input. -/
def fnExactIsPointWrong : ChangeSpec := { name := "fnExactIsPoint", fn := fun _ => fun
  | [d] => { results := [.lit (.bool false)], args := [d] }
  | _ => none }
def FnExactIsPointWrongFalsely : Prop := fnExactIsPointRow.holds Try.pinned (OpenSpec.ofChange fnExactIsPointWrong)

/-- 'laws.FnExactHullOf': WHATEVER THE INPUT: true; the input reads as it did. -/
def fnExactHullOfSpec : ChangeSpec := { name := "fnExactHullOf", fn := fun _ => fun
  | [d] => { results := [.lit (.bool true)], args := [d] }
  | _ => none }
def fnExactHullOfRow : OpenClaim := { program := "ytmkijfkkfhhjjaa", sum := "7ebba54ab0d1f297774c9ed1c6941e4066887d676d5c4f1085a5dcdb2f48a21c", func := "loop.example/g01056/laws.FnExactHullOf", spec := "fnExactHullOf", unfollowed := true, recurses := true, apart := false }
def FnExactHullOfSaid : Prop := fnExactHullOfRow.holds Try.pinned (OpenSpec.ofChange fnExactHullOfSpec)

/-- ITS FALSE NEIGHBOUR: 'it returns false'. Refute it at one input. -/
def fnExactHullOfWrong : ChangeSpec := { name := "fnExactHullOf", fn := fun _ => fun
  | [d] => { results := [.lit (.bool false)], args := [d] }
  | _ => none }
def FnExactHullOfWrongFalsely : Prop := fnExactHullOfRow.holds Try.pinned (OpenSpec.ofChange fnExactHullOfWrong)

/-- 'laws.FnExactIsPolygon': WHATEVER THE INPUT: true; the input reads as it did. -/
def fnExactIsPolygonSpec : ChangeSpec := { name := "fnExactIsPolygon", fn := fun _ => fun
  | [d] => { results := [.lit (.bool true)], args := [d] }
  | _ => none }
def fnExactIsPolygonRow : OpenClaim := { program := "ytmkijfkkfhhjjaa", sum := "7ebba54ab0d1f297774c9ed1c6941e4066887d676d5c4f1085a5dcdb2f48a21c", func := "loop.example/g01056/laws.FnExactIsPolygon", spec := "fnExactIsPolygon", unfollowed := true, recurses := true, apart := false }
def FnExactIsPolygonSaid : Prop := fnExactIsPolygonRow.holds Try.pinned (OpenSpec.ofChange fnExactIsPolygonSpec)

/-- ITS FALSE NEIGHBOUR: 'it returns false'. Refute it at one input. -/
def fnExactIsPolygonWrong : ChangeSpec := { name := "fnExactIsPolygon", fn := fun _ => fun
  | [d] => { results := [.lit (.bool false)], args := [d] }
  | _ => none }
def FnExactIsPolygonWrongFalsely : Prop := fnExactIsPolygonRow.holds Try.pinned (OpenSpec.ofChange fnExactIsPolygonWrong)

/-- 'laws.FnExactDoubleArea': WHATEVER THE INPUT: true; the input reads as it did. -/
def fnExactDoubleAreaSpec : ChangeSpec := { name := "fnExactDoubleArea", fn := fun _ => fun
  | [d] => { results := [.lit (.bool true)], args := [d] }
  | _ => none }
def fnExactDoubleAreaRow : OpenClaim := { program := "ytmkijfkkfhhjjaa", sum := "7ebba54ab0d1f297774c9ed1c6941e4066887d676d5c4f1085a5dcdb2f48a21c", func := "loop.example/g01056/laws.FnExactDoubleArea", spec := "fnExactDoubleArea", unfollowed := true, recurses := true, apart := false }
def FnExactDoubleAreaSaid : Prop := fnExactDoubleAreaRow.holds Try.pinned (OpenSpec.ofChange fnExactDoubleAreaSpec)

/-- ITS FALSE NEIGHBOUR: 'it returns false'. Refute it at one input. -/
def fnExactDoubleAreaWrong : ChangeSpec := { name := "fnExactDoubleArea", fn := fun _ => fun
  | [d] => { results := [.lit (.bool false)], args := [d] }
  | _ => none }
def FnExactDoubleAreaWrongFalsely : Prop := fnExactDoubleAreaRow.holds Try.pinned (OpenSpec.ofChange fnExactDoubleAreaWrong)

/-- 'laws.FnExactBoundaryPoints': WHATEVER THE INPUT: true; the input reads as it did. -/
def fnExactBoundaryPointsSpec : ChangeSpec := { name := "fnExactBoundaryPoints", fn := fun _ => fun
  | [d] => { results := [.lit (.bool true)], args := [d] }
  | _ => none }
def fnExactBoundaryPointsRow : OpenClaim := { program := "ytmkijfkkfhhjjaa", sum := "7ebba54ab0d1f297774c9ed1c6941e4066887d676d5c4f1085a5dcdb2f48a21c", func := "loop.example/g01056/laws.FnExactBoundaryPoints", spec := "fnExactBoundaryPoints", unfollowed := true, recurses := true, apart := false }
def FnExactBoundaryPointsSaid : Prop := fnExactBoundaryPointsRow.holds Try.pinned (OpenSpec.ofChange fnExactBoundaryPointsSpec)

/-- ITS FALSE NEIGHBOUR: 'it returns false'. Refute it at one input. -/
def fnExactBoundaryPointsWrong : ChangeSpec := { name := "fnExactBoundaryPoints", fn := fun _ => fun
  | [d] => { results := [.lit (.bool false)], args := [d] }
  | _ => none }
def FnExactBoundaryPointsWrongFalsely : Prop := fnExactBoundaryPointsRow.holds Try.pinned (OpenSpec.ofChange fnExactBoundaryPointsWrong)

/-- 'laws.FnExactInnerPoints': WHATEVER THE INPUT: true; the input reads as it did. -/
def fnExactInnerPointsSpec : ChangeSpec := { name := "fnExactInnerPoints", fn := fun _ => fun
  | [d] => { results := [.lit (.bool true)], args := [d] }
  | _ => none }
def fnExactInnerPointsRow : OpenClaim := { program := "ytmkijfkkfhhjjaa", sum := "7ebba54ab0d1f297774c9ed1c6941e4066887d676d5c4f1085a5dcdb2f48a21c", func := "loop.example/g01056/laws.FnExactInnerPoints", spec := "fnExactInnerPoints", unfollowed := true, recurses := true, apart := false }
def FnExactInnerPointsSaid : Prop := fnExactInnerPointsRow.holds Try.pinned (OpenSpec.ofChange fnExactInnerPointsSpec)

/-- ITS FALSE NEIGHBOUR: 'it returns false'. Refute it at one input. -/
def fnExactInnerPointsWrong : ChangeSpec := { name := "fnExactInnerPoints", fn := fun _ => fun
  | [d] => { results := [.lit (.bool false)], args := [d] }
  | _ => none }
def FnExactInnerPointsWrongFalsely : Prop := fnExactInnerPointsRow.holds Try.pinned (OpenSpec.ofChange fnExactInnerPointsWrong)

/-- 'laws.FnExactHasPoint': WHATEVER THE INPUT: true; the input reads as it did. -/
def fnExactHasPointSpec : ChangeSpec := { name := "fnExactHasPoint", fn := fun _ => fun
  | [d1, d2] => { results := [.lit (.bool true)], args := [d1, d2] }
  | _ => none }
def fnExactHasPointRow : OpenClaim := { program := "ytmkijfkkfhhjjaa", sum := "7ebba54ab0d1f297774c9ed1c6941e4066887d676d5c4f1085a5dcdb2f48a21c", func := "loop.example/g01056/laws.FnExactHasPoint", spec := "fnExactHasPoint", unfollowed := true, recurses := true, apart := false }
def FnExactHasPointSaid : Prop := fnExactHasPointRow.holds Try.pinned (OpenSpec.ofChange fnExactHasPointSpec)

/-- ITS FALSE NEIGHBOUR: 'it returns false'. Refute it at one input. -/
def fnExactHasPointWrong : ChangeSpec := { name := "fnExactHasPoint", fn := fun _ => fun
  | [d1, d2] => { results := [.lit (.bool false)], args := [d1, d2] }
  | _ => none }
def FnExactHasPointWrongFalsely : Prop := fnExactHasPointRow.holds Try.pinned (OpenSpec.ofChange fnExactHasPointWrong)

/-- 'laws.FnExactEdgesOf': WHATEVER THE INPUT: true; the input reads as it did. -/
def fnExactEdgesOfSpec : ChangeSpec := { name := "fnExactEdgesOf", fn := fun _ => fun
  | [d] => { results := [.lit (.bool true)], args := [d] }
  | _ => none }
def fnExactEdgesOfRow : OpenClaim := { program := "ytmkijfkkfhhjjaa", sum := "7ebba54ab0d1f297774c9ed1c6941e4066887d676d5c4f1085a5dcdb2f48a21c", func := "loop.example/g01056/laws.FnExactEdgesOf", spec := "fnExactEdgesOf", unfollowed := true, recurses := true, apart := false }
def FnExactEdgesOfSaid : Prop := fnExactEdgesOfRow.holds Try.pinned (OpenSpec.ofChange fnExactEdgesOfSpec)

/-- ITS FALSE NEIGHBOUR: 'it returns false'. Refute it at one input. -/
def fnExactEdgesOfWrong : ChangeSpec := { name := "fnExactEdgesOf", fn := fun _ => fun
  | [d] => { results := [.lit (.bool false)], args := [d] }
  | _ => none }
def FnExactEdgesOfWrongFalsely : Prop := fnExactEdgesOfRow.holds Try.pinned (OpenSpec.ofChange fnExactEdgesOfWrong)

/-- 'laws.FnExactSumOfPolygons': WHATEVER THE INPUT: true; the input reads as it did. -/
def fnExactSumOfPolygonsSpec : ChangeSpec := { name := "fnExactSumOfPolygons", fn := fun _ => fun
  | [d1, d2] => { results := [.lit (.bool true)], args := [d1, d2] }
  | _ => none }
def fnExactSumOfPolygonsRow : OpenClaim := { program := "ytmkijfkkfhhjjaa", sum := "7ebba54ab0d1f297774c9ed1c6941e4066887d676d5c4f1085a5dcdb2f48a21c", func := "loop.example/g01056/laws.FnExactSumOfPolygons", spec := "fnExactSumOfPolygons", unfollowed := true, recurses := true, apart := false }
def FnExactSumOfPolygonsSaid : Prop := fnExactSumOfPolygonsRow.holds Try.pinned (OpenSpec.ofChange fnExactSumOfPolygonsSpec)

/-- ITS FALSE NEIGHBOUR: 'it returns false'. Refute it at one input. -/
def fnExactSumOfPolygonsWrong : ChangeSpec := { name := "fnExactSumOfPolygons", fn := fun _ => fun
  | [d1, d2] => { results := [.lit (.bool false)], args := [d1, d2] }
  | _ => none }
def FnExactSumOfPolygonsWrongFalsely : Prop := fnExactSumOfPolygonsRow.holds Try.pinned (OpenSpec.ofChange fnExactSumOfPolygonsWrong)

/-- 'laws.FnExactMixedArea': WHATEVER THE INPUT: true; the input reads as it did. -/
def fnExactMixedAreaSpec : ChangeSpec := { name := "fnExactMixedArea", fn := fun _ => fun
  | [d1, d2] => { results := [.lit (.bool true)], args := [d1, d2] }
  | _ => none }
def fnExactMixedAreaRow : OpenClaim := { program := "ytmkijfkkfhhjjaa", sum := "7ebba54ab0d1f297774c9ed1c6941e4066887d676d5c4f1085a5dcdb2f48a21c", func := "loop.example/g01056/laws.FnExactMixedArea", spec := "fnExactMixedArea", unfollowed := true, recurses := true, apart := false }
def FnExactMixedAreaSaid : Prop := fnExactMixedAreaRow.holds Try.pinned (OpenSpec.ofChange fnExactMixedAreaSpec)

/-- ITS FALSE NEIGHBOUR: 'it returns false'. Refute it at one input. -/
def fnExactMixedAreaWrong : ChangeSpec := { name := "fnExactMixedArea", fn := fun _ => fun
  | [d1, d2] => { results := [.lit (.bool false)], args := [d1, d2] }
  | _ => none }
def FnExactMixedAreaWrongFalsely : Prop := fnExactMixedAreaRow.holds Try.pinned (OpenSpec.ofChange fnExactMixedAreaWrong)

/-- 'laws.FnExactWidthIn': WHATEVER THE INPUT: true; the input reads as it did. -/
def fnExactWidthInSpec : ChangeSpec := { name := "fnExactWidthIn", fn := fun _ => fun
  | [d1, d2] => { results := [.lit (.bool true)], args := [d1, d2] }
  | _ => none }
def fnExactWidthInRow : OpenClaim := { program := "ytmkijfkkfhhjjaa", sum := "7ebba54ab0d1f297774c9ed1c6941e4066887d676d5c4f1085a5dcdb2f48a21c", func := "loop.example/g01056/laws.FnExactWidthIn", spec := "fnExactWidthIn", unfollowed := true, recurses := true, apart := false }
def FnExactWidthInSaid : Prop := fnExactWidthInRow.holds Try.pinned (OpenSpec.ofChange fnExactWidthInSpec)

/-- ITS FALSE NEIGHBOUR: 'it returns false'. Refute it at one input. -/
def fnExactWidthInWrong : ChangeSpec := { name := "fnExactWidthIn", fn := fun _ => fun
  | [d1, d2] => { results := [.lit (.bool false)], args := [d1, d2] }
  | _ => none }
def FnExactWidthInWrongFalsely : Prop := fnExactWidthInRow.holds Try.pinned (OpenSpec.ofChange fnExactWidthInWrong)

/- THE SECOND FORM. 'bulk': how many values and letters a reading holds, each counted each time it is reached (what is shared counts as often as it is met; a slice's spare places count too). A statement '..UptoSaid' is the law's where the arguments, and the package variables that the reading takes, are together of bulk at most 1048576: NARROWER than '..Said'. Prove '..Said' where nothing that the law and all that it calls make is longer than what came in: it says more and counts as full. Else prove '..UptoSaid'. A law counts once. -/
mutual
def uptoBulk {H : Type} : DataW H → Nat
  | .lit (.string bytes) => bytes.length + 1
  | .lit _ => 1
  | .nil => 1
  | .ptr d => uptoBulk d + 1
  | .slice elems spare => uptoBulkAll elems + uptoBulkAll spare + 1
  | .agg parts => uptoBulkAll parts + 1
  | .iface _ d => uptoBulk d + 1
  | .map entries => uptoBulkEntries entries + 1
  | .held _ => 1
def uptoBulkAll {H : Type} : List (DataW H) → Nat
  | [] => 0
  | d :: r => uptoBulk d + uptoBulkAll r
def uptoBulkEntries {H : Type} : List (Lit × DataW H) → Nat
  | [] => 0
  | x :: r => uptoBulkEntry x + uptoBulkEntries r
def uptoBulkEntry {H : Type} : Lit × DataW H → Nat
  | (.string bytes, d) => bytes.length + uptoBulk d + 1
  | (_, d) => uptoBulk d + 1
 end
def uptoSmall : (H : Type) → List (DataW H) → Bool := fun _ ds => decide (uptoBulkAll ds ≤ 1048576)
def OpenSpec.upto (s : _root_.Go.ChangeSpec) : _root_.Go.OpenSpec := { _root_.Go.OpenSpec.ofChange s with cond := some uptoSmall }

/-- 'laws.FnExactIsPoint', WHERE WHAT IT READS IS OF BULK AT MOST 1048576: true; the input reads as it did. -/
def fnExactIsPointUptoRow : OpenClaim := { program := "ytmkijfkkfhhjjaa", sum := "7ebba54ab0d1f297774c9ed1c6941e4066887d676d5c4f1085a5dcdb2f48a21c", func := "loop.example/g01056/laws.FnExactIsPoint", spec := "fnExactIsPoint", apart := false, narrowed := true }
def FnExactIsPointUptoSaid : Prop := fnExactIsPointUptoRow.holds Try.pinned (OpenSpec.upto fnExactIsPointSpec)

/-- 'laws.FnExactHullOf', WHERE WHAT IT READS IS OF BULK AT MOST 1048576: true; the input reads as it did. -/
def fnExactHullOfUptoRow : OpenClaim := { program := "ytmkijfkkfhhjjaa", sum := "7ebba54ab0d1f297774c9ed1c6941e4066887d676d5c4f1085a5dcdb2f48a21c", func := "loop.example/g01056/laws.FnExactHullOf", spec := "fnExactHullOf", unfollowed := true, recurses := true, apart := false, narrowed := true }
def FnExactHullOfUptoSaid : Prop := fnExactHullOfUptoRow.holds Try.pinned (OpenSpec.upto fnExactHullOfSpec)

/-- 'laws.FnExactIsPolygon', WHERE WHAT IT READS IS OF BULK AT MOST 1048576: true; the input reads as it did. -/
def fnExactIsPolygonUptoRow : OpenClaim := { program := "ytmkijfkkfhhjjaa", sum := "7ebba54ab0d1f297774c9ed1c6941e4066887d676d5c4f1085a5dcdb2f48a21c", func := "loop.example/g01056/laws.FnExactIsPolygon", spec := "fnExactIsPolygon", unfollowed := true, recurses := true, apart := false, narrowed := true }
def FnExactIsPolygonUptoSaid : Prop := fnExactIsPolygonUptoRow.holds Try.pinned (OpenSpec.upto fnExactIsPolygonSpec)

/-- 'laws.FnExactDoubleArea', WHERE WHAT IT READS IS OF BULK AT MOST 1048576: true; the input reads as it did. -/
def fnExactDoubleAreaUptoRow : OpenClaim := { program := "ytmkijfkkfhhjjaa", sum := "7ebba54ab0d1f297774c9ed1c6941e4066887d676d5c4f1085a5dcdb2f48a21c", func := "loop.example/g01056/laws.FnExactDoubleArea", spec := "fnExactDoubleArea", unfollowed := true, recurses := true, apart := false, narrowed := true }
def FnExactDoubleAreaUptoSaid : Prop := fnExactDoubleAreaUptoRow.holds Try.pinned (OpenSpec.upto fnExactDoubleAreaSpec)

/-- 'laws.FnExactBoundaryPoints', WHERE WHAT IT READS IS OF BULK AT MOST 1048576: true; the input reads as it did. -/
def fnExactBoundaryPointsUptoRow : OpenClaim := { program := "ytmkijfkkfhhjjaa", sum := "7ebba54ab0d1f297774c9ed1c6941e4066887d676d5c4f1085a5dcdb2f48a21c", func := "loop.example/g01056/laws.FnExactBoundaryPoints", spec := "fnExactBoundaryPoints", unfollowed := true, recurses := true, apart := false, narrowed := true }
def FnExactBoundaryPointsUptoSaid : Prop := fnExactBoundaryPointsUptoRow.holds Try.pinned (OpenSpec.upto fnExactBoundaryPointsSpec)

/-- 'laws.FnExactInnerPoints', WHERE WHAT IT READS IS OF BULK AT MOST 1048576: true; the input reads as it did. -/
def fnExactInnerPointsUptoRow : OpenClaim := { program := "ytmkijfkkfhhjjaa", sum := "7ebba54ab0d1f297774c9ed1c6941e4066887d676d5c4f1085a5dcdb2f48a21c", func := "loop.example/g01056/laws.FnExactInnerPoints", spec := "fnExactInnerPoints", unfollowed := true, recurses := true, apart := false, narrowed := true }
def FnExactInnerPointsUptoSaid : Prop := fnExactInnerPointsUptoRow.holds Try.pinned (OpenSpec.upto fnExactInnerPointsSpec)

/-- 'laws.FnExactHasPoint', WHERE WHAT IT READS IS OF BULK AT MOST 1048576: true; the input reads as it did. -/
def fnExactHasPointUptoRow : OpenClaim := { program := "ytmkijfkkfhhjjaa", sum := "7ebba54ab0d1f297774c9ed1c6941e4066887d676d5c4f1085a5dcdb2f48a21c", func := "loop.example/g01056/laws.FnExactHasPoint", spec := "fnExactHasPoint", unfollowed := true, recurses := true, apart := false, narrowed := true }
def FnExactHasPointUptoSaid : Prop := fnExactHasPointUptoRow.holds Try.pinned (OpenSpec.upto fnExactHasPointSpec)

/-- 'laws.FnExactEdgesOf', WHERE WHAT IT READS IS OF BULK AT MOST 1048576: true; the input reads as it did. -/
def fnExactEdgesOfUptoRow : OpenClaim := { program := "ytmkijfkkfhhjjaa", sum := "7ebba54ab0d1f297774c9ed1c6941e4066887d676d5c4f1085a5dcdb2f48a21c", func := "loop.example/g01056/laws.FnExactEdgesOf", spec := "fnExactEdgesOf", unfollowed := true, recurses := true, apart := false, narrowed := true }
def FnExactEdgesOfUptoSaid : Prop := fnExactEdgesOfUptoRow.holds Try.pinned (OpenSpec.upto fnExactEdgesOfSpec)

/-- 'laws.FnExactSumOfPolygons', WHERE WHAT IT READS IS OF BULK AT MOST 1048576: true; the input reads as it did. -/
def fnExactSumOfPolygonsUptoRow : OpenClaim := { program := "ytmkijfkkfhhjjaa", sum := "7ebba54ab0d1f297774c9ed1c6941e4066887d676d5c4f1085a5dcdb2f48a21c", func := "loop.example/g01056/laws.FnExactSumOfPolygons", spec := "fnExactSumOfPolygons", unfollowed := true, recurses := true, apart := false, narrowed := true }
def FnExactSumOfPolygonsUptoSaid : Prop := fnExactSumOfPolygonsUptoRow.holds Try.pinned (OpenSpec.upto fnExactSumOfPolygonsSpec)

/-- 'laws.FnExactMixedArea', WHERE WHAT IT READS IS OF BULK AT MOST 1048576: true; the input reads as it did. -/
def fnExactMixedAreaUptoRow : OpenClaim := { program := "ytmkijfkkfhhjjaa", sum := "7ebba54ab0d1f297774c9ed1c6941e4066887d676d5c4f1085a5dcdb2f48a21c", func := "loop.example/g01056/laws.FnExactMixedArea", spec := "fnExactMixedArea", unfollowed := true, recurses := true, apart := false, narrowed := true }
def FnExactMixedAreaUptoSaid : Prop := fnExactMixedAreaUptoRow.holds Try.pinned (OpenSpec.upto fnExactMixedAreaSpec)

/-- 'laws.FnExactWidthIn', WHERE WHAT IT READS IS OF BULK AT MOST 1048576: true; the input reads as it did. -/
def fnExactWidthInUptoRow : OpenClaim := { program := "ytmkijfkkfhhjjaa", sum := "7ebba54ab0d1f297774c9ed1c6941e4066887d676d5c4f1085a5dcdb2f48a21c", func := "loop.example/g01056/laws.FnExactWidthIn", spec := "fnExactWidthIn", unfollowed := true, recurses := true, apart := false, narrowed := true }
def FnExactWidthInUptoSaid : Prop := fnExactWidthInUptoRow.holds Try.pinned (OpenSpec.upto fnExactWidthInSpec)

end Rows
end Go.Proofs.Ytmkijfkkfhhjjaa

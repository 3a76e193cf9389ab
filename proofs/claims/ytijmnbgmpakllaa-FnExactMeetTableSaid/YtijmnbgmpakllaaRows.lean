/-
  No cell of these rows narrows 'for every input' (looked for: loops, veiled, ifaces, maps, wideKeys, modest, calm, conditions, laid).
  DERIVED. THE GIVEN ROWS OF THIS SEAT. 11 by the template 'for every input the law returns true; each argument reads behind the call as it read before'; 0 by the template 'total and deterministic' (their statements: YtijmnbgmpakllaaTotals.lean).
  GIVEN WITH THE SEED: the statements are not yours to turn. If you find one false, say at which input.
  Laid BY PROGRAM, IN A SANDBOX (cutbox-rows.mjs): the forced cells as the released guide's own fill.sh prints them over the translation 54f6fd3f46bf8249… (all of the seat's roots in one cut). By AI agents, Wed Nov 11 2026. No macro, syntax, notation, axiom, sorry.
-/
import Derived.Test.YtijmnbgmpakllaaChecked
import GoSem.Claim
import GoSem.ClaimJoined
import GoSem.ClaimMapViews
import Derived.JoinedTies
import Derived.KernelRfl
namespace Go.Proofs.Ytijmnbgmpakllaa
/- THE CELL 'sum', in the pinned program and in every row, IS THE sha256 OF THE DUMP (.gsa) THAT YtijmnbgmpakllaaProg.lean LOADS. Nothing in Lean hashes anything: it is a label: what it is worth is what the hold of that sum in a sandbox is worth. -/
noncomputable def Try.pinned : Pinned := { name := "ytijmnbgmpakllaa", sum := "54f6fd3f46bf82496804dcd23958682a788c82427f49f1e2dee3c0b6136040a8", checked := Try.checked }
namespace Rows
def none {H : Type} : Left H := { results := [], args := [] }

/-- 'laws.FnExactPairMultiplicity': WHATEVER THE INPUT: true; the input reads as it did. -/
def fnExactPairMultiplicitySpec : ChangeSpec := { name := "fnExactPairMultiplicity", fn := fun _ => fun
  | [d1, d2] => { results := [.lit (.bool true)], args := [d1, d2] }
  | _ => none }
def fnExactPairMultiplicityRow : OpenClaim := { program := "ytijmnbgmpakllaa", sum := "54f6fd3f46bf82496804dcd23958682a788c82427f49f1e2dee3c0b6136040a8", func := "loop.example/g01056/laws.FnExactPairMultiplicity", spec := "fnExactPairMultiplicity", apart := false }
def FnExactPairMultiplicitySaid : Prop := fnExactPairMultiplicityRow.holds Try.pinned (OpenSpec.ofChange fnExactPairMultiplicitySpec)

/-- ITS FALSE NEIGHBOUR: 'it returns false'. Refute it at one input. -/
def fnExactPairMultiplicityWrong : ChangeSpec := { name := "fnExactPairMultiplicity", fn := fun _ => fun
  | [d1, d2] => { results := [.lit (.bool false)], args := [d1, d2] }
  | _ => none }
def FnExactPairMultiplicityWrongFalsely : Prop := fnExactPairMultiplicityRow.holds Try.pinned (OpenSpec.ofChange fnExactPairMultiplicityWrong)

/-- 'laws.FnExactAreParallel': WHATEVER THE INPUT: true; the input reads as it did. -/
def fnExactAreParallelSpec : ChangeSpec := { name := "fnExactAreParallel", fn := fun _ => fun
  | [d1, d2] => { results := [.lit (.bool true)], args := [d1, d2] }
  | _ => none }
def fnExactAreParallelRow : OpenClaim := { program := "ytijmnbgmpakllaa", sum := "54f6fd3f46bf82496804dcd23958682a788c82427f49f1e2dee3c0b6136040a8", func := "loop.example/g01056/laws.FnExactAreParallel", spec := "fnExactAreParallel", unfollowed := true, recurses := true, apart := false }
def FnExactAreParallelSaid : Prop := fnExactAreParallelRow.holds Try.pinned (OpenSpec.ofChange fnExactAreParallelSpec)

/-- ITS FALSE NEIGHBOUR: 'it returns false'. Refute it at one input. -/
def fnExactAreParallelWrong : ChangeSpec := { name := "fnExactAreParallel", fn := fun _ => fun
  | [d1, d2] => { results := [.lit (.bool false)], args := [d1, d2] }
  | _ => none }
def FnExactAreParallelWrongFalsely : Prop := fnExactAreParallelRow.holds Try.pinned (OpenSpec.ofChange fnExactAreParallelWrong)

/-- 'laws.FnExactMeetsWhenMoved': WHATEVER THE INPUT: true; the input reads as it did. -/
def fnExactMeetsWhenMovedSpec : ChangeSpec := { name := "fnExactMeetsWhenMoved", fn := fun _ => fun
  | [d1, d2, d3, d4] => { results := [.lit (.bool true)], args := [d1, d2, d3, d4] }
  | _ => none }
def fnExactMeetsWhenMovedRow : OpenClaim := { program := "ytijmnbgmpakllaa", sum := "54f6fd3f46bf82496804dcd23958682a788c82427f49f1e2dee3c0b6136040a8", func := "loop.example/g01056/laws.FnExactMeetsWhenMoved", spec := "fnExactMeetsWhenMoved", unfollowed := true, recurses := true, apart := false }
def FnExactMeetsWhenMovedSaid : Prop := fnExactMeetsWhenMovedRow.holds Try.pinned (OpenSpec.ofChange fnExactMeetsWhenMovedSpec)

/-- ITS FALSE NEIGHBOUR: 'it returns false'. Refute it at one input. -/
def fnExactMeetsWhenMovedWrong : ChangeSpec := { name := "fnExactMeetsWhenMoved", fn := fun _ => fun
  | [d1, d2, d3, d4] => { results := [.lit (.bool false)], args := [d1, d2, d3, d4] }
  | _ => none }
def FnExactMeetsWhenMovedWrongFalsely : Prop := fnExactMeetsWhenMovedRow.holds Try.pinned (OpenSpec.ofChange fnExactMeetsWhenMovedWrong)

/-- 'laws.FnExactMeetingPairs': WHATEVER THE INPUT: true; the input reads as it did. -/
def fnExactMeetingPairsSpec : ChangeSpec := { name := "fnExactMeetingPairs", fn := fun _ => fun
  | [d1, d2, d3, d4] => { results := [.lit (.bool true)], args := [d1, d2, d3, d4] }
  | _ => none }
def fnExactMeetingPairsRow : OpenClaim := { program := "ytijmnbgmpakllaa", sum := "54f6fd3f46bf82496804dcd23958682a788c82427f49f1e2dee3c0b6136040a8", func := "loop.example/g01056/laws.FnExactMeetingPairs", spec := "fnExactMeetingPairs", unfollowed := true, recurses := true, apart := false }
def FnExactMeetingPairsSaid : Prop := fnExactMeetingPairsRow.holds Try.pinned (OpenSpec.ofChange fnExactMeetingPairsSpec)

/-- ITS FALSE NEIGHBOUR: 'it returns false'. Refute it at one input. -/
def fnExactMeetingPairsWrong : ChangeSpec := { name := "fnExactMeetingPairs", fn := fun _ => fun
  | [d1, d2, d3, d4] => { results := [.lit (.bool false)], args := [d1, d2, d3, d4] }
  | _ => none }
def FnExactMeetingPairsWrongFalsely : Prop := fnExactMeetingPairsRow.holds Try.pinned (OpenSpec.ofChange fnExactMeetingPairsWrong)

/-- 'laws.FnExactMeetSum': WHATEVER THE INPUT: true; the input reads as it did. -/
def fnExactMeetSumSpec : ChangeSpec := { name := "fnExactMeetSum", fn := fun _ => fun
  | [d1, d2, d3, d4] => { results := [.lit (.bool true)], args := [d1, d2, d3, d4] }
  | _ => none }
def fnExactMeetSumRow : OpenClaim := { program := "ytijmnbgmpakllaa", sum := "54f6fd3f46bf82496804dcd23958682a788c82427f49f1e2dee3c0b6136040a8", func := "loop.example/g01056/laws.FnExactMeetSum", spec := "fnExactMeetSum", unfollowed := true, recurses := true, apart := false }
def FnExactMeetSumSaid : Prop := fnExactMeetSumRow.holds Try.pinned (OpenSpec.ofChange fnExactMeetSumSpec)

/-- ITS FALSE NEIGHBOUR: 'it returns false'. Refute it at one input. -/
def fnExactMeetSumWrong : ChangeSpec := { name := "fnExactMeetSum", fn := fun _ => fun
  | [d1, d2, d3, d4] => { results := [.lit (.bool false)], args := [d1, d2, d3, d4] }
  | _ => none }
def FnExactMeetSumWrongFalsely : Prop := fnExactMeetSumRow.holds Try.pinned (OpenSpec.ofChange fnExactMeetSumWrong)

/-- 'laws.FnExactMeetCount': WHATEVER THE INPUT: true; the input reads as it did. -/
def fnExactMeetCountSpec : ChangeSpec := { name := "fnExactMeetCount", fn := fun _ => fun
  | [d1, d2] => { results := [.lit (.bool true)], args := [d1, d2] }
  | _ => none }
def fnExactMeetCountRow : OpenClaim := { program := "ytijmnbgmpakllaa", sum := "54f6fd3f46bf82496804dcd23958682a788c82427f49f1e2dee3c0b6136040a8", func := "loop.example/g01056/laws.FnExactMeetCount", spec := "fnExactMeetCount", unfollowed := true, recurses := true, apart := false }
def FnExactMeetCountSaid : Prop := fnExactMeetCountRow.holds Try.pinned (OpenSpec.ofChange fnExactMeetCountSpec)

/-- ITS FALSE NEIGHBOUR: 'it returns false'. Refute it at one input. -/
def fnExactMeetCountWrong : ChangeSpec := { name := "fnExactMeetCount", fn := fun _ => fun
  | [d1, d2] => { results := [.lit (.bool false)], args := [d1, d2] }
  | _ => none }
def FnExactMeetCountWrongFalsely : Prop := fnExactMeetCountRow.holds Try.pinned (OpenSpec.ofChange fnExactMeetCountWrong)

/-- 'laws.FnExactSelfCount': WHATEVER THE INPUT: true; the input reads as it did. -/
def fnExactSelfCountSpec : ChangeSpec := { name := "fnExactSelfCount", fn := fun _ => fun
  | [d] => { results := [.lit (.bool true)], args := [d] }
  | _ => none }
def fnExactSelfCountRow : OpenClaim := { program := "ytijmnbgmpakllaa", sum := "54f6fd3f46bf82496804dcd23958682a788c82427f49f1e2dee3c0b6136040a8", func := "loop.example/g01056/laws.FnExactSelfCount", spec := "fnExactSelfCount", unfollowed := true, recurses := true, apart := false }
def FnExactSelfCountSaid : Prop := fnExactSelfCountRow.holds Try.pinned (OpenSpec.ofChange fnExactSelfCountSpec)

/-- ITS FALSE NEIGHBOUR: 'it returns false'. Refute it at one input. -/
def fnExactSelfCountWrong : ChangeSpec := { name := "fnExactSelfCount", fn := fun _ => fun
  | [d] => { results := [.lit (.bool false)], args := [d] }
  | _ => none }
def FnExactSelfCountWrongFalsely : Prop := fnExactSelfCountRow.holds Try.pinned (OpenSpec.ofChange fnExactSelfCountWrong)

/-- 'laws.FnExactStarDegree': WHATEVER THE INPUT: true; the input reads as it did. -/
def fnExactStarDegreeSpec : ChangeSpec := { name := "fnExactStarDegree", fn := fun _ => fun
  | [d] => { results := [.lit (.bool true)], args := [d] }
  | _ => none }
def fnExactStarDegreeRow : OpenClaim := { program := "ytijmnbgmpakllaa", sum := "54f6fd3f46bf82496804dcd23958682a788c82427f49f1e2dee3c0b6136040a8", func := "loop.example/g01056/laws.FnExactStarDegree", spec := "fnExactStarDegree", unfollowed := true, recurses := true, apart := false }
def FnExactStarDegreeSaid : Prop := fnExactStarDegreeRow.holds Try.pinned (OpenSpec.ofChange fnExactStarDegreeSpec)

/-- ITS FALSE NEIGHBOUR: 'it returns false'. Refute it at one input. -/
def fnExactStarDegreeWrong : ChangeSpec := { name := "fnExactStarDegree", fn := fun _ => fun
  | [d] => { results := [.lit (.bool false)], args := [d] }
  | _ => none }
def FnExactStarDegreeWrongFalsely : Prop := fnExactStarDegreeRow.holds Try.pinned (OpenSpec.ofChange fnExactStarDegreeWrong)

/-- 'laws.FnExactBezoutOf': WHATEVER THE INPUT: true; the input reads as it did. -/
def fnExactBezoutOfSpec : ChangeSpec := { name := "fnExactBezoutOf", fn := fun _ => fun
  | [d1, d2] => { results := [.lit (.bool true)], args := [d1, d2] }
  | _ => none }
def fnExactBezoutOfRow : OpenClaim := { program := "ytijmnbgmpakllaa", sum := "54f6fd3f46bf82496804dcd23958682a788c82427f49f1e2dee3c0b6136040a8", func := "loop.example/g01056/laws.FnExactBezoutOf", spec := "fnExactBezoutOf", unfollowed := true, recurses := true, apart := false }
def FnExactBezoutOfSaid : Prop := fnExactBezoutOfRow.holds Try.pinned (OpenSpec.ofChange fnExactBezoutOfSpec)

/-- ITS FALSE NEIGHBOUR: 'it returns false'. Refute it at one input. -/
def fnExactBezoutOfWrong : ChangeSpec := { name := "fnExactBezoutOf", fn := fun _ => fun
  | [d1, d2] => { results := [.lit (.bool false)], args := [d1, d2] }
  | _ => none }
def FnExactBezoutOfWrongFalsely : Prop := fnExactBezoutOfRow.holds Try.pinned (OpenSpec.ofChange fnExactBezoutOfWrong)

/-- 'laws.FnExactMeetDefect': WHATEVER THE INPUT: true; the input reads as it did. -/
def fnExactMeetDefectSpec : ChangeSpec := { name := "fnExactMeetDefect", fn := fun _ => fun
  | [d1, d2] => { results := [.lit (.bool true)], args := [d1, d2] }
  | _ => none }
def fnExactMeetDefectRow : OpenClaim := { program := "ytijmnbgmpakllaa", sum := "54f6fd3f46bf82496804dcd23958682a788c82427f49f1e2dee3c0b6136040a8", func := "loop.example/g01056/laws.FnExactMeetDefect", spec := "fnExactMeetDefect", unfollowed := true, recurses := true, apart := false }
def FnExactMeetDefectSaid : Prop := fnExactMeetDefectRow.holds Try.pinned (OpenSpec.ofChange fnExactMeetDefectSpec)

/-- ITS FALSE NEIGHBOUR: 'it returns false'. Refute it at one input. -/
def fnExactMeetDefectWrong : ChangeSpec := { name := "fnExactMeetDefect", fn := fun _ => fun
  | [d1, d2] => { results := [.lit (.bool false)], args := [d1, d2] }
  | _ => none }
def FnExactMeetDefectWrongFalsely : Prop := fnExactMeetDefectRow.holds Try.pinned (OpenSpec.ofChange fnExactMeetDefectWrong)

/-- 'laws.FnExactMeetTable': WHATEVER THE INPUT: true; the input reads as it did. -/
def fnExactMeetTableSpec : ChangeSpec := { name := "fnExactMeetTable", fn := fun _ => fun
  | [d] => { results := [.lit (.bool true)], args := [d] }
  | _ => none }
def fnExactMeetTableRow : OpenClaim := { program := "ytijmnbgmpakllaa", sum := "54f6fd3f46bf82496804dcd23958682a788c82427f49f1e2dee3c0b6136040a8", func := "loop.example/g01056/laws.FnExactMeetTable", spec := "fnExactMeetTable", unfollowed := true, recurses := true, apart := false }
def FnExactMeetTableSaid : Prop := fnExactMeetTableRow.holds Try.pinned (OpenSpec.ofChange fnExactMeetTableSpec)

/-- ITS FALSE NEIGHBOUR: 'it returns false'. Refute it at one input. -/
def fnExactMeetTableWrong : ChangeSpec := { name := "fnExactMeetTable", fn := fun _ => fun
  | [d] => { results := [.lit (.bool false)], args := [d] }
  | _ => none }
def FnExactMeetTableWrongFalsely : Prop := fnExactMeetTableRow.holds Try.pinned (OpenSpec.ofChange fnExactMeetTableWrong)

/- THE SECOND FORM. 'bulk': how many values and letters a reading holds, each counted each time it is reached (what is shared counts as often as it is met; a slice's spare places count too). A statement '..UptoSaid' is the law's where the arguments, and the package variables that the reading takes, are together of bulk at most 1048576: NARROWER than '..Said'. Prove '..Said' where nothing that the law and all that it calls make is longer than what came in: it says more and counts as full. Else prove '..UptoSaid'. A law counts once. -/
mutual
def uptoBulk {H : Type} : DataW H → Nat
  | .lit (.string bytes) => bytes.length + 1
  | .lit _ => 1
  | .nil => 1
  | .ptr d => uptoBulk d + 1
  | .slice elems spare => uptoBulkAll elems + uptoBulkAll spare + 1
  | .agg parts => uptoBulkAll parts + 1
  | .iface _ d => uptoBulk d + 1
  | .map entries => uptoBulkEntries entries + 1
  | .held _ => 1
def uptoBulkAll {H : Type} : List (DataW H) → Nat
  | [] => 0
  | d :: r => uptoBulk d + uptoBulkAll r
def uptoBulkEntries {H : Type} : List (Lit × DataW H) → Nat
  | [] => 0
  | x :: r => uptoBulkEntry x + uptoBulkEntries r
def uptoBulkEntry {H : Type} : Lit × DataW H → Nat
  | (.string bytes, d) => bytes.length + uptoBulk d + 1
  | (_, d) => uptoBulk d + 1
 end
def uptoSmall : (H : Type) → List (DataW H) → Bool := fun _ ds => decide (uptoBulkAll ds ≤ 1048576)
def OpenSpec.upto (s : _root_.Go.ChangeSpec) : _root_.Go.OpenSpec := { _root_.Go.OpenSpec.ofChange s with cond := some uptoSmall }

/-- 'laws.FnExactPairMultiplicity', WHERE WHAT IT READS IS OF BULK AT MOST 1048576: true; the input reads as it did. -/
def fnExactPairMultiplicityUptoRow : OpenClaim := { program := "ytijmnbgmpakllaa", sum := "54f6fd3f46bf82496804dcd23958682a788c82427f49f1e2dee3c0b6136040a8", func := "loop.example/g01056/laws.FnExactPairMultiplicity", spec := "fnExactPairMultiplicity", apart := false, narrowed := true }
def FnExactPairMultiplicityUptoSaid : Prop := fnExactPairMultiplicityUptoRow.holds Try.pinned (OpenSpec.upto fnExactPairMultiplicitySpec)

/-- 'laws.FnExactAreParallel', WHERE WHAT IT READS IS OF BULK AT MOST 1048576: true; the input reads as it did. -/
def fnExactAreParallelUptoRow : OpenClaim := { program := "ytijmnbgmpakllaa", sum := "54f6fd3f46bf82496804dcd23958682a788c82427f49f1e2dee3c0b6136040a8", func := "loop.example/g01056/laws.FnExactAreParallel", spec := "fnExactAreParallel", unfollowed := true, recurses := true, apart := false, narrowed := true }
def FnExactAreParallelUptoSaid : Prop := fnExactAreParallelUptoRow.holds Try.pinned (OpenSpec.upto fnExactAreParallelSpec)

/-- 'laws.FnExactMeetsWhenMoved', WHERE WHAT IT READS IS OF BULK AT MOST 1048576: true; the input reads as it did. -/
def fnExactMeetsWhenMovedUptoRow : OpenClaim := { program := "ytijmnbgmpakllaa", sum := "54f6fd3f46bf82496804dcd23958682a788c82427f49f1e2dee3c0b6136040a8", func := "loop.example/g01056/laws.FnExactMeetsWhenMoved", spec := "fnExactMeetsWhenMoved", unfollowed := true, recurses := true, apart := false, narrowed := true }
def FnExactMeetsWhenMovedUptoSaid : Prop := fnExactMeetsWhenMovedUptoRow.holds Try.pinned (OpenSpec.upto fnExactMeetsWhenMovedSpec)

/-- 'laws.FnExactMeetingPairs', WHERE WHAT IT READS IS OF BULK AT MOST 1048576: true; the input reads as it did. -/
def fnExactMeetingPairsUptoRow : OpenClaim := { program := "ytijmnbgmpakllaa", sum := "54f6fd3f46bf82496804dcd23958682a788c82427f49f1e2dee3c0b6136040a8", func := "loop.example/g01056/laws.FnExactMeetingPairs", spec := "fnExactMeetingPairs", unfollowed := true, recurses := true, apart := false, narrowed := true }
def FnExactMeetingPairsUptoSaid : Prop := fnExactMeetingPairsUptoRow.holds Try.pinned (OpenSpec.upto fnExactMeetingPairsSpec)

/-- 'laws.FnExactMeetSum', WHERE WHAT IT READS IS OF BULK AT MOST 1048576: true; the input reads as it did. -/
def fnExactMeetSumUptoRow : OpenClaim := { program := "ytijmnbgmpakllaa", sum := "54f6fd3f46bf82496804dcd23958682a788c82427f49f1e2dee3c0b6136040a8", func := "loop.example/g01056/laws.FnExactMeetSum", spec := "fnExactMeetSum", unfollowed := true, recurses := true, apart := false, narrowed := true }
def FnExactMeetSumUptoSaid : Prop := fnExactMeetSumUptoRow.holds Try.pinned (OpenSpec.upto fnExactMeetSumSpec)

/-- 'laws.FnExactMeetCount', WHERE WHAT IT READS IS OF BULK AT MOST 1048576: true; the input reads as it did. -/
def fnExactMeetCountUptoRow : OpenClaim := { program := "ytijmnbgmpakllaa", sum := "54f6fd3f46bf82496804dcd23958682a788c82427f49f1e2dee3c0b6136040a8", func := "loop.example/g01056/laws.FnExactMeetCount", spec := "fnExactMeetCount", unfollowed := true, recurses := true, apart := false, narrowed := true }
def FnExactMeetCountUptoSaid : Prop := fnExactMeetCountUptoRow.holds Try.pinned (OpenSpec.upto fnExactMeetCountSpec)

/-- 'laws.FnExactSelfCount', WHERE WHAT IT READS IS OF BULK AT MOST 1048576: true; the input reads as it did. -/
def fnExactSelfCountUptoRow : OpenClaim := { program := "ytijmnbgmpakllaa", sum := "54f6fd3f46bf82496804dcd23958682a788c82427f49f1e2dee3c0b6136040a8", func := "loop.example/g01056/laws.FnExactSelfCount", spec := "fnExactSelfCount", unfollowed := true, recurses := true, apart := false, narrowed := true }
def FnExactSelfCountUptoSaid : Prop := fnExactSelfCountUptoRow.holds Try.pinned (OpenSpec.upto fnExactSelfCountSpec)

/-- 'laws.FnExactStarDegree', WHERE WHAT IT READS IS OF BULK AT MOST 1048576: true; the input reads as it did. -/
def fnExactStarDegreeUptoRow : OpenClaim := { program := "ytijmnbgmpakllaa", sum := "54f6fd3f46bf82496804dcd23958682a788c82427f49f1e2dee3c0b6136040a8", func := "loop.example/g01056/laws.FnExactStarDegree", spec := "fnExactStarDegree", unfollowed := true, recurses := true, apart := false, narrowed := true }
def FnExactStarDegreeUptoSaid : Prop := fnExactStarDegreeUptoRow.holds Try.pinned (OpenSpec.upto fnExactStarDegreeSpec)

/-- 'laws.FnExactBezoutOf', WHERE WHAT IT READS IS OF BULK AT MOST 1048576: true; the input reads as it did. -/
def fnExactBezoutOfUptoRow : OpenClaim := { program := "ytijmnbgmpakllaa", sum := "54f6fd3f46bf82496804dcd23958682a788c82427f49f1e2dee3c0b6136040a8", func := "loop.example/g01056/laws.FnExactBezoutOf", spec := "fnExactBezoutOf", unfollowed := true, recurses := true, apart := false, narrowed := true }
def FnExactBezoutOfUptoSaid : Prop := fnExactBezoutOfUptoRow.holds Try.pinned (OpenSpec.upto fnExactBezoutOfSpec)

/-- 'laws.FnExactMeetDefect', WHERE WHAT IT READS IS OF BULK AT MOST 1048576: true; the input reads as it did. -/
def fnExactMeetDefectUptoRow : OpenClaim := { program := "ytijmnbgmpakllaa", sum := "54f6fd3f46bf82496804dcd23958682a788c82427f49f1e2dee3c0b6136040a8", func := "loop.example/g01056/laws.FnExactMeetDefect", spec := "fnExactMeetDefect", unfollowed := true, recurses := true, apart := false, narrowed := true }
def FnExactMeetDefectUptoSaid : Prop := fnExactMeetDefectUptoRow.holds Try.pinned (OpenSpec.upto fnExactMeetDefectSpec)

/-- 'laws.FnExactMeetTable', WHERE WHAT IT READS IS OF BULK AT MOST 1048576: true; the input reads as it did. -/
def fnExactMeetTableUptoRow : OpenClaim := { program := "ytijmnbgmpakllaa", sum := "54f6fd3f46bf82496804dcd23958682a788c82427f49f1e2dee3c0b6136040a8", func := "loop.example/g01056/laws.FnExactMeetTable", spec := "fnExactMeetTable", unfollowed := true, recurses := true, apart := false, narrowed := true }
def FnExactMeetTableUptoSaid : Prop := fnExactMeetTableUptoRow.holds Try.pinned (OpenSpec.upto fnExactMeetTableSpec)

end Rows
end Go.Proofs.Ytijmnbgmpakllaa

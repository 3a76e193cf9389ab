/-
  No cell of these rows narrows 'for every input' (looked for: loops, veiled, ifaces, maps, wideKeys, modest, calm, conditions, laid).
  DERIVED. THE GIVEN ROWS OF THIS SEAT. 11 by the template 'for every input the law returns true; each argument reads behind the call as it read before'; 0 by the template 'total and deterministic' (their statements: YtibdbgeknphljaaTotals.lean).
  GIVEN WITH THE SEED: the statements are not yours to turn. If you find one false, say at which input.
  Laid BY PROGRAM, IN A SANDBOX (cutbox-rows.mjs): the forced cells as the released guide's own fill.sh prints them over the translation 45817890f9ca4690… (all of the seat's roots in one cut). By AI agents, Wed Nov 11 2026. No macro, syntax, notation, axiom, sorry.
-/
import Derived.Test.YtibdbgeknphljaaChecked
import GoSem.Claim
import GoSem.ClaimJoined
import GoSem.ClaimMapViews
import Derived.JoinedTies
import Derived.KernelRfl
namespace Go.Proofs.Ytibdbgeknphljaa
/- THE CELL 'sum', in the pinned program and in every row, IS THE sha256 OF THE DUMP (.gsa) THAT YtibdbgeknphljaaProg.lean LOADS. Nothing in Lean hashes anything: it is a label: what it is worth is what the hold of that sum in a sandbox is worth. -/
noncomputable def Try.pinned : Pinned := { name := "ytibdbgeknphljaa", sum := "45817890f9ca4690bd71b4c0ca236ebb9ff758eda41d583b13326277f762667d", checked := Try.checked }
namespace Rows
def none {H : Type} : Left H := { results := [], args := [] }

/-- 'laws.FnExactIsPlane': WHATEVER THE INPUT: true; the input reads as it did. -/
def fnExactIsPlaneSpec : ChangeSpec := { name := "fnExactIsPlane", fn := fun _ => fun
  | [d] => { results := [.lit (.bool true)], args := [d] }
  | _ => none }
def fnExactIsPlaneRow : OpenClaim := { program := "ytibdbgeknphljaa", sum := "45817890f9ca4690bd71b4c0ca236ebb9ff758eda41d583b13326277f762667d", func := "loop.example/g01056/laws.FnExactIsPlane", spec := "fnExactIsPlane", apart := false }
def FnExactIsPlaneSaid : Prop := fnExactIsPlaneRow.holds Try.pinned (OpenSpec.ofChange fnExactIsPlaneSpec)

/-- ITS FALSE NEIGHBOUR: 'it returns false'. Refute it at one input. -/
def fnExactIsPlaneWrong : ChangeSpec := { name := "fnExactIsPlane", fn := fun _ => fun
  | [d] => { results := [.lit (.bool false)], args := [d] }
  | _ => none }
def FnExactIsPlaneWrongFalsely : Prop := fnExactIsPlaneRow.holds Try.pinned (OpenSpec.ofChange fnExactIsPlaneWrong)

/-- 'laws.FnExactPlaneValue': WHATEVER THE INPUT: true; the input reads as it did. -/
def fnExactPlaneValueSpec : ChangeSpec := { name := "fnExactPlaneValue", fn := fun _ => fun
  | [d1, d2, d3] => { results := [.lit (.bool true)], args := [d1, d2, d3] }
  | _ => none }
def fnExactPlaneValueRow : OpenClaim := { program := "ytibdbgeknphljaa", sum := "45817890f9ca4690bd71b4c0ca236ebb9ff758eda41d583b13326277f762667d", func := "loop.example/g01056/laws.FnExactPlaneValue", spec := "fnExactPlaneValue", apart := false }
def FnExactPlaneValueSaid : Prop := fnExactPlaneValueRow.holds Try.pinned (OpenSpec.ofChange fnExactPlaneValueSpec)

/-- ITS FALSE NEIGHBOUR: 'it returns false'. Refute it at one input. -/
def fnExactPlaneValueWrong : ChangeSpec := { name := "fnExactPlaneValue", fn := fun _ => fun
  | [d1, d2, d3] => { results := [.lit (.bool false)], args := [d1, d2, d3] }
  | _ => none }
def FnExactPlaneValueWrongFalsely : Prop := fnExactPlaneValueRow.holds Try.pinned (OpenSpec.ofChange fnExactPlaneValueWrong)

/-- 'laws.FnExactPlaneLeast': WHATEVER THE INPUT: true; the input reads as it did. -/
def fnExactPlaneLeastSpec : ChangeSpec := { name := "fnExactPlaneLeast", fn := fun _ => fun
  | [d1, d2, d3] => { results := [.lit (.bool true)], args := [d1, d2, d3] }
  | _ => none }
def fnExactPlaneLeastRow : OpenClaim := { program := "ytibdbgeknphljaa", sum := "45817890f9ca4690bd71b4c0ca236ebb9ff758eda41d583b13326277f762667d", func := "loop.example/g01056/laws.FnExactPlaneLeast", spec := "fnExactPlaneLeast", apart := false }
def FnExactPlaneLeastSaid : Prop := fnExactPlaneLeastRow.holds Try.pinned (OpenSpec.ofChange fnExactPlaneLeastSpec)

/-- ITS FALSE NEIGHBOUR: 'it returns false'. Refute it at one input. -/
def fnExactPlaneLeastWrong : ChangeSpec := { name := "fnExactPlaneLeast", fn := fun _ => fun
  | [d1, d2, d3] => { results := [.lit (.bool false)], args := [d1, d2, d3] }
  | _ => none }
def FnExactPlaneLeastWrongFalsely : Prop := fnExactPlaneLeastRow.holds Try.pinned (OpenSpec.ofChange fnExactPlaneLeastWrong)

/-- 'laws.FnExactIsOnCurve': WHATEVER THE INPUT: true; the input reads as it did. -/
def fnExactIsOnCurveSpec : ChangeSpec := { name := "fnExactIsOnCurve", fn := fun _ => fun
  | [d1, d2, d3] => { results := [.lit (.bool true)], args := [d1, d2, d3] }
  | _ => none }
def fnExactIsOnCurveRow : OpenClaim := { program := "ytibdbgeknphljaa", sum := "45817890f9ca4690bd71b4c0ca236ebb9ff758eda41d583b13326277f762667d", func := "loop.example/g01056/laws.FnExactIsOnCurve", spec := "fnExactIsOnCurve", apart := false }
def FnExactIsOnCurveSaid : Prop := fnExactIsOnCurveRow.holds Try.pinned (OpenSpec.ofChange fnExactIsOnCurveSpec)

/-- ITS FALSE NEIGHBOUR: 'it returns false'. Refute it at one input. -/
def fnExactIsOnCurveWrong : ChangeSpec := { name := "fnExactIsOnCurve", fn := fun _ => fun
  | [d1, d2, d3] => { results := [.lit (.bool false)], args := [d1, d2, d3] }
  | _ => none }
def FnExactIsOnCurveWrongFalsely : Prop := fnExactIsOnCurveRow.holds Try.pinned (OpenSpec.ofChange fnExactIsOnCurveWrong)

/-- 'laws.FnExactPlaneSum': WHATEVER THE INPUT: true; the input reads as it did. -/
def fnExactPlaneSumSpec : ChangeSpec := { name := "fnExactPlaneSum", fn := fun _ => fun
  | [d1, d2] => { results := [.lit (.bool true)], args := [d1, d2] }
  | _ => none }
def fnExactPlaneSumRow : OpenClaim := { program := "ytibdbgeknphljaa", sum := "45817890f9ca4690bd71b4c0ca236ebb9ff758eda41d583b13326277f762667d", func := "loop.example/g01056/laws.FnExactPlaneSum", spec := "fnExactPlaneSum", unfollowed := true, recurses := true, apart := false }
def FnExactPlaneSumSaid : Prop := fnExactPlaneSumRow.holds Try.pinned (OpenSpec.ofChange fnExactPlaneSumSpec)

/-- ITS FALSE NEIGHBOUR: 'it returns false'. Refute it at one input. -/
def fnExactPlaneSumWrong : ChangeSpec := { name := "fnExactPlaneSum", fn := fun _ => fun
  | [d1, d2] => { results := [.lit (.bool false)], args := [d1, d2] }
  | _ => none }
def FnExactPlaneSumWrongFalsely : Prop := fnExactPlaneSumRow.holds Try.pinned (OpenSpec.ofChange fnExactPlaneSumWrong)

/-- 'laws.FnExactPlaneProduct': WHATEVER THE INPUT: true; the input reads as it did. -/
def fnExactPlaneProductSpec : ChangeSpec := { name := "fnExactPlaneProduct", fn := fun _ => fun
  | [d1, d2] => { results := [.lit (.bool true)], args := [d1, d2] }
  | _ => none }
def fnExactPlaneProductRow : OpenClaim := { program := "ytibdbgeknphljaa", sum := "45817890f9ca4690bd71b4c0ca236ebb9ff758eda41d583b13326277f762667d", func := "loop.example/g01056/laws.FnExactPlaneProduct", spec := "fnExactPlaneProduct", unfollowed := true, recurses := true, apart := false }
def FnExactPlaneProductSaid : Prop := fnExactPlaneProductRow.holds Try.pinned (OpenSpec.ofChange fnExactPlaneProductSpec)

/-- ITS FALSE NEIGHBOUR: 'it returns false'. Refute it at one input. -/
def fnExactPlaneProductWrong : ChangeSpec := { name := "fnExactPlaneProduct", fn := fun _ => fun
  | [d1, d2] => { results := [.lit (.bool false)], args := [d1, d2] }
  | _ => none }
def FnExactPlaneProductWrongFalsely : Prop := fnExactPlaneProductRow.holds Try.pinned (OpenSpec.ofChange fnExactPlaneProductWrong)

/-- 'laws.FnExactMovePlane': WHATEVER THE INPUT: true; the input reads as it did. -/
def fnExactMovePlaneSpec : ChangeSpec := { name := "fnExactMovePlane", fn := fun _ => fun
  | [d1, d2, d3] => { results := [.lit (.bool true)], args := [d1, d2, d3] }
  | _ => none }
def fnExactMovePlaneRow : OpenClaim := { program := "ytibdbgeknphljaa", sum := "45817890f9ca4690bd71b4c0ca236ebb9ff758eda41d583b13326277f762667d", func := "loop.example/g01056/laws.FnExactMovePlane", spec := "fnExactMovePlane", unfollowed := true, recurses := true, apart := false }
def FnExactMovePlaneSaid : Prop := fnExactMovePlaneRow.holds Try.pinned (OpenSpec.ofChange fnExactMovePlaneSpec)

/-- ITS FALSE NEIGHBOUR: 'it returns false'. Refute it at one input. -/
def fnExactMovePlaneWrong : ChangeSpec := { name := "fnExactMovePlane", fn := fun _ => fun
  | [d1, d2, d3] => { results := [.lit (.bool false)], args := [d1, d2, d3] }
  | _ => none }
def FnExactMovePlaneWrongFalsely : Prop := fnExactMovePlaneRow.holds Try.pinned (OpenSpec.ofChange fnExactMovePlaneWrong)

/-- 'laws.FnExactSwapPlane': WHATEVER THE INPUT: true; the input reads as it did. -/
def fnExactSwapPlaneSpec : ChangeSpec := { name := "fnExactSwapPlane", fn := fun _ => fun
  | [d] => { results := [.lit (.bool true)], args := [d] }
  | _ => none }
def fnExactSwapPlaneRow : OpenClaim := { program := "ytibdbgeknphljaa", sum := "45817890f9ca4690bd71b4c0ca236ebb9ff758eda41d583b13326277f762667d", func := "loop.example/g01056/laws.FnExactSwapPlane", spec := "fnExactSwapPlane", unfollowed := true, recurses := true, apart := false }
def FnExactSwapPlaneSaid : Prop := fnExactSwapPlaneRow.holds Try.pinned (OpenSpec.ofChange fnExactSwapPlaneSpec)

/-- ITS FALSE NEIGHBOUR: 'it returns false'. Refute it at one input. -/
def fnExactSwapPlaneWrong : ChangeSpec := { name := "fnExactSwapPlane", fn := fun _ => fun
  | [d] => { results := [.lit (.bool false)], args := [d] }
  | _ => none }
def FnExactSwapPlaneWrongFalsely : Prop := fnExactSwapPlaneRow.holds Try.pinned (OpenSpec.ofChange fnExactSwapPlaneWrong)

/-- 'laws.FnExactTotalDegree': WHATEVER THE INPUT: true; the input reads as it did. -/
def fnExactTotalDegreeSpec : ChangeSpec := { name := "fnExactTotalDegree", fn := fun _ => fun
  | [d] => { results := [.lit (.bool true)], args := [d] }
  | _ => none }
def fnExactTotalDegreeRow : OpenClaim := { program := "ytibdbgeknphljaa", sum := "45817890f9ca4690bd71b4c0ca236ebb9ff758eda41d583b13326277f762667d", func := "loop.example/g01056/laws.FnExactTotalDegree", spec := "fnExactTotalDegree", apart := false }
def FnExactTotalDegreeSaid : Prop := fnExactTotalDegreeRow.holds Try.pinned (OpenSpec.ofChange fnExactTotalDegreeSpec)

/-- ITS FALSE NEIGHBOUR: 'it returns false'. Refute it at one input. -/
def fnExactTotalDegreeWrong : ChangeSpec := { name := "fnExactTotalDegree", fn := fun _ => fun
  | [d] => { results := [.lit (.bool false)], args := [d] }
  | _ => none }
def FnExactTotalDegreeWrongFalsely : Prop := fnExactTotalDegreeRow.holds Try.pinned (OpenSpec.ofChange fnExactTotalDegreeWrong)

/-- 'laws.FnExactRowOf': WHATEVER THE INPUT: true; the input reads as it did. -/
def fnExactRowOfSpec : ChangeSpec := { name := "fnExactRowOf", fn := fun _ => fun
  | [d1, d2] => { results := [.lit (.bool true)], args := [d1, d2] }
  | _ => none }
def fnExactRowOfRow : OpenClaim := { program := "ytibdbgeknphljaa", sum := "45817890f9ca4690bd71b4c0ca236ebb9ff758eda41d583b13326277f762667d", func := "loop.example/g01056/laws.FnExactRowOf", spec := "fnExactRowOf", apart := false }
def FnExactRowOfSaid : Prop := fnExactRowOfRow.holds Try.pinned (OpenSpec.ofChange fnExactRowOfSpec)

/-- ITS FALSE NEIGHBOUR: 'it returns false'. Refute it at one input. -/
def fnExactRowOfWrong : ChangeSpec := { name := "fnExactRowOf", fn := fun _ => fun
  | [d1, d2] => { results := [.lit (.bool false)], args := [d1, d2] }
  | _ => none }
def FnExactRowOfWrongFalsely : Prop := fnExactRowOfRow.holds Try.pinned (OpenSpec.ofChange fnExactRowOfWrong)

/-- 'laws.FnExactNewtonPoints': WHATEVER THE INPUT: true; the input reads as it did. -/
def fnExactNewtonPointsSpec : ChangeSpec := { name := "fnExactNewtonPoints", fn := fun _ => fun
  | [d] => { results := [.lit (.bool true)], args := [d] }
  | _ => none }
def fnExactNewtonPointsRow : OpenClaim := { program := "ytibdbgeknphljaa", sum := "45817890f9ca4690bd71b4c0ca236ebb9ff758eda41d583b13326277f762667d", func := "loop.example/g01056/laws.FnExactNewtonPoints", spec := "fnExactNewtonPoints", apart := false }
def FnExactNewtonPointsSaid : Prop := fnExactNewtonPointsRow.holds Try.pinned (OpenSpec.ofChange fnExactNewtonPointsSpec)

/-- ITS FALSE NEIGHBOUR: 'it returns false'. Refute it at one input. -/
def fnExactNewtonPointsWrong : ChangeSpec := { name := "fnExactNewtonPoints", fn := fun _ => fun
  | [d] => { results := [.lit (.bool false)], args := [d] }
  | _ => none }
def FnExactNewtonPointsWrongFalsely : Prop := fnExactNewtonPointsRow.holds Try.pinned (OpenSpec.ofChange fnExactNewtonPointsWrong)

/- THE SECOND FORM. 'bulk': how many values and letters a reading holds, each counted each time it is reached (what is shared counts as often as it is met; a slice's spare places count too). A statement '..UptoSaid' is the law's where the arguments, and the package variables that the reading takes, are together of bulk at most 1048576: NARROWER than '..Said'. Prove '..Said' where nothing that the law and all that it calls make is longer than what came in: it says more and counts as full. Else prove '..UptoSaid'. A law counts once. -/
mutual
def uptoBulk {H : Type} : DataW H → Nat
  | .lit (.string bytes) => bytes.length + 1
  | .lit _ => 1
  | .nil => 1
  | .ptr d => uptoBulk d + 1
  | .slice elems spare => uptoBulkAll elems + uptoBulkAll spare + 1
  | .agg parts => uptoBulkAll parts + 1
  | .iface _ d => uptoBulk d + 1
  | .map entries => uptoBulkEntries entries + 1
  | .held _ => 1
def uptoBulkAll {H : Type} : List (DataW H) → Nat
  | [] => 0
  | d :: r => uptoBulk d + uptoBulkAll r
def uptoBulkEntries {H : Type} : List (Lit × DataW H) → Nat
  | [] => 0
  | x :: r => uptoBulkEntry x + uptoBulkEntries r
def uptoBulkEntry {H : Type} : Lit × DataW H → Nat
  | (.string bytes, d) => bytes.length + uptoBulk d + 1
  | (_, d) => uptoBulk d + 1
 end
def uptoSmall : (H : Type) → List (DataW H) → Bool := fun _ ds => decide (uptoBulkAll ds ≤ 1048576)
def OpenSpec.upto (s : _root_.Go.ChangeSpec) : _root_.Go.OpenSpec := { _root_.Go.OpenSpec.ofChange s with cond := some uptoSmall }

/-- 'laws.FnExactIsPlane', WHERE WHAT IT READS IS OF BULK AT MOST 1048576: true; the input reads as it did. -/
def fnExactIsPlaneUptoRow : OpenClaim := { program := "ytibdbgeknphljaa", sum := "45817890f9ca4690bd71b4c0ca236ebb9ff758eda41d583b13326277f762667d", func := "loop.example/g01056/laws.FnExactIsPlane", spec := "fnExactIsPlane", apart := false, narrowed := true }
def FnExactIsPlaneUptoSaid : Prop := fnExactIsPlaneUptoRow.holds Try.pinned (OpenSpec.upto fnExactIsPlaneSpec)

/-- 'laws.FnExactPlaneValue', WHERE WHAT IT READS IS OF BULK AT MOST 1048576: true; the input reads as it did. -/
def fnExactPlaneValueUptoRow : OpenClaim := { program := "ytibdbgeknphljaa", sum := "45817890f9ca4690bd71b4c0ca236ebb9ff758eda41d583b13326277f762667d", func := "loop.example/g01056/laws.FnExactPlaneValue", spec := "fnExactPlaneValue", apart := false, narrowed := true }
def FnExactPlaneValueUptoSaid : Prop := fnExactPlaneValueUptoRow.holds Try.pinned (OpenSpec.upto fnExactPlaneValueSpec)

/-- 'laws.FnExactPlaneLeast', WHERE WHAT IT READS IS OF BULK AT MOST 1048576: true; the input reads as it did. -/
def fnExactPlaneLeastUptoRow : OpenClaim := { program := "ytibdbgeknphljaa", sum := "45817890f9ca4690bd71b4c0ca236ebb9ff758eda41d583b13326277f762667d", func := "loop.example/g01056/laws.FnExactPlaneLeast", spec := "fnExactPlaneLeast", apart := false, narrowed := true }
def FnExactPlaneLeastUptoSaid : Prop := fnExactPlaneLeastUptoRow.holds Try.pinned (OpenSpec.upto fnExactPlaneLeastSpec)

/-- 'laws.FnExactIsOnCurve', WHERE WHAT IT READS IS OF BULK AT MOST 1048576: true; the input reads as it did. -/
def fnExactIsOnCurveUptoRow : OpenClaim := { program := "ytibdbgeknphljaa", sum := "45817890f9ca4690bd71b4c0ca236ebb9ff758eda41d583b13326277f762667d", func := "loop.example/g01056/laws.FnExactIsOnCurve", spec := "fnExactIsOnCurve", apart := false, narrowed := true }
def FnExactIsOnCurveUptoSaid : Prop := fnExactIsOnCurveUptoRow.holds Try.pinned (OpenSpec.upto fnExactIsOnCurveSpec)

/-- 'laws.FnExactPlaneSum', WHERE WHAT IT READS IS OF BULK AT MOST 1048576: true; the input reads as it did. -/
def fnExactPlaneSumUptoRow : OpenClaim := { program := "ytibdbgeknphljaa", sum := "45817890f9ca4690bd71b4c0ca236ebb9ff758eda41d583b13326277f762667d", func := "loop.example/g01056/laws.FnExactPlaneSum", spec := "fnExactPlaneSum", unfollowed := true, recurses := true, apart := false, narrowed := true }
def FnExactPlaneSumUptoSaid : Prop := fnExactPlaneSumUptoRow.holds Try.pinned (OpenSpec.upto fnExactPlaneSumSpec)

/-- 'laws.FnExactPlaneProduct', WHERE WHAT IT READS IS OF BULK AT MOST 1048576: true; the input reads as it did. -/
def fnExactPlaneProductUptoRow : OpenClaim := { program := "ytibdbgeknphljaa", sum := "45817890f9ca4690bd71b4c0ca236ebb9ff758eda41d583b13326277f762667d", func := "loop.example/g01056/laws.FnExactPlaneProduct", spec := "fnExactPlaneProduct", unfollowed := true, recurses := true, apart := false, narrowed := true }
def FnExactPlaneProductUptoSaid : Prop := fnExactPlaneProductUptoRow.holds Try.pinned (OpenSpec.upto fnExactPlaneProductSpec)

/-- 'laws.FnExactMovePlane', WHERE WHAT IT READS IS OF BULK AT MOST 1048576: true; the input reads as it did. -/
def fnExactMovePlaneUptoRow : OpenClaim := { program := "ytibdbgeknphljaa", sum := "45817890f9ca4690bd71b4c0ca236ebb9ff758eda41d583b13326277f762667d", func := "loop.example/g01056/laws.FnExactMovePlane", spec := "fnExactMovePlane", unfollowed := true, recurses := true, apart := false, narrowed := true }
def FnExactMovePlaneUptoSaid : Prop := fnExactMovePlaneUptoRow.holds Try.pinned (OpenSpec.upto fnExactMovePlaneSpec)

/-- 'laws.FnExactSwapPlane', WHERE WHAT IT READS IS OF BULK AT MOST 1048576: true; the input reads as it did. -/
def fnExactSwapPlaneUptoRow : OpenClaim := { program := "ytibdbgeknphljaa", sum := "45817890f9ca4690bd71b4c0ca236ebb9ff758eda41d583b13326277f762667d", func := "loop.example/g01056/laws.FnExactSwapPlane", spec := "fnExactSwapPlane", unfollowed := true, recurses := true, apart := false, narrowed := true }
def FnExactSwapPlaneUptoSaid : Prop := fnExactSwapPlaneUptoRow.holds Try.pinned (OpenSpec.upto fnExactSwapPlaneSpec)

/-- 'laws.FnExactTotalDegree', WHERE WHAT IT READS IS OF BULK AT MOST 1048576: true; the input reads as it did. -/
def fnExactTotalDegreeUptoRow : OpenClaim := { program := "ytibdbgeknphljaa", sum := "45817890f9ca4690bd71b4c0ca236ebb9ff758eda41d583b13326277f762667d", func := "loop.example/g01056/laws.FnExactTotalDegree", spec := "fnExactTotalDegree", apart := false, narrowed := true }
def FnExactTotalDegreeUptoSaid : Prop := fnExactTotalDegreeUptoRow.holds Try.pinned (OpenSpec.upto fnExactTotalDegreeSpec)

/-- 'laws.FnExactRowOf', WHERE WHAT IT READS IS OF BULK AT MOST 1048576: true; the input reads as it did. -/
def fnExactRowOfUptoRow : OpenClaim := { program := "ytibdbgeknphljaa", sum := "45817890f9ca4690bd71b4c0ca236ebb9ff758eda41d583b13326277f762667d", func := "loop.example/g01056/laws.FnExactRowOf", spec := "fnExactRowOf", apart := false, narrowed := true }
def FnExactRowOfUptoSaid : Prop := fnExactRowOfUptoRow.holds Try.pinned (OpenSpec.upto fnExactRowOfSpec)

/-- 'laws.FnExactNewtonPoints', WHERE WHAT IT READS IS OF BULK AT MOST 1048576: true; the input reads as it did. -/
def fnExactNewtonPointsUptoRow : OpenClaim := { program := "ytibdbgeknphljaa", sum := "45817890f9ca4690bd71b4c0ca236ebb9ff758eda41d583b13326277f762667d", func := "loop.example/g01056/laws.FnExactNewtonPoints", spec := "fnExactNewtonPoints", apart := false, narrowed := true }
def FnExactNewtonPointsUptoSaid : Prop := fnExactNewtonPointsUptoRow.holds Try.pinned (OpenSpec.upto fnExactNewtonPointsSpec)

end Rows
end Go.Proofs.Ytibdbgeknphljaa

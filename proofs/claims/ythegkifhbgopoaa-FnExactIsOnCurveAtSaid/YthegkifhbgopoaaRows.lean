/-
  No cell of these rows narrows 'for every input' (looked for: loops, veiled, ifaces, maps, wideKeys, modest, calm, conditions, laid).
  DERIVED. THE GIVEN ROWS OF THIS SEAT. 11 by the template 'for every input the law returns true; each argument reads behind the call as it read before'; 0 by the template 'total and deterministic' (their statements: YthegkifhbgopoaaTotals.lean).
  GIVEN WITH THE SEED: the statements are not yours to turn. If you find one false, say at which input.
  Laid BY PROGRAM, IN A SANDBOX (cutbox-rows.mjs): the forced cells as the released guide's own fill.sh prints them over the translation a4c3ae758d18d7e7… (all of the seat's roots in one cut). By AI agents, Wed Nov 11 2026. No macro, syntax, notation, axiom, sorry.
-/
import Derived.Test.YthegkifhbgopoaaChecked
import GoSem.Claim
import GoSem.ClaimJoined
import GoSem.ClaimMapViews
import Derived.JoinedTies
import Derived.KernelRfl
namespace Go.Proofs.Ythegkifhbgopoaa
/- THE CELL 'sum', in the pinned program and in every row, IS THE sha256 OF THE DUMP (.gsa) THAT YthegkifhbgopoaaProg.lean LOADS. Nothing in Lean hashes anything: it is a label: what it is worth is what the hold of that sum in a sandbox is worth. -/
noncomputable def Try.pinned : Pinned := { name := "ythegkifhbgopoaa", sum := "a4c3ae758d18d7e747b1fd8bc758258a2156fa673f2d654196b0dcc962a9bf17", checked := Try.checked }
namespace Rows
def none {H : Type} : Left H := { results := [], args := [] }

/-- 'laws.FnExactIsOnCurveAt': WHATEVER THE INPUT: true; the input reads as it did. -/
def fnExactIsOnCurveAtSpec : ChangeSpec := { name := "fnExactIsOnCurveAt", fn := fun _ => fun
  | [d1, d2] => { results := [.lit (.bool true)], args := [d1, d2] }
  | _ => none }
def fnExactIsOnCurveAtRow : OpenClaim := { program := "ythegkifhbgopoaa", sum := "a4c3ae758d18d7e747b1fd8bc758258a2156fa673f2d654196b0dcc962a9bf17", func := "loop.example/g01056/laws.FnExactIsOnCurveAt", spec := "fnExactIsOnCurveAt", unfollowed := true, recurses := true, plainKeys := false, apart := false }
def FnExactIsOnCurveAtSaid : Prop := fnExactIsOnCurveAtRow.holds Try.pinned (OpenSpec.ofChange fnExactIsOnCurveAtSpec)

/-- ITS FALSE NEIGHBOUR: 'it returns false'. Refute it at one input. -/
def fnExactIsOnCurveAtWrong : ChangeSpec := { name := "fnExactIsOnCurveAt", fn := fun _ => fun
  | [d1, d2] => { results := [.lit (.bool false)], args := [d1, d2] }
  | _ => none }
def FnExactIsOnCurveAtWrongFalsely : Prop := fnExactIsOnCurveAtRow.holds Try.pinned (OpenSpec.ofChange fnExactIsOnCurveAtWrong)

/-- 'laws.FnExactPrimitiveRay': WHATEVER THE INPUT: true; the input reads as it did. -/
def fnExactPrimitiveRaySpec : ChangeSpec := { name := "fnExactPrimitiveRay", fn := fun _ => fun
  | [d1, d2] => { results := [.lit (.bool true)], args := [d1, d2] }
  | _ => none }
def fnExactPrimitiveRayRow : OpenClaim := { program := "ythegkifhbgopoaa", sum := "a4c3ae758d18d7e747b1fd8bc758258a2156fa673f2d654196b0dcc962a9bf17", func := "loop.example/g01056/laws.FnExactPrimitiveRay", spec := "fnExactPrimitiveRay", plainKeys := false, apart := false }
def FnExactPrimitiveRaySaid : Prop := fnExactPrimitiveRayRow.holds Try.pinned (OpenSpec.ofChange fnExactPrimitiveRaySpec)

/-- ITS FALSE NEIGHBOUR: 'it returns false'. Refute it at one input. -/
def fnExactPrimitiveRayWrong : ChangeSpec := { name := "fnExactPrimitiveRay", fn := fun _ => fun
  | [d1, d2] => { results := [.lit (.bool false)], args := [d1, d2] }
  | _ => none }
def FnExactPrimitiveRayWrongFalsely : Prop := fnExactPrimitiveRayRow.holds Try.pinned (OpenSpec.ofChange fnExactPrimitiveRayWrong)

/-- 'laws.FnExactIsStar': WHATEVER THE INPUT: true; the input reads as it did. -/
def fnExactIsStarSpec : ChangeSpec := { name := "fnExactIsStar", fn := fun _ => fun
  | [d] => { results := [.lit (.bool true)], args := [d] }
  | _ => none }
def fnExactIsStarRow : OpenClaim := { program := "ythegkifhbgopoaa", sum := "a4c3ae758d18d7e747b1fd8bc758258a2156fa673f2d654196b0dcc962a9bf17", func := "loop.example/g01056/laws.FnExactIsStar", spec := "fnExactIsStar", plainKeys := false, apart := false }
def FnExactIsStarSaid : Prop := fnExactIsStarRow.holds Try.pinned (OpenSpec.ofChange fnExactIsStarSpec)

/-- ITS FALSE NEIGHBOUR: 'it returns false'. Refute it at one input. -/
def fnExactIsStarWrong : ChangeSpec := { name := "fnExactIsStar", fn := fun _ => fun
  | [d] => { results := [.lit (.bool false)], args := [d] }
  | _ => none }
def FnExactIsStarWrongFalsely : Prop := fnExactIsStarRow.holds Try.pinned (OpenSpec.ofChange fnExactIsStarWrong)

/-- 'laws.FnExactStarSum': WHATEVER THE INPUT: true; the input reads as it did. -/
def fnExactStarSumSpec : ChangeSpec := { name := "fnExactStarSum", fn := fun _ => fun
  | [d] => { results := [.lit (.bool true)], args := [d] }
  | _ => none }
def fnExactStarSumRow : OpenClaim := { program := "ythegkifhbgopoaa", sum := "a4c3ae758d18d7e747b1fd8bc758258a2156fa673f2d654196b0dcc962a9bf17", func := "loop.example/g01056/laws.FnExactStarSum", spec := "fnExactStarSum", plainKeys := false, apart := false }
def FnExactStarSumSaid : Prop := fnExactStarSumRow.holds Try.pinned (OpenSpec.ofChange fnExactStarSumSpec)

/-- ITS FALSE NEIGHBOUR: 'it returns false'. Refute it at one input. -/
def fnExactStarSumWrong : ChangeSpec := { name := "fnExactStarSum", fn := fun _ => fun
  | [d] => { results := [.lit (.bool false)], args := [d] }
  | _ => none }
def FnExactStarSumWrongFalsely : Prop := fnExactStarSumRow.holds Try.pinned (OpenSpec.ofChange fnExactStarSumWrong)

/-- 'laws.FnExactIsBalanced': WHATEVER THE INPUT: true; the input reads as it did. -/
def fnExactIsBalancedSpec : ChangeSpec := { name := "fnExactIsBalanced", fn := fun _ => fun
  | [d] => { results := [.lit (.bool true)], args := [d] }
  | _ => none }
def fnExactIsBalancedRow : OpenClaim := { program := "ythegkifhbgopoaa", sum := "a4c3ae758d18d7e747b1fd8bc758258a2156fa673f2d654196b0dcc962a9bf17", func := "loop.example/g01056/laws.FnExactIsBalanced", spec := "fnExactIsBalanced", plainKeys := false, apart := false }
def FnExactIsBalancedSaid : Prop := fnExactIsBalancedRow.holds Try.pinned (OpenSpec.ofChange fnExactIsBalancedSpec)

/-- ITS FALSE NEIGHBOUR: 'it returns false'. Refute it at one input. -/
def fnExactIsBalancedWrong : ChangeSpec := { name := "fnExactIsBalanced", fn := fun _ => fun
  | [d] => { results := [.lit (.bool false)], args := [d] }
  | _ => none }
def FnExactIsBalancedWrongFalsely : Prop := fnExactIsBalancedRow.holds Try.pinned (OpenSpec.ofChange fnExactIsBalancedWrong)

/-- 'laws.FnExactMissingRay': WHATEVER THE INPUT: true; the input reads as it did. -/
def fnExactMissingRaySpec : ChangeSpec := { name := "fnExactMissingRay", fn := fun _ => fun
  | [d] => { results := [.lit (.bool true)], args := [d] }
  | _ => none }
def fnExactMissingRayRow : OpenClaim := { program := "ythegkifhbgopoaa", sum := "a4c3ae758d18d7e747b1fd8bc758258a2156fa673f2d654196b0dcc962a9bf17", func := "loop.example/g01056/laws.FnExactMissingRay", spec := "fnExactMissingRay", plainKeys := false, apart := false }
def FnExactMissingRaySaid : Prop := fnExactMissingRayRow.holds Try.pinned (OpenSpec.ofChange fnExactMissingRaySpec)

/-- ITS FALSE NEIGHBOUR: 'it returns false'. Refute it at one input. -/
def fnExactMissingRayWrong : ChangeSpec := { name := "fnExactMissingRay", fn := fun _ => fun
  | [d] => { results := [.lit (.bool false)], args := [d] }
  | _ => none }
def FnExactMissingRayWrongFalsely : Prop := fnExactMissingRayRow.holds Try.pinned (OpenSpec.ofChange fnExactMissingRayWrong)

/-- 'laws.FnExactAddStars': WHATEVER THE INPUT: true; the input reads as it did. -/
def fnExactAddStarsSpec : ChangeSpec := { name := "fnExactAddStars", fn := fun _ => fun
  | [d1, d2] => { results := [.lit (.bool true)], args := [d1, d2] }
  | _ => none }
def fnExactAddStarsRow : OpenClaim := { program := "ythegkifhbgopoaa", sum := "a4c3ae758d18d7e747b1fd8bc758258a2156fa673f2d654196b0dcc962a9bf17", func := "loop.example/g01056/laws.FnExactAddStars", spec := "fnExactAddStars", unfollowed := true, recurses := true, plainKeys := false, apart := false }
def FnExactAddStarsSaid : Prop := fnExactAddStarsRow.holds Try.pinned (OpenSpec.ofChange fnExactAddStarsSpec)

/-- ITS FALSE NEIGHBOUR: 'it returns false'. Refute it at one input. -/
def fnExactAddStarsWrong : ChangeSpec := { name := "fnExactAddStars", fn := fun _ => fun
  | [d1, d2] => { results := [.lit (.bool false)], args := [d1, d2] }
  | _ => none }
def FnExactAddStarsWrongFalsely : Prop := fnExactAddStarsRow.holds Try.pinned (OpenSpec.ofChange fnExactAddStarsWrong)

/-- 'laws.FnExactScaleStar': WHATEVER THE INPUT: true; the input reads as it did. -/
def fnExactScaleStarSpec : ChangeSpec := { name := "fnExactScaleStar", fn := fun _ => fun
  | [d1, d2] => { results := [.lit (.bool true)], args := [d1, d2] }
  | _ => none }
def fnExactScaleStarRow : OpenClaim := { program := "ythegkifhbgopoaa", sum := "a4c3ae758d18d7e747b1fd8bc758258a2156fa673f2d654196b0dcc962a9bf17", func := "loop.example/g01056/laws.FnExactScaleStar", spec := "fnExactScaleStar", unfollowed := true, recurses := true, plainKeys := false, apart := false }
def FnExactScaleStarSaid : Prop := fnExactScaleStarRow.holds Try.pinned (OpenSpec.ofChange fnExactScaleStarSpec)

/-- ITS FALSE NEIGHBOUR: 'it returns false'. Refute it at one input. -/
def fnExactScaleStarWrong : ChangeSpec := { name := "fnExactScaleStar", fn := fun _ => fun
  | [d1, d2] => { results := [.lit (.bool false)], args := [d1, d2] }
  | _ => none }
def FnExactScaleStarWrongFalsely : Prop := fnExactScaleStarRow.holds Try.pinned (OpenSpec.ofChange fnExactScaleStarWrong)

/-- 'laws.FnExactMapStar': WHATEVER THE INPUT: true; the input reads as it did. -/
def fnExactMapStarSpec : ChangeSpec := { name := "fnExactMapStar", fn := fun _ => fun
  | [d1, d2, d3, d4, d5] => { results := [.lit (.bool true)], args := [d1, d2, d3, d4, d5] }
  | _ => none }
def fnExactMapStarRow : OpenClaim := { program := "ythegkifhbgopoaa", sum := "a4c3ae758d18d7e747b1fd8bc758258a2156fa673f2d654196b0dcc962a9bf17", func := "loop.example/g01056/laws.FnExactMapStar", spec := "fnExactMapStar", unfollowed := true, recurses := true, plainKeys := false, apart := false }
def FnExactMapStarSaid : Prop := fnExactMapStarRow.holds Try.pinned (OpenSpec.ofChange fnExactMapStarSpec)

/-- ITS FALSE NEIGHBOUR: 'it returns false'. Refute it at one input. -/
def fnExactMapStarWrong : ChangeSpec := { name := "fnExactMapStar", fn := fun _ => fun
  | [d1, d2, d3, d4, d5] => { results := [.lit (.bool false)], args := [d1, d2, d3, d4, d5] }
  | _ => none }
def FnExactMapStarWrongFalsely : Prop := fnExactMapStarRow.holds Try.pinned (OpenSpec.ofChange fnExactMapStarWrong)

/-- 'laws.FnExactSupportOf': WHATEVER THE INPUT: true; the input reads as it did. -/
def fnExactSupportOfSpec : ChangeSpec := { name := "fnExactSupportOf", fn := fun _ => fun
  | [d1, d2, d3] => { results := [.lit (.bool true)], args := [d1, d2, d3] }
  | _ => none }
def fnExactSupportOfRow : OpenClaim := { program := "ythegkifhbgopoaa", sum := "a4c3ae758d18d7e747b1fd8bc758258a2156fa673f2d654196b0dcc962a9bf17", func := "loop.example/g01056/laws.FnExactSupportOf", spec := "fnExactSupportOf", plainKeys := false, apart := false }
def FnExactSupportOfSaid : Prop := fnExactSupportOfRow.holds Try.pinned (OpenSpec.ofChange fnExactSupportOfSpec)

/-- ITS FALSE NEIGHBOUR: 'it returns false'. Refute it at one input. -/
def fnExactSupportOfWrong : ChangeSpec := { name := "fnExactSupportOf", fn := fun _ => fun
  | [d1, d2, d3] => { results := [.lit (.bool false)], args := [d1, d2, d3] }
  | _ => none }
def FnExactSupportOfWrongFalsely : Prop := fnExactSupportOfRow.holds Try.pinned (OpenSpec.ofChange fnExactSupportOfWrong)

/-- 'laws.FnExactDualPolygon': WHATEVER THE INPUT: true; the input reads as it did. -/
def fnExactDualPolygonSpec : ChangeSpec := { name := "fnExactDualPolygon", fn := fun _ => fun
  | [d] => { results := [.lit (.bool true)], args := [d] }
  | _ => none }
def fnExactDualPolygonRow : OpenClaim := { program := "ythegkifhbgopoaa", sum := "a4c3ae758d18d7e747b1fd8bc758258a2156fa673f2d654196b0dcc962a9bf17", func := "loop.example/g01056/laws.FnExactDualPolygon", spec := "fnExactDualPolygon", unfollowed := true, recurses := true, plainKeys := false, apart := false }
def FnExactDualPolygonSaid : Prop := fnExactDualPolygonRow.holds Try.pinned (OpenSpec.ofChange fnExactDualPolygonSpec)

/-- ITS FALSE NEIGHBOUR: 'it returns false'. Refute it at one input. -/
def fnExactDualPolygonWrong : ChangeSpec := { name := "fnExactDualPolygon", fn := fun _ => fun
  | [d] => { results := [.lit (.bool false)], args := [d] }
  | _ => none }
def FnExactDualPolygonWrongFalsely : Prop := fnExactDualPolygonRow.holds Try.pinned (OpenSpec.ofChange fnExactDualPolygonWrong)

/- THE SECOND FORM. 'bulk': how many values and letters a reading holds, each counted each time it is reached (what is shared counts as often as it is met; a slice's spare places count too). A statement '..UptoSaid' is the law's where the arguments, and the package variables that the reading takes, are together of bulk at most 1048576: NARROWER than '..Said'. Prove '..Said' where nothing that the law and all that it calls make is longer than what came in: it says more and counts as full. Else prove '..UptoSaid'. A law counts once. -/
mutual
def uptoBulk {H : Type} : DataW H → Nat
  | .lit (.string bytes) => bytes.length + 1
  | .lit _ => 1
  | .nil => 1
  | .ptr d => uptoBulk d + 1
  | .slice elems spare => uptoBulkAll elems + uptoBulkAll spare + 1
  | .agg parts => uptoBulkAll parts + 1
  | .iface _ d => uptoBulk d + 1
  | .map entries => uptoBulkEntries entries + 1
  | .held _ => 1
def uptoBulkAll {H : Type} : List (DataW H) → Nat
  | [] => 0
  | d :: r => uptoBulk d + uptoBulkAll r
def uptoBulkEntries {H : Type} : List (Lit × DataW H) → Nat
  | [] => 0
  | x :: r => uptoBulkEntry x + uptoBulkEntries r
def uptoBulkEntry {H : Type} : Lit × DataW H → Nat
  | (.string bytes, d) => bytes.length + uptoBulk d + 1
  | (_, d) => uptoBulk d + 1
 end
def uptoSmall : (H : Type) → List (DataW H) → Bool := fun _ ds => decide (uptoBulkAll ds ≤ 1048576)
def OpenSpec.upto (s : _root_.Go.ChangeSpec) : _root_.Go.OpenSpec := { _root_.Go.OpenSpec.ofChange s with cond := some uptoSmall }

/-- 'laws.FnExactIsOnCurveAt', WHERE WHAT IT READS IS OF BULK AT MOST 1048576: true; the input reads as it did. -/
def fnExactIsOnCurveAtUptoRow : OpenClaim := { program := "ythegkifhbgopoaa", sum := "a4c3ae758d18d7e747b1fd8bc758258a2156fa673f2d654196b0dcc962a9bf17", func := "loop.example/g01056/laws.FnExactIsOnCurveAt", spec := "fnExactIsOnCurveAt", unfollowed := true, recurses := true, plainKeys := false, apart := false, narrowed := true }
def FnExactIsOnCurveAtUptoSaid : Prop := fnExactIsOnCurveAtUptoRow.holds Try.pinned (OpenSpec.upto fnExactIsOnCurveAtSpec)

/-- 'laws.FnExactPrimitiveRay', WHERE WHAT IT READS IS OF BULK AT MOST 1048576: true; the input reads as it did. -/
def fnExactPrimitiveRayUptoRow : OpenClaim := { program := "ythegkifhbgopoaa", sum := "a4c3ae758d18d7e747b1fd8bc758258a2156fa673f2d654196b0dcc962a9bf17", func := "loop.example/g01056/laws.FnExactPrimitiveRay", spec := "fnExactPrimitiveRay", plainKeys := false, apart := false, narrowed := true }
def FnExactPrimitiveRayUptoSaid : Prop := fnExactPrimitiveRayUptoRow.holds Try.pinned (OpenSpec.upto fnExactPrimitiveRaySpec)

/-- 'laws.FnExactIsStar', WHERE WHAT IT READS IS OF BULK AT MOST 1048576: true; the input reads as it did. -/
def fnExactIsStarUptoRow : OpenClaim := { program := "ythegkifhbgopoaa", sum := "a4c3ae758d18d7e747b1fd8bc758258a2156fa673f2d654196b0dcc962a9bf17", func := "loop.example/g01056/laws.FnExactIsStar", spec := "fnExactIsStar", plainKeys := false, apart := false, narrowed := true }
def FnExactIsStarUptoSaid : Prop := fnExactIsStarUptoRow.holds Try.pinned (OpenSpec.upto fnExactIsStarSpec)

/-- 'laws.FnExactStarSum', WHERE WHAT IT READS IS OF BULK AT MOST 1048576: true; the input reads as it did. -/
def fnExactStarSumUptoRow : OpenClaim := { program := "ythegkifhbgopoaa", sum := "a4c3ae758d18d7e747b1fd8bc758258a2156fa673f2d654196b0dcc962a9bf17", func := "loop.example/g01056/laws.FnExactStarSum", spec := "fnExactStarSum", plainKeys := false, apart := false, narrowed := true }
def FnExactStarSumUptoSaid : Prop := fnExactStarSumUptoRow.holds Try.pinned (OpenSpec.upto fnExactStarSumSpec)

/-- 'laws.FnExactIsBalanced', WHERE WHAT IT READS IS OF BULK AT MOST 1048576: true; the input reads as it did. -/
def fnExactIsBalancedUptoRow : OpenClaim := { program := "ythegkifhbgopoaa", sum := "a4c3ae758d18d7e747b1fd8bc758258a2156fa673f2d654196b0dcc962a9bf17", func := "loop.example/g01056/laws.FnExactIsBalanced", spec := "fnExactIsBalanced", plainKeys := false, apart := false, narrowed := true }
def FnExactIsBalancedUptoSaid : Prop := fnExactIsBalancedUptoRow.holds Try.pinned (OpenSpec.upto fnExactIsBalancedSpec)

/-- 'laws.FnExactMissingRay', WHERE WHAT IT READS IS OF BULK AT MOST 1048576: true; the input reads as it did. -/
def fnExactMissingRayUptoRow : OpenClaim := { program := "ythegkifhbgopoaa", sum := "a4c3ae758d18d7e747b1fd8bc758258a2156fa673f2d654196b0dcc962a9bf17", func := "loop.example/g01056/laws.FnExactMissingRay", spec := "fnExactMissingRay", plainKeys := false, apart := false, narrowed := true }
def FnExactMissingRayUptoSaid : Prop := fnExactMissingRayUptoRow.holds Try.pinned (OpenSpec.upto fnExactMissingRaySpec)

/-- 'laws.FnExactAddStars', WHERE WHAT IT READS IS OF BULK AT MOST 1048576: true; the input reads as it did. -/
def fnExactAddStarsUptoRow : OpenClaim := { program := "ythegkifhbgopoaa", sum := "a4c3ae758d18d7e747b1fd8bc758258a2156fa673f2d654196b0dcc962a9bf17", func := "loop.example/g01056/laws.FnExactAddStars", spec := "fnExactAddStars", unfollowed := true, recurses := true, plainKeys := false, apart := false, narrowed := true }
def FnExactAddStarsUptoSaid : Prop := fnExactAddStarsUptoRow.holds Try.pinned (OpenSpec.upto fnExactAddStarsSpec)

/-- 'laws.FnExactScaleStar', WHERE WHAT IT READS IS OF BULK AT MOST 1048576: true; the input reads as it did. -/
def fnExactScaleStarUptoRow : OpenClaim := { program := "ythegkifhbgopoaa", sum := "a4c3ae758d18d7e747b1fd8bc758258a2156fa673f2d654196b0dcc962a9bf17", func := "loop.example/g01056/laws.FnExactScaleStar", spec := "fnExactScaleStar", unfollowed := true, recurses := true, plainKeys := false, apart := false, narrowed := true }
def FnExactScaleStarUptoSaid : Prop := fnExactScaleStarUptoRow.holds Try.pinned (OpenSpec.upto fnExactScaleStarSpec)

/-- 'laws.FnExactMapStar', WHERE WHAT IT READS IS OF BULK AT MOST 1048576: true; the input reads as it did. -/
def fnExactMapStarUptoRow : OpenClaim := { program := "ythegkifhbgopoaa", sum := "a4c3ae758d18d7e747b1fd8bc758258a2156fa673f2d654196b0dcc962a9bf17", func := "loop.example/g01056/laws.FnExactMapStar", spec := "fnExactMapStar", unfollowed := true, recurses := true, plainKeys := false, apart := false, narrowed := true }
def FnExactMapStarUptoSaid : Prop := fnExactMapStarUptoRow.holds Try.pinned (OpenSpec.upto fnExactMapStarSpec)

/-- 'laws.FnExactSupportOf', WHERE WHAT IT READS IS OF BULK AT MOST 1048576: true; the input reads as it did. -/
def fnExactSupportOfUptoRow : OpenClaim := { program := "ythegkifhbgopoaa", sum := "a4c3ae758d18d7e747b1fd8bc758258a2156fa673f2d654196b0dcc962a9bf17", func := "loop.example/g01056/laws.FnExactSupportOf", spec := "fnExactSupportOf", plainKeys := false, apart := false, narrowed := true }
def FnExactSupportOfUptoSaid : Prop := fnExactSupportOfUptoRow.holds Try.pinned (OpenSpec.upto fnExactSupportOfSpec)

/-- 'laws.FnExactDualPolygon', WHERE WHAT IT READS IS OF BULK AT MOST 1048576: true; the input reads as it did. -/
def fnExactDualPolygonUptoRow : OpenClaim := { program := "ythegkifhbgopoaa", sum := "a4c3ae758d18d7e747b1fd8bc758258a2156fa673f2d654196b0dcc962a9bf17", func := "loop.example/g01056/laws.FnExactDualPolygon", spec := "fnExactDualPolygon", unfollowed := true, recurses := true, plainKeys := false, apart := false, narrowed := true }
def FnExactDualPolygonUptoSaid : Prop := fnExactDualPolygonUptoRow.holds Try.pinned (OpenSpec.upto fnExactDualPolygonSpec)

end Rows
end Go.Proofs.Ythegkifhbgopoaa

/-
  No cell of these rows narrows 'for every input' (looked for: loops, veiled, ifaces, maps, wideKeys, modest, calm, conditions, laid).
  DERIVED. THE GIVEN ROWS OF THIS SEAT. 9 by the template 'for every input the law returns true; each argument reads behind the call as it read before'; 0 by the template 'total and deterministic' (their statements: YtinijfkidjakpaaTotals.lean).
  GIVEN WITH THE SEED: the statements are not yours to turn. If you find one false, say at which input.
  Laid BY PROGRAM, IN A SANDBOX (cutbox-rows.mjs): the forced cells as the released guide's own fill.sh prints them over the translation 2566e74240e40d93… (all of the seat's roots in one cut). By AI agents, Wed Nov 11 2026. No macro, syntax, notation, axiom, sorry.
-/
import Derived.Test.YtinijfkidjakpaaChecked
import GoSem.Claim
import GoSem.ClaimJoined
import GoSem.ClaimMapViews
import Derived.JoinedTies
import Derived.KernelRfl
namespace Go.Proofs.Ytinijfkidjakpaa
/- THE CELL 'sum', in the pinned program and in every row, IS THE sha256 OF THE DUMP (.gsa) THAT YtinijfkidjakpaaProg.lean LOADS. Nothing in Lean hashes anything: it is a label: what it is worth is what the hold of that sum in a sandbox is worth. -/
noncomputable def Try.pinned : Pinned := { name := "ytinijfkidjakpaa", sum := "2566e74240e40d932dbdf8deda95abd8cf96d75faf16fc9306ea1921bc491e02", checked := Try.checked }
namespace Rows
def none {H : Type} : Left H := { results := [], args := [] }

/-- 'laws.FnExactCornersOf': WHATEVER THE INPUT: true; the input reads as it did. -/
def fnExactCornersOfSpec : ChangeSpec := { name := "fnExactCornersOf", fn := fun _ => fun
  | [d] => { results := [.lit (.bool true)], args := [d] }
  | _ => none }
def fnExactCornersOfRow : OpenClaim := { program := "ytinijfkidjakpaa", sum := "2566e74240e40d932dbdf8deda95abd8cf96d75faf16fc9306ea1921bc491e02", func := "loop.example/g01056/laws.FnExactCornersOf", spec := "fnExactCornersOf", unfollowed := true, recurses := true, apart := false }
def FnExactCornersOfSaid : Prop := fnExactCornersOfRow.holds Try.pinned (OpenSpec.ofChange fnExactCornersOfSpec)

/-- ITS FALSE NEIGHBOUR: 'it returns false'. Refute it at one input. -/
def fnExactCornersOfWrong : ChangeSpec := { name := "fnExactCornersOf", fn := fun _ => fun
  | [d] => { results := [.lit (.bool false)], args := [d] }
  | _ => none }
def FnExactCornersOfWrongFalsely : Prop := fnExactCornersOfRow.holds Try.pinned (OpenSpec.ofChange fnExactCornersOfWrong)

/-- 'laws.FnExactRootsOf': WHATEVER THE INPUT: true; the input reads as it did. -/
def fnExactRootsOfSpec : ChangeSpec := { name := "fnExactRootsOf", fn := fun _ => fun
  | [d] => { results := [.lit (.bool true)], args := [d] }
  | _ => none }
def fnExactRootsOfRow : OpenClaim := { program := "ytinijfkidjakpaa", sum := "2566e74240e40d932dbdf8deda95abd8cf96d75faf16fc9306ea1921bc491e02", func := "loop.example/g01056/laws.FnExactRootsOf", spec := "fnExactRootsOf", unfollowed := true, recurses := true, apart := false }
def FnExactRootsOfSaid : Prop := fnExactRootsOfRow.holds Try.pinned (OpenSpec.ofChange fnExactRootsOfSpec)

/-- ITS FALSE NEIGHBOUR: 'it returns false'. Refute it at one input. -/
def fnExactRootsOfWrong : ChangeSpec := { name := "fnExactRootsOf", fn := fun _ => fun
  | [d] => { results := [.lit (.bool false)], args := [d] }
  | _ => none }
def FnExactRootsOfWrongFalsely : Prop := fnExactRootsOfRow.holds Try.pinned (OpenSpec.ofChange fnExactRootsOfWrong)

/-- 'laws.FnExactTimesOfRoot': WHATEVER THE INPUT: true; the input reads as it did. -/
def fnExactTimesOfRootSpec : ChangeSpec := { name := "fnExactTimesOfRoot", fn := fun _ => fun
  | [d1, d2] => { results := [.lit (.bool true)], args := [d1, d2] }
  | _ => none }
def fnExactTimesOfRootRow : OpenClaim := { program := "ytinijfkidjakpaa", sum := "2566e74240e40d932dbdf8deda95abd8cf96d75faf16fc9306ea1921bc491e02", func := "loop.example/g01056/laws.FnExactTimesOfRoot", spec := "fnExactTimesOfRoot", unfollowed := true, recurses := true, apart := false }
def FnExactTimesOfRootSaid : Prop := fnExactTimesOfRootRow.holds Try.pinned (OpenSpec.ofChange fnExactTimesOfRootSpec)

/-- ITS FALSE NEIGHBOUR: 'it returns false'. Refute it at one input. -/
def fnExactTimesOfRootWrong : ChangeSpec := { name := "fnExactTimesOfRoot", fn := fun _ => fun
  | [d1, d2] => { results := [.lit (.bool false)], args := [d1, d2] }
  | _ => none }
def FnExactTimesOfRootWrongFalsely : Prop := fnExactTimesOfRootRow.holds Try.pinned (OpenSpec.ofChange fnExactTimesOfRootWrong)

/-- 'laws.FnExactValueAtFrac': WHATEVER THE INPUT: true; the input reads as it did. -/
def fnExactValueAtFracSpec : ChangeSpec := { name := "fnExactValueAtFrac", fn := fun _ => fun
  | [d1, d2] => { results := [.lit (.bool true)], args := [d1, d2] }
  | _ => none }
def fnExactValueAtFracRow : OpenClaim := { program := "ytinijfkidjakpaa", sum := "2566e74240e40d932dbdf8deda95abd8cf96d75faf16fc9306ea1921bc491e02", func := "loop.example/g01056/laws.FnExactValueAtFrac", spec := "fnExactValueAtFrac", unfollowed := true, recurses := true, apart := false }
def FnExactValueAtFracSaid : Prop := fnExactValueAtFracRow.holds Try.pinned (OpenSpec.ofChange fnExactValueAtFracSpec)

/-- ITS FALSE NEIGHBOUR: 'it returns false'. Refute it at one input. -/
def fnExactValueAtFracWrong : ChangeSpec := { name := "fnExactValueAtFrac", fn := fun _ => fun
  | [d1, d2] => { results := [.lit (.bool false)], args := [d1, d2] }
  | _ => none }
def FnExactValueAtFracWrongFalsely : Prop := fnExactValueAtFracRow.holds Try.pinned (OpenSpec.ofChange fnExactValueAtFracWrong)

/-- 'laws.FnExactValueByRoots': WHATEVER THE INPUT: true; the input reads as it did. -/
def fnExactValueByRootsSpec : ChangeSpec := { name := "fnExactValueByRoots", fn := fun _ => fun
  | [d1, d2] => { results := [.lit (.bool true)], args := [d1, d2] }
  | _ => none }
def fnExactValueByRootsRow : OpenClaim := { program := "ytinijfkidjakpaa", sum := "2566e74240e40d932dbdf8deda95abd8cf96d75faf16fc9306ea1921bc491e02", func := "loop.example/g01056/laws.FnExactValueByRoots", spec := "fnExactValueByRoots", unfollowed := true, recurses := true, apart := false }
def FnExactValueByRootsSaid : Prop := fnExactValueByRootsRow.holds Try.pinned (OpenSpec.ofChange fnExactValueByRootsSpec)

/-- ITS FALSE NEIGHBOUR: 'it returns false'. Refute it at one input. -/
def fnExactValueByRootsWrong : ChangeSpec := { name := "fnExactValueByRoots", fn := fun _ => fun
  | [d1, d2] => { results := [.lit (.bool false)], args := [d1, d2] }
  | _ => none }
def FnExactValueByRootsWrongFalsely : Prop := fnExactValueByRootsRow.holds Try.pinned (OpenSpec.ofChange fnExactValueByRootsWrong)

/-- 'laws.FnExactNeedlessTerms': WHATEVER THE INPUT: true; the input reads as it did. -/
def fnExactNeedlessTermsSpec : ChangeSpec := { name := "fnExactNeedlessTerms", fn := fun _ => fun
  | [d] => { results := [.lit (.bool true)], args := [d] }
  | _ => none }
def fnExactNeedlessTermsRow : OpenClaim := { program := "ytinijfkidjakpaa", sum := "2566e74240e40d932dbdf8deda95abd8cf96d75faf16fc9306ea1921bc491e02", func := "loop.example/g01056/laws.FnExactNeedlessTerms", spec := "fnExactNeedlessTerms", unfollowed := true, recurses := true, apart := false }
def FnExactNeedlessTermsSaid : Prop := fnExactNeedlessTermsRow.holds Try.pinned (OpenSpec.ofChange fnExactNeedlessTermsSpec)

/-- ITS FALSE NEIGHBOUR: 'it returns false'. Refute it at one input. -/
def fnExactNeedlessTermsWrong : ChangeSpec := { name := "fnExactNeedlessTerms", fn := fun _ => fun
  | [d] => { results := [.lit (.bool false)], args := [d] }
  | _ => none }
def FnExactNeedlessTermsWrongFalsely : Prop := fnExactNeedlessTermsRow.holds Try.pinned (OpenSpec.ofChange fnExactNeedlessTermsWrong)

/-- 'laws.FnExactLeastCoefficients': WHATEVER THE INPUT: true; the input reads as it did. -/
def fnExactLeastCoefficientsSpec : ChangeSpec := { name := "fnExactLeastCoefficients", fn := fun _ => fun
  | [d] => { results := [.lit (.bool true)], args := [d] }
  | _ => none }
def fnExactLeastCoefficientsRow : OpenClaim := { program := "ytinijfkidjakpaa", sum := "2566e74240e40d932dbdf8deda95abd8cf96d75faf16fc9306ea1921bc491e02", func := "loop.example/g01056/laws.FnExactLeastCoefficients", spec := "fnExactLeastCoefficients", unfollowed := true, recurses := true, apart := false }
def FnExactLeastCoefficientsSaid : Prop := fnExactLeastCoefficientsRow.holds Try.pinned (OpenSpec.ofChange fnExactLeastCoefficientsSpec)

/-- ITS FALSE NEIGHBOUR: 'it returns false'. Refute it at one input. -/
def fnExactLeastCoefficientsWrong : ChangeSpec := { name := "fnExactLeastCoefficients", fn := fun _ => fun
  | [d] => { results := [.lit (.bool false)], args := [d] }
  | _ => none }
def FnExactLeastCoefficientsWrongFalsely : Prop := fnExactLeastCoefficientsRow.holds Try.pinned (OpenSpec.ofChange fnExactLeastCoefficientsWrong)

/-- 'laws.FnExactSameFunction': WHATEVER THE INPUT: true; the input reads as it did. -/
def fnExactSameFunctionSpec : ChangeSpec := { name := "fnExactSameFunction", fn := fun _ => fun
  | [d1, d2] => { results := [.lit (.bool true)], args := [d1, d2] }
  | _ => none }
def fnExactSameFunctionRow : OpenClaim := { program := "ytinijfkidjakpaa", sum := "2566e74240e40d932dbdf8deda95abd8cf96d75faf16fc9306ea1921bc491e02", func := "loop.example/g01056/laws.FnExactSameFunction", spec := "fnExactSameFunction", unfollowed := true, recurses := true, apart := false }
def FnExactSameFunctionSaid : Prop := fnExactSameFunctionRow.holds Try.pinned (OpenSpec.ofChange fnExactSameFunctionSpec)

/-- ITS FALSE NEIGHBOUR: 'it returns false'. Refute it at one input. -/
def fnExactSameFunctionWrong : ChangeSpec := { name := "fnExactSameFunction", fn := fun _ => fun
  | [d1, d2] => { results := [.lit (.bool false)], args := [d1, d2] }
  | _ => none }
def FnExactSameFunctionWrongFalsely : Prop := fnExactSameFunctionRow.holds Try.pinned (OpenSpec.ofChange fnExactSameFunctionWrong)

/-- 'laws.FnExactPolyFromRoots': WHATEVER THE INPUT: true; the input reads as it did. -/
def fnExactPolyFromRootsSpec : ChangeSpec := { name := "fnExactPolyFromRoots", fn := fun _ => fun
  | [d1, d2] => { results := [.lit (.bool true)], args := [d1, d2] }
  | _ => none }
def fnExactPolyFromRootsRow : OpenClaim := { program := "ytinijfkidjakpaa", sum := "2566e74240e40d932dbdf8deda95abd8cf96d75faf16fc9306ea1921bc491e02", func := "loop.example/g01056/laws.FnExactPolyFromRoots", spec := "fnExactPolyFromRoots", recurses := true, apart := false }
def FnExactPolyFromRootsSaid : Prop := fnExactPolyFromRootsRow.holds Try.pinned (OpenSpec.ofChange fnExactPolyFromRootsSpec)

/-- ITS FALSE NEIGHBOUR: 'it returns false'. Refute it at one input. -/
def fnExactPolyFromRootsWrong : ChangeSpec := { name := "fnExactPolyFromRoots", fn := fun _ => fun
  | [d1, d2] => { results := [.lit (.bool false)], args := [d1, d2] }
  | _ => none }
def FnExactPolyFromRootsWrongFalsely : Prop := fnExactPolyFromRootsRow.holds Try.pinned (OpenSpec.ofChange fnExactPolyFromRootsWrong)

/- THE SECOND FORM. 'bulk': how many values and letters a reading holds, each counted each time it is reached (what is shared counts as often as it is met; a slice's spare places count too). A statement '..UptoSaid' is the law's where the arguments, and the package variables that the reading takes, are together of bulk at most 1048576: NARROWER than '..Said'. Prove '..Said' where nothing that the law and all that it calls make is longer than what came in: it says more and counts as full. Else prove '..UptoSaid'. A law counts once. -/
mutual
def uptoBulk {H : Type} : DataW H → Nat
  | .lit (.string bytes) => bytes.length + 1
  | .lit _ => 1
  | .nil => 1
  | .ptr d => uptoBulk d + 1
  | .slice elems spare => uptoBulkAll elems + uptoBulkAll spare + 1
  | .agg parts => uptoBulkAll parts + 1
  | .iface _ d => uptoBulk d + 1
  | .map entries => uptoBulkEntries entries + 1
  | .held _ => 1
def uptoBulkAll {H : Type} : List (DataW H) → Nat
  | [] => 0
  | d :: r => uptoBulk d + uptoBulkAll r
def uptoBulkEntries {H : Type} : List (Lit × DataW H) → Nat
  | [] => 0
  | x :: r => uptoBulkEntry x + uptoBulkEntries r
def uptoBulkEntry {H : Type} : Lit × DataW H → Nat
  | (.string bytes, d) => bytes.length + uptoBulk d + 1
  | (_, d) => uptoBulk d + 1
 end
def uptoSmall : (H : Type) → List (DataW H) → Bool := fun _ ds => decide (uptoBulkAll ds ≤ 1048576)
def OpenSpec.upto (s : _root_.Go.ChangeSpec) : _root_.Go.OpenSpec := { _root_.Go.OpenSpec.ofChange s with cond := some uptoSmall }

/-- 'laws.FnExactCornersOf', WHERE WHAT IT READS IS OF BULK AT MOST 1048576: true; the input reads as it did. -/
def fnExactCornersOfUptoRow : OpenClaim := { program := "ytinijfkidjakpaa", sum := "2566e74240e40d932dbdf8deda95abd8cf96d75faf16fc9306ea1921bc491e02", func := "loop.example/g01056/laws.FnExactCornersOf", spec := "fnExactCornersOf", unfollowed := true, recurses := true, apart := false, narrowed := true }
def FnExactCornersOfUptoSaid : Prop := fnExactCornersOfUptoRow.holds Try.pinned (OpenSpec.upto fnExactCornersOfSpec)

/-- 'laws.FnExactRootsOf', WHERE WHAT IT READS IS OF BULK AT MOST 1048576: true; the input reads as it did. -/
def fnExactRootsOfUptoRow : OpenClaim := { program := "ytinijfkidjakpaa", sum := "2566e74240e40d932dbdf8deda95abd8cf96d75faf16fc9306ea1921bc491e02", func := "loop.example/g01056/laws.FnExactRootsOf", spec := "fnExactRootsOf", unfollowed := true, recurses := true, apart := false, narrowed := true }
def FnExactRootsOfUptoSaid : Prop := fnExactRootsOfUptoRow.holds Try.pinned (OpenSpec.upto fnExactRootsOfSpec)

/-- 'laws.FnExactTimesOfRoot', WHERE WHAT IT READS IS OF BULK AT MOST 1048576: true; the input reads as it did. -/
def fnExactTimesOfRootUptoRow : OpenClaim := { program := "ytinijfkidjakpaa", sum := "2566e74240e40d932dbdf8deda95abd8cf96d75faf16fc9306ea1921bc491e02", func := "loop.example/g01056/laws.FnExactTimesOfRoot", spec := "fnExactTimesOfRoot", unfollowed := true, recurses := true, apart := false, narrowed := true }
def FnExactTimesOfRootUptoSaid : Prop := fnExactTimesOfRootUptoRow.holds Try.pinned (OpenSpec.upto fnExactTimesOfRootSpec)

/-- 'laws.FnExactValueAtFrac', WHERE WHAT IT READS IS OF BULK AT MOST 1048576: true; the input reads as it did. -/
def fnExactValueAtFracUptoRow : OpenClaim := { program := "ytinijfkidjakpaa", sum := "2566e74240e40d932dbdf8deda95abd8cf96d75faf16fc9306ea1921bc491e02", func := "loop.example/g01056/laws.FnExactValueAtFrac", spec := "fnExactValueAtFrac", unfollowed := true, recurses := true, apart := false, narrowed := true }
def FnExactValueAtFracUptoSaid : Prop := fnExactValueAtFracUptoRow.holds Try.pinned (OpenSpec.upto fnExactValueAtFracSpec)

/-- 'laws.FnExactValueByRoots', WHERE WHAT IT READS IS OF BULK AT MOST 1048576: true; the input reads as it did. -/
def fnExactValueByRootsUptoRow : OpenClaim := { program := "ytinijfkidjakpaa", sum := "2566e74240e40d932dbdf8deda95abd8cf96d75faf16fc9306ea1921bc491e02", func := "loop.example/g01056/laws.FnExactValueByRoots", spec := "fnExactValueByRoots", unfollowed := true, recurses := true, apart := false, narrowed := true }
def FnExactValueByRootsUptoSaid : Prop := fnExactValueByRootsUptoRow.holds Try.pinned (OpenSpec.upto fnExactValueByRootsSpec)

/-- 'laws.FnExactNeedlessTerms', WHERE WHAT IT READS IS OF BULK AT MOST 1048576: true; the input reads as it did. -/
def fnExactNeedlessTermsUptoRow : OpenClaim := { program := "ytinijfkidjakpaa", sum := "2566e74240e40d932dbdf8deda95abd8cf96d75faf16fc9306ea1921bc491e02", func := "loop.example/g01056/laws.FnExactNeedlessTerms", spec := "fnExactNeedlessTerms", unfollowed := true, recurses := true, apart := false, narrowed := true }
def FnExactNeedlessTermsUptoSaid : Prop := fnExactNeedlessTermsUptoRow.holds Try.pinned (OpenSpec.upto fnExactNeedlessTermsSpec)

/-- 'laws.FnExactLeastCoefficients', WHERE WHAT IT READS IS OF BULK AT MOST 1048576: true; the input reads as it did. -/
def fnExactLeastCoefficientsUptoRow : OpenClaim := { program := "ytinijfkidjakpaa", sum := "2566e74240e40d932dbdf8deda95abd8cf96d75faf16fc9306ea1921bc491e02", func := "loop.example/g01056/laws.FnExactLeastCoefficients", spec := "fnExactLeastCoefficients", unfollowed := true, recurses := true, apart := false, narrowed := true }
def FnExactLeastCoefficientsUptoSaid : Prop := fnExactLeastCoefficientsUptoRow.holds Try.pinned (OpenSpec.upto fnExactLeastCoefficientsSpec)

/-- 'laws.FnExactSameFunction', WHERE WHAT IT READS IS OF BULK AT MOST 1048576: true; the input reads as it did. -/
def fnExactSameFunctionUptoRow : OpenClaim := { program := "ytinijfkidjakpaa", sum := "2566e74240e40d932dbdf8deda95abd8cf96d75faf16fc9306ea1921bc491e02", func := "loop.example/g01056/laws.FnExactSameFunction", spec := "fnExactSameFunction", unfollowed := true, recurses := true, apart := false, narrowed := true }
def FnExactSameFunctionUptoSaid : Prop := fnExactSameFunctionUptoRow.holds Try.pinned (OpenSpec.upto fnExactSameFunctionSpec)

/-- 'laws.FnExactPolyFromRoots', WHERE WHAT IT READS IS OF BULK AT MOST 1048576: true; the input reads as it did. -/
def fnExactPolyFromRootsUptoRow : OpenClaim := { program := "ytinijfkidjakpaa", sum := "2566e74240e40d932dbdf8deda95abd8cf96d75faf16fc9306ea1921bc491e02", func := "loop.example/g01056/laws.FnExactPolyFromRoots", spec := "fnExactPolyFromRoots", recurses := true, apart := false, narrowed := true }
def FnExactPolyFromRootsUptoSaid : Prop := fnExactPolyFromRootsUptoRow.holds Try.pinned (OpenSpec.upto fnExactPolyFromRootsSpec)

end Rows
end Go.Proofs.Ytinijfkidjakpaa

/-
  No cell of these rows narrows 'for every input' (looked for: loops, veiled, ifaces, maps, wideKeys, modest, calm, conditions, laid).
  DERIVED. THE GIVEN ROWS OF THIS SEAT. 9 by the template 'for every input the law returns true; each argument reads behind the call as it read before'; 0 by the template 'total and deterministic' (their statements: YtoecjdpeldcajaaTotals.lean).
  GIVEN WITH THE SEED: the statements are not yours to turn. If you find one false, say at which input.
  Laid BY PROGRAM, IN A SANDBOX (cutbox-rows.mjs): the forced cells as the released guide's own fill.sh prints them over the translation 6bc930383c28a9a8… (all of the seat's roots in one cut). By AI agents, Wed Nov 11 2026. No macro, syntax, notation, axiom, sorry.
-/
import Derived.Test.YtoecjdpeldcajaaChecked
import GoSem.Claim
import GoSem.ClaimJoined
import GoSem.ClaimMapViews
import Derived.JoinedTies
import Derived.KernelRfl
namespace Go.Proofs.Ytoecjdpeldcajaa
/- THE CELL 'sum', in the pinned program and in every row, IS THE sha256 OF THE DUMP (.gsa) THAT YtoecjdpeldcajaaProg.lean LOADS. Nothing in Lean hashes anything: it is a label: what it is worth is what the hold of that sum in a sandbox is worth. -/
noncomputable def Try.pinned : Pinned := { name := "ytoecjdpeldcajaa", sum := "6bc930383c28a9a841f5cd10b3be9140bea8fdc123aceb9a5e77719ebbb39bb3", checked := Try.checked }
namespace Rows
def none {H : Type} : Left H := { results := [], args := [] }

/-- 'laws.FnExactNewtonPoints': WHATEVER THE INPUT: true; the input reads as it did. -/
def fnExactNewtonPointsSpec : ChangeSpec := { name := "fnExactNewtonPoints", fn := fun _ => fun
  | [d] => { results := [.lit (.bool true)], args := [d] }
  | _ => none }
def fnExactNewtonPointsRow : OpenClaim := { program := "ytoecjdpeldcajaa", sum := "6bc930383c28a9a841f5cd10b3be9140bea8fdc123aceb9a5e77719ebbb39bb3", func := "loop.example/g01056/laws.FnExactNewtonPoints", spec := "fnExactNewtonPoints", plainKeys := false, apart := false }
def FnExactNewtonPointsSaid : Prop := fnExactNewtonPointsRow.holds Try.pinned (OpenSpec.ofChange fnExactNewtonPointsSpec)

/-- ITS FALSE NEIGHBOUR: 'it returns false'. Refute it at one input. -/
def fnExactNewtonPointsWrong : ChangeSpec := { name := "fnExactNewtonPoints", fn := fun _ => fun
  | [d] => { results := [.lit (.bool false)], args := [d] }
  | _ => none }
def FnExactNewtonPointsWrongFalsely : Prop := fnExactNewtonPointsRow.holds Try.pinned (OpenSpec.ofChange fnExactNewtonPointsWrong)

/-- 'laws.FnExactCellsOf': WHATEVER THE INPUT: true; the input reads as it did. -/
def fnExactCellsOfSpec : ChangeSpec := { name := "fnExactCellsOf", fn := fun _ => fun
  | [d] => { results := [.lit (.bool true)], args := [d] }
  | _ => none }
def fnExactCellsOfRow : OpenClaim := { program := "ytoecjdpeldcajaa", sum := "6bc930383c28a9a841f5cd10b3be9140bea8fdc123aceb9a5e77719ebbb39bb3", func := "loop.example/g01056/laws.FnExactCellsOf", spec := "fnExactCellsOf", unfollowed := true, recurses := true, plainKeys := false, apart := false }
def FnExactCellsOfSaid : Prop := fnExactCellsOfRow.holds Try.pinned (OpenSpec.ofChange fnExactCellsOfSpec)

/-- ITS FALSE NEIGHBOUR: 'it returns false'. Refute it at one input. -/
def fnExactCellsOfWrong : ChangeSpec := { name := "fnExactCellsOf", fn := fun _ => fun
  | [d] => { results := [.lit (.bool false)], args := [d] }
  | _ => none }
def FnExactCellsOfWrongFalsely : Prop := fnExactCellsOfRow.holds Try.pinned (OpenSpec.ofChange fnExactCellsOfWrong)

/-- 'laws.FnExactNewtonPolygon': WHATEVER THE INPUT: true; the input reads as it did. -/
def fnExactNewtonPolygonSpec : ChangeSpec := { name := "fnExactNewtonPolygon", fn := fun _ => fun
  | [d] => { results := [.lit (.bool true)], args := [d] }
  | _ => none }
def fnExactNewtonPolygonRow : OpenClaim := { program := "ytoecjdpeldcajaa", sum := "6bc930383c28a9a841f5cd10b3be9140bea8fdc123aceb9a5e77719ebbb39bb3", func := "loop.example/g01056/laws.FnExactNewtonPolygon", spec := "fnExactNewtonPolygon", unfollowed := true, recurses := true, plainKeys := false, apart := false }
def FnExactNewtonPolygonSaid : Prop := fnExactNewtonPolygonRow.holds Try.pinned (OpenSpec.ofChange fnExactNewtonPolygonSpec)

/-- ITS FALSE NEIGHBOUR: 'it returns false'. Refute it at one input. -/
def fnExactNewtonPolygonWrong : ChangeSpec := { name := "fnExactNewtonPolygon", fn := fun _ => fun
  | [d] => { results := [.lit (.bool false)], args := [d] }
  | _ => none }
def FnExactNewtonPolygonWrongFalsely : Prop := fnExactNewtonPolygonRow.holds Try.pinned (OpenSpec.ofChange fnExactNewtonPolygonWrong)

/-- 'laws.FnExactCellPolygon': WHATEVER THE INPUT: true; the input reads as it did. -/
def fnExactCellPolygonSpec : ChangeSpec := { name := "fnExactCellPolygon", fn := fun _ => fun
  | [d1, d2] => { results := [.lit (.bool true)], args := [d1, d2] }
  | _ => none }
def fnExactCellPolygonRow : OpenClaim := { program := "ytoecjdpeldcajaa", sum := "6bc930383c28a9a841f5cd10b3be9140bea8fdc123aceb9a5e77719ebbb39bb3", func := "loop.example/g01056/laws.FnExactCellPolygon", spec := "fnExactCellPolygon", unfollowed := true, recurses := true, plainKeys := false, apart := false }
def FnExactCellPolygonSaid : Prop := fnExactCellPolygonRow.holds Try.pinned (OpenSpec.ofChange fnExactCellPolygonSpec)

/-- ITS FALSE NEIGHBOUR: 'it returns false'. Refute it at one input. -/
def fnExactCellPolygonWrong : ChangeSpec := { name := "fnExactCellPolygon", fn := fun _ => fun
  | [d1, d2] => { results := [.lit (.bool false)], args := [d1, d2] }
  | _ => none }
def FnExactCellPolygonWrongFalsely : Prop := fnExactCellPolygonRow.holds Try.pinned (OpenSpec.ofChange fnExactCellPolygonWrong)

/-- 'laws.FnExactCellAreas': WHATEVER THE INPUT: true; the input reads as it did. -/
def fnExactCellAreasSpec : ChangeSpec := { name := "fnExactCellAreas", fn := fun _ => fun
  | [d] => { results := [.lit (.bool true)], args := [d] }
  | _ => none }
def fnExactCellAreasRow : OpenClaim := { program := "ytoecjdpeldcajaa", sum := "6bc930383c28a9a841f5cd10b3be9140bea8fdc123aceb9a5e77719ebbb39bb3", func := "loop.example/g01056/laws.FnExactCellAreas", spec := "fnExactCellAreas", unfollowed := true, recurses := true, plainKeys := false, apart := false }
def FnExactCellAreasSaid : Prop := fnExactCellAreasRow.holds Try.pinned (OpenSpec.ofChange fnExactCellAreasSpec)

/-- ITS FALSE NEIGHBOUR: 'it returns false'. Refute it at one input. -/
def fnExactCellAreasWrong : ChangeSpec := { name := "fnExactCellAreas", fn := fun _ => fun
  | [d] => { results := [.lit (.bool false)], args := [d] }
  | _ => none }
def FnExactCellAreasWrongFalsely : Prop := fnExactCellAreasRow.holds Try.pinned (OpenSpec.ofChange fnExactCellAreasWrong)

/-- 'laws.FnExactUnusedTerms': WHATEVER THE INPUT: true; the input reads as it did. -/
def fnExactUnusedTermsSpec : ChangeSpec := { name := "fnExactUnusedTerms", fn := fun _ => fun
  | [d] => { results := [.lit (.bool true)], args := [d] }
  | _ => none }
def fnExactUnusedTermsRow : OpenClaim := { program := "ytoecjdpeldcajaa", sum := "6bc930383c28a9a841f5cd10b3be9140bea8fdc123aceb9a5e77719ebbb39bb3", func := "loop.example/g01056/laws.FnExactUnusedTerms", spec := "fnExactUnusedTerms", unfollowed := true, recurses := true, plainKeys := false, apart := false }
def FnExactUnusedTermsSaid : Prop := fnExactUnusedTermsRow.holds Try.pinned (OpenSpec.ofChange fnExactUnusedTermsSpec)

/-- ITS FALSE NEIGHBOUR: 'it returns false'. Refute it at one input. -/
def fnExactUnusedTermsWrong : ChangeSpec := { name := "fnExactUnusedTerms", fn := fun _ => fun
  | [d] => { results := [.lit (.bool false)], args := [d] }
  | _ => none }
def FnExactUnusedTermsWrongFalsely : Prop := fnExactUnusedTermsRow.holds Try.pinned (OpenSpec.ofChange fnExactUnusedTermsWrong)

/-- 'laws.FnExactIsTriangulated': WHATEVER THE INPUT: true; the input reads as it did. -/
def fnExactIsTriangulatedSpec : ChangeSpec := { name := "fnExactIsTriangulated", fn := fun _ => fun
  | [d] => { results := [.lit (.bool true)], args := [d] }
  | _ => none }
def fnExactIsTriangulatedRow : OpenClaim := { program := "ytoecjdpeldcajaa", sum := "6bc930383c28a9a841f5cd10b3be9140bea8fdc123aceb9a5e77719ebbb39bb3", func := "loop.example/g01056/laws.FnExactIsTriangulated", spec := "fnExactIsTriangulated", unfollowed := true, recurses := true, plainKeys := false, apart := false }
def FnExactIsTriangulatedSaid : Prop := fnExactIsTriangulatedRow.holds Try.pinned (OpenSpec.ofChange fnExactIsTriangulatedSpec)

/-- ITS FALSE NEIGHBOUR: 'it returns false'. Refute it at one input. -/
def fnExactIsTriangulatedWrong : ChangeSpec := { name := "fnExactIsTriangulated", fn := fun _ => fun
  | [d] => { results := [.lit (.bool false)], args := [d] }
  | _ => none }
def FnExactIsTriangulatedWrongFalsely : Prop := fnExactIsTriangulatedRow.holds Try.pinned (OpenSpec.ofChange fnExactIsTriangulatedWrong)

/-- 'laws.FnExactIsSmooth': WHATEVER THE INPUT: true; the input reads as it did. -/
def fnExactIsSmoothSpec : ChangeSpec := { name := "fnExactIsSmooth", fn := fun _ => fun
  | [d] => { results := [.lit (.bool true)], args := [d] }
  | _ => none }
def fnExactIsSmoothRow : OpenClaim := { program := "ytoecjdpeldcajaa", sum := "6bc930383c28a9a841f5cd10b3be9140bea8fdc123aceb9a5e77719ebbb39bb3", func := "loop.example/g01056/laws.FnExactIsSmooth", spec := "fnExactIsSmooth", unfollowed := true, recurses := true, plainKeys := false, apart := false }
def FnExactIsSmoothSaid : Prop := fnExactIsSmoothRow.holds Try.pinned (OpenSpec.ofChange fnExactIsSmoothSpec)

/-- ITS FALSE NEIGHBOUR: 'it returns false'. Refute it at one input. -/
def fnExactIsSmoothWrong : ChangeSpec := { name := "fnExactIsSmooth", fn := fun _ => fun
  | [d] => { results := [.lit (.bool false)], args := [d] }
  | _ => none }
def FnExactIsSmoothWrongFalsely : Prop := fnExactIsSmoothRow.holds Try.pinned (OpenSpec.ofChange fnExactIsSmoothWrong)

/-- 'laws.FnExactHaveSameCells': WHATEVER THE INPUT: true; the input reads as it did. -/
def fnExactHaveSameCellsSpec : ChangeSpec := { name := "fnExactHaveSameCells", fn := fun _ => fun
  | [d1, d2] => { results := [.lit (.bool true)], args := [d1, d2] }
  | _ => none }
def fnExactHaveSameCellsRow : OpenClaim := { program := "ytoecjdpeldcajaa", sum := "6bc930383c28a9a841f5cd10b3be9140bea8fdc123aceb9a5e77719ebbb39bb3", func := "loop.example/g01056/laws.FnExactHaveSameCells", spec := "fnExactHaveSameCells", unfollowed := true, recurses := true, plainKeys := false, apart := false }
def FnExactHaveSameCellsSaid : Prop := fnExactHaveSameCellsRow.holds Try.pinned (OpenSpec.ofChange fnExactHaveSameCellsSpec)

/-- ITS FALSE NEIGHBOUR: 'it returns false'. Refute it at one input. -/
def fnExactHaveSameCellsWrong : ChangeSpec := { name := "fnExactHaveSameCells", fn := fun _ => fun
  | [d1, d2] => { results := [.lit (.bool false)], args := [d1, d2] }
  | _ => none }
def FnExactHaveSameCellsWrongFalsely : Prop := fnExactHaveSameCellsRow.holds Try.pinned (OpenSpec.ofChange fnExactHaveSameCellsWrong)

/- THE SECOND FORM. 'bulk': how many values and letters a reading holds, each counted each time it is reached (what is shared counts as often as it is met; a slice's spare places count too). A statement '..UptoSaid' is the law's where the arguments, and the package variables that the reading takes, are together of bulk at most 1048576: NARROWER than '..Said'. Prove '..Said' where nothing that the law and all that it calls make is longer than what came in: it says more and counts as full. Else prove '..UptoSaid'. A law counts once. -/
mutual
def uptoBulk {H : Type} : DataW H → Nat
  | .lit (.string bytes) => bytes.length + 1
  | .lit _ => 1
  | .nil => 1
  | .ptr d => uptoBulk d + 1
  | .slice elems spare => uptoBulkAll elems + uptoBulkAll spare + 1
  | .agg parts => uptoBulkAll parts + 1
  | .iface _ d => uptoBulk d + 1
  | .map entries => uptoBulkEntries entries + 1
  | .held _ => 1
def uptoBulkAll {H : Type} : List (DataW H) → Nat
  | [] => 0
  | d :: r => uptoBulk d + uptoBulkAll r
def uptoBulkEntries {H : Type} : List (Lit × DataW H) → Nat
  | [] => 0
  | x :: r => uptoBulkEntry x + uptoBulkEntries r
def uptoBulkEntry {H : Type} : Lit × DataW H → Nat
  | (.string bytes, d) => bytes.length + uptoBulk d + 1
  | (_, d) => uptoBulk d + 1
 end
def uptoSmall : (H : Type) → List (DataW H) → Bool := fun _ ds => decide (uptoBulkAll ds ≤ 1048576)
def OpenSpec.upto (s : _root_.Go.ChangeSpec) : _root_.Go.OpenSpec := { _root_.Go.OpenSpec.ofChange s with cond := some uptoSmall }

/-- 'laws.FnExactNewtonPoints', WHERE WHAT IT READS IS OF BULK AT MOST 1048576: true; the input reads as it did. -/
def fnExactNewtonPointsUptoRow : OpenClaim := { program := "ytoecjdpeldcajaa", sum := "6bc930383c28a9a841f5cd10b3be9140bea8fdc123aceb9a5e77719ebbb39bb3", func := "loop.example/g01056/laws.FnExactNewtonPoints", spec := "fnExactNewtonPoints", plainKeys := false, apart := false, narrowed := true }
def FnExactNewtonPointsUptoSaid : Prop := fnExactNewtonPointsUptoRow.holds Try.pinned (OpenSpec.upto fnExactNewtonPointsSpec)

/-- 'laws.FnExactCellsOf', WHERE WHAT IT READS IS OF BULK AT MOST 1048576: true; the input reads as it did. -/
def fnExactCellsOfUptoRow : OpenClaim := { program := "ytoecjdpeldcajaa", sum := "6bc930383c28a9a841f5cd10b3be9140bea8fdc123aceb9a5e77719ebbb39bb3", func := "loop.example/g01056/laws.FnExactCellsOf", spec := "fnExactCellsOf", unfollowed := true, recurses := true, plainKeys := false, apart := false, narrowed := true }
def FnExactCellsOfUptoSaid : Prop := fnExactCellsOfUptoRow.holds Try.pinned (OpenSpec.upto fnExactCellsOfSpec)

/-- 'laws.FnExactNewtonPolygon', WHERE WHAT IT READS IS OF BULK AT MOST 1048576: true; the input reads as it did. -/
def fnExactNewtonPolygonUptoRow : OpenClaim := { program := "ytoecjdpeldcajaa", sum := "6bc930383c28a9a841f5cd10b3be9140bea8fdc123aceb9a5e77719ebbb39bb3", func := "loop.example/g01056/laws.FnExactNewtonPolygon", spec := "fnExactNewtonPolygon", unfollowed := true, recurses := true, plainKeys := false, apart := false, narrowed := true }
def FnExactNewtonPolygonUptoSaid : Prop := fnExactNewtonPolygonUptoRow.holds Try.pinned (OpenSpec.upto fnExactNewtonPolygonSpec)

/-- 'laws.FnExactCellPolygon', WHERE WHAT IT READS IS OF BULK AT MOST 1048576: true; the input reads as it did. -/
def fnExactCellPolygonUptoRow : OpenClaim := { program := "ytoecjdpeldcajaa", sum := "6bc930383c28a9a841f5cd10b3be9140bea8fdc123aceb9a5e77719ebbb39bb3", func := "loop.example/g01056/laws.FnExactCellPolygon", spec := "fnExactCellPolygon", unfollowed := true, recurses := true, plainKeys := false, apart := false, narrowed := true }
def FnExactCellPolygonUptoSaid : Prop := fnExactCellPolygonUptoRow.holds Try.pinned (OpenSpec.upto fnExactCellPolygonSpec)

/-- 'laws.FnExactCellAreas', WHERE WHAT IT READS IS OF BULK AT MOST 1048576: true; the input reads as it did. -/
def fnExactCellAreasUptoRow : OpenClaim := { program := "ytoecjdpeldcajaa", sum := "6bc930383c28a9a841f5cd10b3be9140bea8fdc123aceb9a5e77719ebbb39bb3", func := "loop.example/g01056/laws.FnExactCellAreas", spec := "fnExactCellAreas", unfollowed := true, recurses := true, plainKeys := false, apart := false, narrowed := true }
def FnExactCellAreasUptoSaid : Prop := fnExactCellAreasUptoRow.holds Try.pinned (OpenSpec.upto fnExactCellAreasSpec)

/-- 'laws.FnExactUnusedTerms', WHERE WHAT IT READS IS OF BULK AT MOST 1048576: true; the input reads as it did. -/
def fnExactUnusedTermsUptoRow : OpenClaim := { program := "ytoecjdpeldcajaa", sum := "6bc930383c28a9a841f5cd10b3be9140bea8fdc123aceb9a5e77719ebbb39bb3", func := "loop.example/g01056/laws.FnExactUnusedTerms", spec := "fnExactUnusedTerms", unfollowed := true, recurses := true, plainKeys := false, apart := false, narrowed := true }
def FnExactUnusedTermsUptoSaid : Prop := fnExactUnusedTermsUptoRow.holds Try.pinned (OpenSpec.upto fnExactUnusedTermsSpec)

/-- 'laws.FnExactIsTriangulated', WHERE WHAT IT READS IS OF BULK AT MOST 1048576: true; the input reads as it did. -/
def fnExactIsTriangulatedUptoRow : OpenClaim := { program := "ytoecjdpeldcajaa", sum := "6bc930383c28a9a841f5cd10b3be9140bea8fdc123aceb9a5e77719ebbb39bb3", func := "loop.example/g01056/laws.FnExactIsTriangulated", spec := "fnExactIsTriangulated", unfollowed := true, recurses := true, plainKeys := false, apart := false, narrowed := true }
def FnExactIsTriangulatedUptoSaid : Prop := fnExactIsTriangulatedUptoRow.holds Try.pinned (OpenSpec.upto fnExactIsTriangulatedSpec)

/-- 'laws.FnExactIsSmooth', WHERE WHAT IT READS IS OF BULK AT MOST 1048576: true; the input reads as it did. -/
def fnExactIsSmoothUptoRow : OpenClaim := { program := "ytoecjdpeldcajaa", sum := "6bc930383c28a9a841f5cd10b3be9140bea8fdc123aceb9a5e77719ebbb39bb3", func := "loop.example/g01056/laws.FnExactIsSmooth", spec := "fnExactIsSmooth", unfollowed := true, recurses := true, plainKeys := false, apart := false, narrowed := true }
def FnExactIsSmoothUptoSaid : Prop := fnExactIsSmoothUptoRow.holds Try.pinned (OpenSpec.upto fnExactIsSmoothSpec)

/-- 'laws.FnExactHaveSameCells', WHERE WHAT IT READS IS OF BULK AT MOST 1048576: true; the input reads as it did. -/
def fnExactHaveSameCellsUptoRow : OpenClaim := { program := "ytoecjdpeldcajaa", sum := "6bc930383c28a9a841f5cd10b3be9140bea8fdc123aceb9a5e77719ebbb39bb3", func := "loop.example/g01056/laws.FnExactHaveSameCells", spec := "fnExactHaveSameCells", unfollowed := true, recurses := true, plainKeys := false, apart := false, narrowed := true }
def FnExactHaveSameCellsUptoSaid : Prop := fnExactHaveSameCellsUptoRow.holds Try.pinned (OpenSpec.upto fnExactHaveSameCellsSpec)

end Rows
end Go.Proofs.Ytoecjdpeldcajaa

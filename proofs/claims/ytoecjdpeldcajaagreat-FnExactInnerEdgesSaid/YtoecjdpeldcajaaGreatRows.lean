/-
  No cell of these rows narrows 'for every input' (looked for: loops, veiled, ifaces, maps, wideKeys, modest, calm, conditions, laid).
  DERIVED. THE GIVEN ROWS OF THIS SEAT. 3 by the template 'for every input the law returns true; each argument reads behind the call as it read before'; 0 by the template 'total and deterministic' (their statements: YtoecjdpeldcajaaGreatTotals.lean).
  GIVEN WITH THE SEED: the statements are not yours to turn. If you find one false, say at which input.
  Laid BY PROGRAM, IN A SANDBOX (cutbox-rows.mjs): the forced cells as the released guide's own fill.sh prints them over the translation b154f2d1397aef8c… (all of the seat's roots in one cut). By AI agents, Wed Nov 11 2026. No macro, syntax, notation, axiom, sorry.
-/
import Derived.Test.YtoecjdpeldcajaaGreatChecked
import GoSem.Claim
import GoSem.ClaimJoined
import GoSem.ClaimMapViews
import Derived.JoinedTies
import Derived.KernelRfl
namespace Go.Proofs.YtoecjdpeldcajaaGreat
/- THE CELL 'sum', in the pinned program and in every row, IS THE sha256 OF THE DUMP (.gsa) THAT YtoecjdpeldcajaaGreatProg.lean LOADS. Nothing in Lean hashes anything: it is a label: what it is worth is what the hold of that sum in a sandbox is worth. -/
noncomputable def Tryz.pinned : Pinned := { name := "ytoecjdpeldcajaagreat", sum := "b154f2d1397aef8cbb05313095de07c3eaf5d59408bf27b459fdfbf3712df8e8", checked := Tryz.checked }
namespace Rows
def none {H : Type} : Left H := { results := [], args := [] }

/-- 'laws.FnExactEdgesOfCells': WHATEVER THE INPUT: true; the input reads as it did. -/
def fnExactEdgesOfCellsSpec : ChangeSpec := { name := "fnExactEdgesOfCells", fn := fun _ => fun
  | [d] => { results := [.lit (.bool true)], args := [d] }
  | _ => none }
def fnExactEdgesOfCellsRow : OpenClaim := { program := "ytoecjdpeldcajaagreat", sum := "b154f2d1397aef8cbb05313095de07c3eaf5d59408bf27b459fdfbf3712df8e8", func := "loop.example/g01056/laws.FnExactEdgesOfCells", spec := "fnExactEdgesOfCells", unfollowed := true, recurses := true, plainKeys := false, apart := false }
def FnExactEdgesOfCellsSaid : Prop := fnExactEdgesOfCellsRow.holds Tryz.pinned (OpenSpec.ofChange fnExactEdgesOfCellsSpec)

/-- ITS FALSE NEIGHBOUR: 'it returns false'. Refute it at one input. -/
def fnExactEdgesOfCellsWrong : ChangeSpec := { name := "fnExactEdgesOfCells", fn := fun _ => fun
  | [d] => { results := [.lit (.bool false)], args := [d] }
  | _ => none }
def FnExactEdgesOfCellsWrongFalsely : Prop := fnExactEdgesOfCellsRow.holds Tryz.pinned (OpenSpec.ofChange fnExactEdgesOfCellsWrong)

/-- 'laws.FnExactInnerEdges': WHATEVER THE INPUT: true; the input reads as it did. -/
def fnExactInnerEdgesSpec : ChangeSpec := { name := "fnExactInnerEdges", fn := fun _ => fun
  | [d] => { results := [.lit (.bool true)], args := [d] }
  | _ => none }
def fnExactInnerEdgesRow : OpenClaim := { program := "ytoecjdpeldcajaagreat", sum := "b154f2d1397aef8cbb05313095de07c3eaf5d59408bf27b459fdfbf3712df8e8", func := "loop.example/g01056/laws.FnExactInnerEdges", spec := "fnExactInnerEdges", unfollowed := true, recurses := true, plainKeys := false, apart := false }
def FnExactInnerEdgesSaid : Prop := fnExactInnerEdgesRow.holds Tryz.pinned (OpenSpec.ofChange fnExactInnerEdgesSpec)

/-- ITS FALSE NEIGHBOUR: 'it returns false'. Refute it at one input. -/
def fnExactInnerEdgesWrong : ChangeSpec := { name := "fnExactInnerEdges", fn := fun _ => fun
  | [d] => { results := [.lit (.bool false)], args := [d] }
  | _ => none }
def FnExactInnerEdgesWrongFalsely : Prop := fnExactInnerEdgesRow.holds Tryz.pinned (OpenSpec.ofChange fnExactInnerEdgesWrong)

/-- 'laws.FnExactEdgeLength': WHATEVER THE INPUT: true; the input reads as it did. -/
def fnExactEdgeLengthSpec : ChangeSpec := { name := "fnExactEdgeLength", fn := fun _ => fun
  | [d1, d2, d3] => { results := [.lit (.bool true)], args := [d1, d2, d3] }
  | _ => none }
def fnExactEdgeLengthRow : OpenClaim := { program := "ytoecjdpeldcajaagreat", sum := "b154f2d1397aef8cbb05313095de07c3eaf5d59408bf27b459fdfbf3712df8e8", func := "loop.example/g01056/laws.FnExactEdgeLength", spec := "fnExactEdgeLength", unfollowed := true, recurses := true, plainKeys := false, apart := false }
def FnExactEdgeLengthSaid : Prop := fnExactEdgeLengthRow.holds Tryz.pinned (OpenSpec.ofChange fnExactEdgeLengthSpec)

/-- ITS FALSE NEIGHBOUR: 'it returns false'. Refute it at one input. -/
def fnExactEdgeLengthWrong : ChangeSpec := { name := "fnExactEdgeLength", fn := fun _ => fun
  | [d1, d2, d3] => { results := [.lit (.bool false)], args := [d1, d2, d3] }
  | _ => none }
def FnExactEdgeLengthWrongFalsely : Prop := fnExactEdgeLengthRow.holds Tryz.pinned (OpenSpec.ofChange fnExactEdgeLengthWrong)

/- THE SECOND FORM. 'bulk': how many values and letters a reading holds, each counted each time it is reached (what is shared counts as often as it is met; a slice's spare places count too). A statement '..UptoSaid' is the law's where the arguments, and the package variables that the reading takes, are together of bulk at most 1048576: NARROWER than '..Said'. Prove '..Said' where nothing that the law and all that it calls make is longer than what came in: it says more and counts as full. Else prove '..UptoSaid'. A law counts once. -/
mutual
def uptoBulk {H : Type} : DataW H → Nat
  | .lit (.string bytes) => bytes.length + 1
  | .lit _ => 1
  | .nil => 1
  | .ptr d => uptoBulk d + 1
  | .slice elems spare => uptoBulkAll elems + uptoBulkAll spare + 1
  | .agg parts => uptoBulkAll parts + 1
  | .iface _ d => uptoBulk d + 1
  | .map entries => uptoBulkEntries entries + 1
  | .held _ => 1
def uptoBulkAll {H : Type} : List (DataW H) → Nat
  | [] => 0
  | d :: r => uptoBulk d + uptoBulkAll r
def uptoBulkEntries {H : Type} : List (Lit × DataW H) → Nat
  | [] => 0
  | x :: r => uptoBulkEntry x + uptoBulkEntries r
def uptoBulkEntry {H : Type} : Lit × DataW H → Nat
  | (.string bytes, d) => bytes.length + uptoBulk d + 1
  | (_, d) => uptoBulk d + 1
 end
def uptoSmall : (H : Type) → List (DataW H) → Bool := fun _ ds => decide (uptoBulkAll ds ≤ 1048576)
def OpenSpec.upto (s : _root_.Go.ChangeSpec) : _root_.Go.OpenSpec := { _root_.Go.OpenSpec.ofChange s with cond := some uptoSmall }

/-- 'laws.FnExactEdgesOfCells', WHERE WHAT IT READS IS OF BULK AT MOST 1048576: true; the input reads as it did. -/
def fnExactEdgesOfCellsUptoRow : OpenClaim := { program := "ytoecjdpeldcajaagreat", sum := "b154f2d1397aef8cbb05313095de07c3eaf5d59408bf27b459fdfbf3712df8e8", func := "loop.example/g01056/laws.FnExactEdgesOfCells", spec := "fnExactEdgesOfCells", unfollowed := true, recurses := true, plainKeys := false, apart := false, narrowed := true }
def FnExactEdgesOfCellsUptoSaid : Prop := fnExactEdgesOfCellsUptoRow.holds Tryz.pinned (OpenSpec.upto fnExactEdgesOfCellsSpec)

/-- 'laws.FnExactInnerEdges', WHERE WHAT IT READS IS OF BULK AT MOST 1048576: true; the input reads as it did. -/
def fnExactInnerEdgesUptoRow : OpenClaim := { program := "ytoecjdpeldcajaagreat", sum := "b154f2d1397aef8cbb05313095de07c3eaf5d59408bf27b459fdfbf3712df8e8", func := "loop.example/g01056/laws.FnExactInnerEdges", spec := "fnExactInnerEdges", unfollowed := true, recurses := true, plainKeys := false, apart := false, narrowed := true }
def FnExactInnerEdgesUptoSaid : Prop := fnExactInnerEdgesUptoRow.holds Tryz.pinned (OpenSpec.upto fnExactInnerEdgesSpec)

/-- 'laws.FnExactEdgeLength', WHERE WHAT IT READS IS OF BULK AT MOST 1048576: true; the input reads as it did. -/
def fnExactEdgeLengthUptoRow : OpenClaim := { program := "ytoecjdpeldcajaagreat", sum := "b154f2d1397aef8cbb05313095de07c3eaf5d59408bf27b459fdfbf3712df8e8", func := "loop.example/g01056/laws.FnExactEdgeLength", spec := "fnExactEdgeLength", unfollowed := true, recurses := true, plainKeys := false, apart := false, narrowed := true }
def FnExactEdgeLengthUptoSaid : Prop := fnExactEdgeLengthUptoRow.holds Tryz.pinned (OpenSpec.upto fnExactEdgeLengthSpec)

end Rows
end Go.Proofs.YtoecjdpeldcajaaGreat

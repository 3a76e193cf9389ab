/-
  No cell of these rows narrows 'for every input' (looked for: loops, veiled, ifaces, maps, wideKeys, modest, calm, conditions, laid).
  DERIVED. THE GIVEN ROWS OF THIS SEAT. 5 by the template 'for every input the law returns true; each argument reads behind the call as it read before'; 0 by the template 'total and deterministic' (their statements: YtbhmlfidideemaaTotals.lean).
  GIVEN WITH THE SEED: the statements are not yours to turn. If you find one false, say at which input.
  Laid BY PROGRAM, IN A SANDBOX (cutbox-rows.mjs): the forced cells as the released guide's own fill.sh prints them over the translation ee1b1d486e8668c0… (all of the seat's roots in one cut). By AI agents, Wed Nov 11 2026. No macro, syntax, notation, axiom, sorry.
-/
import Derived.Test.YtbhmlfidideemaaChecked
import GoSem.Claim
import GoSem.ClaimJoined
import GoSem.ClaimMapViews
import Derived.JoinedTies
import Derived.KernelRfl
namespace Go.Proofs.Ytbhmlfidideemaa
/- THE CELL 'sum', in the pinned program and in every row, IS THE sha256 OF THE DUMP (.gsa) THAT YtbhmlfidideemaaProg.lean LOADS. Nothing in Lean hashes anything: it is a label: what it is worth is what the hold of that sum in a sandbox is worth. -/
noncomputable def Try.pinned : Pinned := { name := "ytbhmlfidideemaa", sum := "ee1b1d486e8668c0a89284a04a8bc96c68d33021ab5b518346e59530d22bb2f1", checked := Try.checked }
namespace Rows
def none {H : Type} : Left H := { results := [], args := [] }

/-- 'laws.FnExactIsPoly': WHATEVER THE INPUT: true; the input reads as it did. -/
def fnExactIsPolySpec : ChangeSpec := { name := "fnExactIsPoly", fn := fun _ => fun
  | [d] => { results := [.lit (.bool true)], args := [d] }
  | _ => none }
def fnExactIsPolyRow : OpenClaim := { program := "ytbhmlfidideemaa", sum := "ee1b1d486e8668c0a89284a04a8bc96c68d33021ab5b518346e59530d22bb2f1", func := "loop.example/g01056/laws.FnExactIsPoly", spec := "fnExactIsPoly", apart := false }
def FnExactIsPolySaid : Prop := fnExactIsPolyRow.holds Try.pinned (OpenSpec.ofChange fnExactIsPolySpec)

/-- ITS FALSE NEIGHBOUR: 'it returns false'. Refute it at one input. -/
def fnExactIsPolyWrong : ChangeSpec := { name := "fnExactIsPoly", fn := fun _ => fun
  | [d] => { results := [.lit (.bool false)], args := [d] }
  | _ => none }
def FnExactIsPolyWrongFalsely : Prop := fnExactIsPolyRow.holds Try.pinned (OpenSpec.ofChange fnExactIsPolyWrong)

/-- 'laws.FnExactPolySum': WHATEVER THE INPUT: true; the input reads as it did. -/
def fnExactPolySumSpec : ChangeSpec := { name := "fnExactPolySum", fn := fun _ => fun
  | [d1, d2] => { results := [.lit (.bool true)], args := [d1, d2] }
  | _ => none }
def fnExactPolySumRow : OpenClaim := { program := "ytbhmlfidideemaa", sum := "ee1b1d486e8668c0a89284a04a8bc96c68d33021ab5b518346e59530d22bb2f1", func := "loop.example/g01056/laws.FnExactPolySum", spec := "fnExactPolySum", unfollowed := true, recurses := true, apart := false }
def FnExactPolySumSaid : Prop := fnExactPolySumRow.holds Try.pinned (OpenSpec.ofChange fnExactPolySumSpec)

/-- ITS FALSE NEIGHBOUR: 'it returns false'. Refute it at one input. -/
def fnExactPolySumWrong : ChangeSpec := { name := "fnExactPolySum", fn := fun _ => fun
  | [d1, d2] => { results := [.lit (.bool false)], args := [d1, d2] }
  | _ => none }
def FnExactPolySumWrongFalsely : Prop := fnExactPolySumRow.holds Try.pinned (OpenSpec.ofChange fnExactPolySumWrong)

/-- 'laws.FnExactMovePoly': WHATEVER THE INPUT: true; the input reads as it did. -/
def fnExactMovePolySpec : ChangeSpec := { name := "fnExactMovePoly", fn := fun _ => fun
  | [d1, d2] => { results := [.lit (.bool true)], args := [d1, d2] }
  | _ => none }
def fnExactMovePolyRow : OpenClaim := { program := "ytbhmlfidideemaa", sum := "ee1b1d486e8668c0a89284a04a8bc96c68d33021ab5b518346e59530d22bb2f1", func := "loop.example/g01056/laws.FnExactMovePoly", spec := "fnExactMovePoly", unfollowed := true, recurses := true, apart := false }
def FnExactMovePolySaid : Prop := fnExactMovePolyRow.holds Try.pinned (OpenSpec.ofChange fnExactMovePolySpec)

/-- ITS FALSE NEIGHBOUR: 'it returns false'. Refute it at one input. -/
def fnExactMovePolyWrong : ChangeSpec := { name := "fnExactMovePoly", fn := fun _ => fun
  | [d1, d2] => { results := [.lit (.bool false)], args := [d1, d2] }
  | _ => none }
def FnExactMovePolyWrongFalsely : Prop := fnExactMovePolyRow.holds Try.pinned (OpenSpec.ofChange fnExactMovePolyWrong)

/-- 'laws.FnExactMirrorPoly': WHATEVER THE INPUT: true; the input reads as it did. -/
def fnExactMirrorPolySpec : ChangeSpec := { name := "fnExactMirrorPoly", fn := fun _ => fun
  | [d] => { results := [.lit (.bool true)], args := [d] }
  | _ => none }
def fnExactMirrorPolyRow : OpenClaim := { program := "ytbhmlfidideemaa", sum := "ee1b1d486e8668c0a89284a04a8bc96c68d33021ab5b518346e59530d22bb2f1", func := "loop.example/g01056/laws.FnExactMirrorPoly", spec := "fnExactMirrorPoly", unfollowed := true, recurses := true, apart := false }
def FnExactMirrorPolySaid : Prop := fnExactMirrorPolyRow.holds Try.pinned (OpenSpec.ofChange fnExactMirrorPolySpec)

/-- ITS FALSE NEIGHBOUR: 'it returns false'. Refute it at one input. -/
def fnExactMirrorPolyWrong : ChangeSpec := { name := "fnExactMirrorPoly", fn := fun _ => fun
  | [d] => { results := [.lit (.bool false)], args := [d] }
  | _ => none }
def FnExactMirrorPolyWrongFalsely : Prop := fnExactMirrorPolyRow.holds Try.pinned (OpenSpec.ofChange fnExactMirrorPolyWrong)

/-- 'laws.FnExactEndTerms': WHATEVER THE INPUT: true; the input reads as it did. -/
def fnExactEndTermsSpec : ChangeSpec := { name := "fnExactEndTerms", fn := fun _ => fun
  | [d] => { results := [.lit (.bool true)], args := [d] }
  | _ => none }
def fnExactEndTermsRow : OpenClaim := { program := "ytbhmlfidideemaa", sum := "ee1b1d486e8668c0a89284a04a8bc96c68d33021ab5b518346e59530d22bb2f1", func := "loop.example/g01056/laws.FnExactEndTerms", spec := "fnExactEndTerms", apart := false }
def FnExactEndTermsSaid : Prop := fnExactEndTermsRow.holds Try.pinned (OpenSpec.ofChange fnExactEndTermsSpec)

/-- ITS FALSE NEIGHBOUR: 'it returns false'. Refute it at one input. -/
def fnExactEndTermsWrong : ChangeSpec := { name := "fnExactEndTerms", fn := fun _ => fun
  | [d] => { results := [.lit (.bool false)], args := [d] }
  | _ => none }
def FnExactEndTermsWrongFalsely : Prop := fnExactEndTermsRow.holds Try.pinned (OpenSpec.ofChange fnExactEndTermsWrong)

/- THE SECOND FORM. 'bulk': how many values and letters a reading holds, each counted each time it is reached (what is shared counts as often as it is met; a slice's spare places count too). A statement '..UptoSaid' is the law's where the arguments, and the package variables that the reading takes, are together of bulk at most 1048576: NARROWER than '..Said'. Prove '..Said' where nothing that the law and all that it calls make is longer than what came in: it says more and counts as full. Else prove '..UptoSaid'. A law counts once. -/
mutual
def uptoBulk {H : Type} : DataW H → Nat
  | .lit (.string bytes) => bytes.length + 1
  | .lit _ => 1
  | .nil => 1
  | .ptr d => uptoBulk d + 1
  | .slice elems spare => uptoBulkAll elems + uptoBulkAll spare + 1
  | .agg parts => uptoBulkAll parts + 1
  | .iface _ d => uptoBulk d + 1
  | .map entries => uptoBulkEntries entries + 1
  | .held _ => 1
def uptoBulkAll {H : Type} : List (DataW H) → Nat
  | [] => 0
  | d :: r => uptoBulk d + uptoBulkAll r
def uptoBulkEntries {H : Type} : List (Lit × DataW H) → Nat
  | [] => 0
  | x :: r => uptoBulkEntry x + uptoBulkEntries r
def uptoBulkEntry {H : Type} : Lit × DataW H → Nat
  | (.string bytes, d) => bytes.length + uptoBulk d + 1
  | (_, d) => uptoBulk d + 1
 end
def uptoSmall : (H : Type) → List (DataW H) → Bool := fun _ ds => decide (uptoBulkAll ds ≤ 1048576)
def OpenSpec.upto (s : _root_.Go.ChangeSpec) : _root_.Go.OpenSpec := { _root_.Go.OpenSpec.ofChange s with cond := some uptoSmall }

/-- 'laws.FnExactIsPoly', WHERE WHAT IT READS IS OF BULK AT MOST 1048576: true; the input reads as it did. -/
def fnExactIsPolyUptoRow : OpenClaim := { program := "ytbhmlfidideemaa", sum := "ee1b1d486e8668c0a89284a04a8bc96c68d33021ab5b518346e59530d22bb2f1", func := "loop.example/g01056/laws.FnExactIsPoly", spec := "fnExactIsPoly", apart := false, narrowed := true }
def FnExactIsPolyUptoSaid : Prop := fnExactIsPolyUptoRow.holds Try.pinned (OpenSpec.upto fnExactIsPolySpec)

/-- 'laws.FnExactPolySum', WHERE WHAT IT READS IS OF BULK AT MOST 1048576: true; the input reads as it did. -/
def fnExactPolySumUptoRow : OpenClaim := { program := "ytbhmlfidideemaa", sum := "ee1b1d486e8668c0a89284a04a8bc96c68d33021ab5b518346e59530d22bb2f1", func := "loop.example/g01056/laws.FnExactPolySum", spec := "fnExactPolySum", unfollowed := true, recurses := true, apart := false, narrowed := true }
def FnExactPolySumUptoSaid : Prop := fnExactPolySumUptoRow.holds Try.pinned (OpenSpec.upto fnExactPolySumSpec)

/-- 'laws.FnExactMovePoly', WHERE WHAT IT READS IS OF BULK AT MOST 1048576: true; the input reads as it did. -/
def fnExactMovePolyUptoRow : OpenClaim := { program := "ytbhmlfidideemaa", sum := "ee1b1d486e8668c0a89284a04a8bc96c68d33021ab5b518346e59530d22bb2f1", func := "loop.example/g01056/laws.FnExactMovePoly", spec := "fnExactMovePoly", unfollowed := true, recurses := true, apart := false, narrowed := true }
def FnExactMovePolyUptoSaid : Prop := fnExactMovePolyUptoRow.holds Try.pinned (OpenSpec.upto fnExactMovePolySpec)

/-- 'laws.FnExactMirrorPoly', WHERE WHAT IT READS IS OF BULK AT MOST 1048576: true; the input reads as it did. -/
def fnExactMirrorPolyUptoRow : OpenClaim := { program := "ytbhmlfidideemaa", sum := "ee1b1d486e8668c0a89284a04a8bc96c68d33021ab5b518346e59530d22bb2f1", func := "loop.example/g01056/laws.FnExactMirrorPoly", spec := "fnExactMirrorPoly", unfollowed := true, recurses := true, apart := false, narrowed := true }
def FnExactMirrorPolyUptoSaid : Prop := fnExactMirrorPolyUptoRow.holds Try.pinned (OpenSpec.upto fnExactMirrorPolySpec)

/-- 'laws.FnExactEndTerms', WHERE WHAT IT READS IS OF BULK AT MOST 1048576: true; the input reads as it did. -/
def fnExactEndTermsUptoRow : OpenClaim := { program := "ytbhmlfidideemaa", sum := "ee1b1d486e8668c0a89284a04a8bc96c68d33021ab5b518346e59530d22bb2f1", func := "loop.example/g01056/laws.FnExactEndTerms", spec := "fnExactEndTerms", apart := false, narrowed := true }
def FnExactEndTermsUptoSaid : Prop := fnExactEndTermsUptoRow.holds Try.pinned (OpenSpec.upto fnExactEndTermsSpec)

end Rows
end Go.Proofs.Ytbhmlfidideemaa

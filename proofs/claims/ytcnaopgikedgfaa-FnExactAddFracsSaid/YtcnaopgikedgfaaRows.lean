/-
  No cell of these rows narrows 'for every input' (looked for: loops, veiled, ifaces, maps, wideKeys, modest, calm, conditions, laid).
  DERIVED. THE GIVEN ROWS OF THIS SEAT. 10 by the template 'for every input the law returns true; each argument reads behind the call as it read before'; 0 by the template 'total and deterministic' (their statements: YtcnaopgikedgfaaTotals.lean).
  GIVEN WITH THE SEED: the statements are not yours to turn. If you find one false, say at which input.
  Laid BY PROGRAM, IN A SANDBOX (cutbox-rows.mjs): the forced cells as the released guide's own fill.sh prints them over the translation dd504fe366ed757c… (all of the seat's roots in one cut). By AI agents, Wed Nov 11 2026. No macro, syntax, notation, axiom, sorry.
-/
import Derived.Test.YtcnaopgikedgfaaChecked
import GoSem.Claim
import GoSem.ClaimJoined
import GoSem.ClaimMapViews
import Derived.JoinedTies
import Derived.KernelRfl
namespace Go.Proofs.Ytcnaopgikedgfaa
/- THE CELL 'sum', in the pinned program and in every row, IS THE sha256 OF THE DUMP (.gsa) THAT YtcnaopgikedgfaaProg.lean LOADS. Nothing in Lean hashes anything: it is a label: what it is worth is what the hold of that sum in a sandbox is worth. -/
noncomputable def Try.pinned : Pinned := { name := "ytcnaopgikedgfaa", sum := "dd504fe366ed757c1244049e2f628c4b85946db03e6babf68bf399edaae58fd2", checked := Try.checked }
namespace Rows
def none {H : Type} : Left H := { results := [], args := [] }

/-- 'laws.FnExactIsFrac': WHATEVER THE INPUT: true; the input reads as it did. -/
def fnExactIsFracSpec : ChangeSpec := { name := "fnExactIsFrac", fn := fun _ => fun
  | [d] => { results := [.lit (.bool true)], args := [d] }
  | _ => none }
def fnExactIsFracRow : OpenClaim := { program := "ytcnaopgikedgfaa", sum := "dd504fe366ed757c1244049e2f628c4b85946db03e6babf68bf399edaae58fd2", func := "loop.example/g01056/laws.FnExactIsFrac", spec := "fnExactIsFrac", apart := false }
def FnExactIsFracSaid : Prop := fnExactIsFracRow.holds Try.pinned (OpenSpec.ofChange fnExactIsFracSpec)

/-- ITS FALSE NEIGHBOUR: 'it returns false'. Refute it at one input. -/
def fnExactIsFracWrong : ChangeSpec := { name := "fnExactIsFrac", fn := fun _ => fun
  | [d] => { results := [.lit (.bool false)], args := [d] }
  | _ => none }
def FnExactIsFracWrongFalsely : Prop := fnExactIsFracRow.holds Try.pinned (OpenSpec.ofChange fnExactIsFracWrong)

/-- 'laws.FnExactFracOf': WHATEVER THE INPUT: true; the input reads as it did. -/
def fnExactFracOfSpec : ChangeSpec := { name := "fnExactFracOf", fn := fun _ => fun
  | [d1, d2] => { results := [.lit (.bool true)], args := [d1, d2] }
  | _ => none }
def fnExactFracOfRow : OpenClaim := { program := "ytcnaopgikedgfaa", sum := "dd504fe366ed757c1244049e2f628c4b85946db03e6babf68bf399edaae58fd2", func := "loop.example/g01056/laws.FnExactFracOf", spec := "fnExactFracOf", apart := false }
def FnExactFracOfSaid : Prop := fnExactFracOfRow.holds Try.pinned (OpenSpec.ofChange fnExactFracOfSpec)

/-- ITS FALSE NEIGHBOUR: 'it returns false'. Refute it at one input. -/
def fnExactFracOfWrong : ChangeSpec := { name := "fnExactFracOf", fn := fun _ => fun
  | [d1, d2] => { results := [.lit (.bool false)], args := [d1, d2] }
  | _ => none }
def FnExactFracOfWrongFalsely : Prop := fnExactFracOfRow.holds Try.pinned (OpenSpec.ofChange fnExactFracOfWrong)

/-- 'laws.FnExactAddFracs': WHATEVER THE INPUT: true; the input reads as it did. -/
def fnExactAddFracsSpec : ChangeSpec := { name := "fnExactAddFracs", fn := fun _ => fun
  | [d1, d2] => { results := [.lit (.bool true)], args := [d1, d2] }
  | _ => none }
def fnExactAddFracsRow : OpenClaim := { program := "ytcnaopgikedgfaa", sum := "dd504fe366ed757c1244049e2f628c4b85946db03e6babf68bf399edaae58fd2", func := "loop.example/g01056/laws.FnExactAddFracs", spec := "fnExactAddFracs", unfollowed := true, recurses := true, apart := false }
def FnExactAddFracsSaid : Prop := fnExactAddFracsRow.holds Try.pinned (OpenSpec.ofChange fnExactAddFracsSpec)

/-- ITS FALSE NEIGHBOUR: 'it returns false'. Refute it at one input. -/
def fnExactAddFracsWrong : ChangeSpec := { name := "fnExactAddFracs", fn := fun _ => fun
  | [d1, d2] => { results := [.lit (.bool false)], args := [d1, d2] }
  | _ => none }
def FnExactAddFracsWrongFalsely : Prop := fnExactAddFracsRow.holds Try.pinned (OpenSpec.ofChange fnExactAddFracsWrong)

/-- 'laws.FnExactSubtractFracs': WHATEVER THE INPUT: true; the input reads as it did. -/
def fnExactSubtractFracsSpec : ChangeSpec := { name := "fnExactSubtractFracs", fn := fun _ => fun
  | [d1, d2] => { results := [.lit (.bool true)], args := [d1, d2] }
  | _ => none }
def fnExactSubtractFracsRow : OpenClaim := { program := "ytcnaopgikedgfaa", sum := "dd504fe366ed757c1244049e2f628c4b85946db03e6babf68bf399edaae58fd2", func := "loop.example/g01056/laws.FnExactSubtractFracs", spec := "fnExactSubtractFracs", unfollowed := true, recurses := true, apart := false }
def FnExactSubtractFracsSaid : Prop := fnExactSubtractFracsRow.holds Try.pinned (OpenSpec.ofChange fnExactSubtractFracsSpec)

/-- ITS FALSE NEIGHBOUR: 'it returns false'. Refute it at one input. -/
def fnExactSubtractFracsWrong : ChangeSpec := { name := "fnExactSubtractFracs", fn := fun _ => fun
  | [d1, d2] => { results := [.lit (.bool false)], args := [d1, d2] }
  | _ => none }
def FnExactSubtractFracsWrongFalsely : Prop := fnExactSubtractFracsRow.holds Try.pinned (OpenSpec.ofChange fnExactSubtractFracsWrong)

/-- 'laws.FnExactMultiplyFracs': WHATEVER THE INPUT: true; the input reads as it did. -/
def fnExactMultiplyFracsSpec : ChangeSpec := { name := "fnExactMultiplyFracs", fn := fun _ => fun
  | [d1, d2] => { results := [.lit (.bool true)], args := [d1, d2] }
  | _ => none }
def fnExactMultiplyFracsRow : OpenClaim := { program := "ytcnaopgikedgfaa", sum := "dd504fe366ed757c1244049e2f628c4b85946db03e6babf68bf399edaae58fd2", func := "loop.example/g01056/laws.FnExactMultiplyFracs", spec := "fnExactMultiplyFracs", unfollowed := true, recurses := true, apart := false }
def FnExactMultiplyFracsSaid : Prop := fnExactMultiplyFracsRow.holds Try.pinned (OpenSpec.ofChange fnExactMultiplyFracsSpec)

/-- ITS FALSE NEIGHBOUR: 'it returns false'. Refute it at one input. -/
def fnExactMultiplyFracsWrong : ChangeSpec := { name := "fnExactMultiplyFracs", fn := fun _ => fun
  | [d1, d2] => { results := [.lit (.bool false)], args := [d1, d2] }
  | _ => none }
def FnExactMultiplyFracsWrongFalsely : Prop := fnExactMultiplyFracsRow.holds Try.pinned (OpenSpec.ofChange fnExactMultiplyFracsWrong)

/-- 'laws.FnExactDivideFracs': WHATEVER THE INPUT: true; the input reads as it did. -/
def fnExactDivideFracsSpec : ChangeSpec := { name := "fnExactDivideFracs", fn := fun _ => fun
  | [d1, d2] => { results := [.lit (.bool true)], args := [d1, d2] }
  | _ => none }
def fnExactDivideFracsRow : OpenClaim := { program := "ytcnaopgikedgfaa", sum := "dd504fe366ed757c1244049e2f628c4b85946db03e6babf68bf399edaae58fd2", func := "loop.example/g01056/laws.FnExactDivideFracs", spec := "fnExactDivideFracs", unfollowed := true, recurses := true, apart := false }
def FnExactDivideFracsSaid : Prop := fnExactDivideFracsRow.holds Try.pinned (OpenSpec.ofChange fnExactDivideFracsSpec)

/-- ITS FALSE NEIGHBOUR: 'it returns false'. Refute it at one input. -/
def fnExactDivideFracsWrong : ChangeSpec := { name := "fnExactDivideFracs", fn := fun _ => fun
  | [d1, d2] => { results := [.lit (.bool false)], args := [d1, d2] }
  | _ => none }
def FnExactDivideFracsWrongFalsely : Prop := fnExactDivideFracsRow.holds Try.pinned (OpenSpec.ofChange fnExactDivideFracsWrong)

/-- 'laws.FnExactCompareFracs': WHATEVER THE INPUT: true; the input reads as it did. -/
def fnExactCompareFracsSpec : ChangeSpec := { name := "fnExactCompareFracs", fn := fun _ => fun
  | [d1, d2] => { results := [.lit (.bool true)], args := [d1, d2] }
  | _ => none }
def fnExactCompareFracsRow : OpenClaim := { program := "ytcnaopgikedgfaa", sum := "dd504fe366ed757c1244049e2f628c4b85946db03e6babf68bf399edaae58fd2", func := "loop.example/g01056/laws.FnExactCompareFracs", spec := "fnExactCompareFracs", apart := false }
def FnExactCompareFracsSaid : Prop := fnExactCompareFracsRow.holds Try.pinned (OpenSpec.ofChange fnExactCompareFracsSpec)

/-- ITS FALSE NEIGHBOUR: 'it returns false'. Refute it at one input. -/
def fnExactCompareFracsWrong : ChangeSpec := { name := "fnExactCompareFracs", fn := fun _ => fun
  | [d1, d2] => { results := [.lit (.bool false)], args := [d1, d2] }
  | _ => none }
def FnExactCompareFracsWrongFalsely : Prop := fnExactCompareFracsRow.holds Try.pinned (OpenSpec.ofChange fnExactCompareFracsWrong)

/-- 'laws.FnExactFloorFrac': WHATEVER THE INPUT: true; the input reads as it did. -/
def fnExactFloorFracSpec : ChangeSpec := { name := "fnExactFloorFrac", fn := fun _ => fun
  | [d] => { results := [.lit (.bool true)], args := [d] }
  | _ => none }
def fnExactFloorFracRow : OpenClaim := { program := "ytcnaopgikedgfaa", sum := "dd504fe366ed757c1244049e2f628c4b85946db03e6babf68bf399edaae58fd2", func := "loop.example/g01056/laws.FnExactFloorFrac", spec := "fnExactFloorFrac", apart := false }
def FnExactFloorFracSaid : Prop := fnExactFloorFracRow.holds Try.pinned (OpenSpec.ofChange fnExactFloorFracSpec)

/-- ITS FALSE NEIGHBOUR: 'it returns false'. Refute it at one input. -/
def fnExactFloorFracWrong : ChangeSpec := { name := "fnExactFloorFrac", fn := fun _ => fun
  | [d] => { results := [.lit (.bool false)], args := [d] }
  | _ => none }
def FnExactFloorFracWrongFalsely : Prop := fnExactFloorFracRow.holds Try.pinned (OpenSpec.ofChange fnExactFloorFracWrong)

/-- 'laws.FnExactCeilFrac': WHATEVER THE INPUT: true; the input reads as it did. -/
def fnExactCeilFracSpec : ChangeSpec := { name := "fnExactCeilFrac", fn := fun _ => fun
  | [d] => { results := [.lit (.bool true)], args := [d] }
  | _ => none }
def fnExactCeilFracRow : OpenClaim := { program := "ytcnaopgikedgfaa", sum := "dd504fe366ed757c1244049e2f628c4b85946db03e6babf68bf399edaae58fd2", func := "loop.example/g01056/laws.FnExactCeilFrac", spec := "fnExactCeilFrac", apart := false }
def FnExactCeilFracSaid : Prop := fnExactCeilFracRow.holds Try.pinned (OpenSpec.ofChange fnExactCeilFracSpec)

/-- ITS FALSE NEIGHBOUR: 'it returns false'. Refute it at one input. -/
def fnExactCeilFracWrong : ChangeSpec := { name := "fnExactCeilFrac", fn := fun _ => fun
  | [d] => { results := [.lit (.bool false)], args := [d] }
  | _ => none }
def FnExactCeilFracWrongFalsely : Prop := fnExactCeilFracRow.holds Try.pinned (OpenSpec.ofChange fnExactCeilFracWrong)

/-- 'laws.FnExactMeanOfNumbers': WHATEVER THE INPUT: true; the input reads as it did. -/
def fnExactMeanOfNumbersSpec : ChangeSpec := { name := "fnExactMeanOfNumbers", fn := fun _ => fun
  | [d] => { results := [.lit (.bool true)], args := [d] }
  | _ => none }
def fnExactMeanOfNumbersRow : OpenClaim := { program := "ytcnaopgikedgfaa", sum := "dd504fe366ed757c1244049e2f628c4b85946db03e6babf68bf399edaae58fd2", func := "loop.example/g01056/laws.FnExactMeanOfNumbers", spec := "fnExactMeanOfNumbers", apart := false }
def FnExactMeanOfNumbersSaid : Prop := fnExactMeanOfNumbersRow.holds Try.pinned (OpenSpec.ofChange fnExactMeanOfNumbersSpec)

/-- ITS FALSE NEIGHBOUR: 'it returns false'. Refute it at one input. -/
def fnExactMeanOfNumbersWrong : ChangeSpec := { name := "fnExactMeanOfNumbers", fn := fun _ => fun
  | [d] => { results := [.lit (.bool false)], args := [d] }
  | _ => none }
def FnExactMeanOfNumbersWrongFalsely : Prop := fnExactMeanOfNumbersRow.holds Try.pinned (OpenSpec.ofChange fnExactMeanOfNumbersWrong)

/- THE SECOND FORM. 'bulk': how many values and letters a reading holds, each counted each time it is reached (what is shared counts as often as it is met; a slice's spare places count too). A statement '..UptoSaid' is the law's where the arguments, and the package variables that the reading takes, are together of bulk at most 1048576: NARROWER than '..Said'. Prove '..Said' where nothing that the law and all that it calls make is longer than what came in: it says more and counts as full. Else prove '..UptoSaid'. A law counts once. -/
mutual
def uptoBulk {H : Type} : DataW H → Nat
  | .lit (.string bytes) => bytes.length + 1
  | .lit _ => 1
  | .nil => 1
  | .ptr d => uptoBulk d + 1
  | .slice elems spare => uptoBulkAll elems + uptoBulkAll spare + 1
  | .agg parts => uptoBulkAll parts + 1
  | .iface _ d => uptoBulk d + 1
  | .map entries => uptoBulkEntries entries + 1
  | .held _ => 1
def uptoBulkAll {H : Type} : List (DataW H) → Nat
  | [] => 0
  | d :: r => uptoBulk d + uptoBulkAll r
def uptoBulkEntries {H : Type} : List (Lit × DataW H) → Nat
  | [] => 0
  | x :: r => uptoBulkEntry x + uptoBulkEntries r
def uptoBulkEntry {H : Type} : Lit × DataW H → Nat
  | (.string bytes, d) => bytes.length + uptoBulk d + 1
  | (_, d) => uptoBulk d + 1
 end
def uptoSmall : (H : Type) → List (DataW H) → Bool := fun _ ds => decide (uptoBulkAll ds ≤ 1048576)
def OpenSpec.upto (s : _root_.Go.ChangeSpec) : _root_.Go.OpenSpec := { _root_.Go.OpenSpec.ofChange s with cond := some uptoSmall }

/-- 'laws.FnExactIsFrac', WHERE WHAT IT READS IS OF BULK AT MOST 1048576: true; the input reads as it did. -/
def fnExactIsFracUptoRow : OpenClaim := { program := "ytcnaopgikedgfaa", sum := "dd504fe366ed757c1244049e2f628c4b85946db03e6babf68bf399edaae58fd2", func := "loop.example/g01056/laws.FnExactIsFrac", spec := "fnExactIsFrac", apart := false, narrowed := true }
def FnExactIsFracUptoSaid : Prop := fnExactIsFracUptoRow.holds Try.pinned (OpenSpec.upto fnExactIsFracSpec)

/-- 'laws.FnExactFracOf', WHERE WHAT IT READS IS OF BULK AT MOST 1048576: true; the input reads as it did. -/
def fnExactFracOfUptoRow : OpenClaim := { program := "ytcnaopgikedgfaa", sum := "dd504fe366ed757c1244049e2f628c4b85946db03e6babf68bf399edaae58fd2", func := "loop.example/g01056/laws.FnExactFracOf", spec := "fnExactFracOf", apart := false, narrowed := true }
def FnExactFracOfUptoSaid : Prop := fnExactFracOfUptoRow.holds Try.pinned (OpenSpec.upto fnExactFracOfSpec)

/-- 'laws.FnExactAddFracs', WHERE WHAT IT READS IS OF BULK AT MOST 1048576: true; the input reads as it did. -/
def fnExactAddFracsUptoRow : OpenClaim := { program := "ytcnaopgikedgfaa", sum := "dd504fe366ed757c1244049e2f628c4b85946db03e6babf68bf399edaae58fd2", func := "loop.example/g01056/laws.FnExactAddFracs", spec := "fnExactAddFracs", unfollowed := true, recurses := true, apart := false, narrowed := true }
def FnExactAddFracsUptoSaid : Prop := fnExactAddFracsUptoRow.holds Try.pinned (OpenSpec.upto fnExactAddFracsSpec)

/-- 'laws.FnExactSubtractFracs', WHERE WHAT IT READS IS OF BULK AT MOST 1048576: true; the input reads as it did. -/
def fnExactSubtractFracsUptoRow : OpenClaim := { program := "ytcnaopgikedgfaa", sum := "dd504fe366ed757c1244049e2f628c4b85946db03e6babf68bf399edaae58fd2", func := "loop.example/g01056/laws.FnExactSubtractFracs", spec := "fnExactSubtractFracs", unfollowed := true, recurses := true, apart := false, narrowed := true }
def FnExactSubtractFracsUptoSaid : Prop := fnExactSubtractFracsUptoRow.holds Try.pinned (OpenSpec.upto fnExactSubtractFracsSpec)

/-- 'laws.FnExactMultiplyFracs', WHERE WHAT IT READS IS OF BULK AT MOST 1048576: true; the input reads as it did. -/
def fnExactMultiplyFracsUptoRow : OpenClaim := { program := "ytcnaopgikedgfaa", sum := "dd504fe366ed757c1244049e2f628c4b85946db03e6babf68bf399edaae58fd2", func := "loop.example/g01056/laws.FnExactMultiplyFracs", spec := "fnExactMultiplyFracs", unfollowed := true, recurses := true, apart := false, narrowed := true }
def FnExactMultiplyFracsUptoSaid : Prop := fnExactMultiplyFracsUptoRow.holds Try.pinned (OpenSpec.upto fnExactMultiplyFracsSpec)

/-- 'laws.FnExactDivideFracs', WHERE WHAT IT READS IS OF BULK AT MOST 1048576: true; the input reads as it did. -/
def fnExactDivideFracsUptoRow : OpenClaim := { program := "ytcnaopgikedgfaa", sum := "dd504fe366ed757c1244049e2f628c4b85946db03e6babf68bf399edaae58fd2", func := "loop.example/g01056/laws.FnExactDivideFracs", spec := "fnExactDivideFracs", unfollowed := true, recurses := true, apart := false, narrowed := true }
def FnExactDivideFracsUptoSaid : Prop := fnExactDivideFracsUptoRow.holds Try.pinned (OpenSpec.upto fnExactDivideFracsSpec)

/-- 'laws.FnExactCompareFracs', WHERE WHAT IT READS IS OF BULK AT MOST 1048576: true; the input reads as it did. -/
def fnExactCompareFracsUptoRow : OpenClaim := { program := "ytcnaopgikedgfaa", sum := "dd504fe366ed757c1244049e2f628c4b85946db03e6babf68bf399edaae58fd2", func := "loop.example/g01056/laws.FnExactCompareFracs", spec := "fnExactCompareFracs", apart := false, narrowed := true }
def FnExactCompareFracsUptoSaid : Prop := fnExactCompareFracsUptoRow.holds Try.pinned (OpenSpec.upto fnExactCompareFracsSpec)

/-- 'laws.FnExactFloorFrac', WHERE WHAT IT READS IS OF BULK AT MOST 1048576: true; the input reads as it did. -/
def fnExactFloorFracUptoRow : OpenClaim := { program := "ytcnaopgikedgfaa", sum := "dd504fe366ed757c1244049e2f628c4b85946db03e6babf68bf399edaae58fd2", func := "loop.example/g01056/laws.FnExactFloorFrac", spec := "fnExactFloorFrac", apart := false, narrowed := true }
def FnExactFloorFracUptoSaid : Prop := fnExactFloorFracUptoRow.holds Try.pinned (OpenSpec.upto fnExactFloorFracSpec)

/-- 'laws.FnExactCeilFrac', WHERE WHAT IT READS IS OF BULK AT MOST 1048576: true; the input reads as it did. -/
def fnExactCeilFracUptoRow : OpenClaim := { program := "ytcnaopgikedgfaa", sum := "dd504fe366ed757c1244049e2f628c4b85946db03e6babf68bf399edaae58fd2", func := "loop.example/g01056/laws.FnExactCeilFrac", spec := "fnExactCeilFrac", apart := false, narrowed := true }
def FnExactCeilFracUptoSaid : Prop := fnExactCeilFracUptoRow.holds Try.pinned (OpenSpec.upto fnExactCeilFracSpec)

/-- 'laws.FnExactMeanOfNumbers', WHERE WHAT IT READS IS OF BULK AT MOST 1048576: true; the input reads as it did. -/
def fnExactMeanOfNumbersUptoRow : OpenClaim := { program := "ytcnaopgikedgfaa", sum := "dd504fe366ed757c1244049e2f628c4b85946db03e6babf68bf399edaae58fd2", func := "loop.example/g01056/laws.FnExactMeanOfNumbers", spec := "fnExactMeanOfNumbers", apart := false, narrowed := true }
def FnExactMeanOfNumbersUptoSaid : Prop := fnExactMeanOfNumbersUptoRow.holds Try.pinned (OpenSpec.upto fnExactMeanOfNumbersSpec)

end Rows
end Go.Proofs.Ytcnaopgikedgfaa

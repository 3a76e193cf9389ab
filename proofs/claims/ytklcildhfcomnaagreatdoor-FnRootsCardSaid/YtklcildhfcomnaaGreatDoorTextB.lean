/-
  NumberText of the program: what each call returns.
  Condition: the library's table of powers and the program's two tables are as their text lays them.
-/
import Derived.Test.YtklcildhfcomnaaGreatDoorText
import Derived.Test.YtklcildhfcomnaaGreatDoorShelf
import Derived.Lib.AppendIntMem
import Derived.Stop.LaidErr
namespace Go.Proofs.YtklcildhfcomnaaGreatDoor
set_option linter.unusedSimpArgs false
set_option linter.unusedVariables false
open Go.ChangeShapes Go.WideShapes Go.ChangeAt Go.RowKit

/-- The table of the powers of ten of Go's library. -/
def Pows (w : World) : Prop := Lib.TabIs Tryz.prog w "internal/strconv.uint64pow10" .u64 Lib.pow10Tab
theorem Pows.below {w w' : World} (h : Pows w) (hb : Below w.heap.size w w') : Pows w' := ((Lib.tabBelow_of_tabIs h).on hb).here
theorem bytes_of {s : ByteArray} {l : List UInt8} (h : s.data.toList = l) : s = ⟨l.toArray⟩ := by
  cases s with
  | mk d => simp at h; subst h; simp
set_option maxRecDepth 100000 in
theorem pows_of_laid {W : World} {rest : List (String × DataW Unit)} (h : laidMet Tryz.prog (("internal/strconv.uint64pow10", Rows.laid_internal_strconv_uint64pow10) :: rest) W) : Pows W :=
  Lib.tabIs_of_head (show Tryz.prog.globalNamed "internal/strconv.uint64pow10" = some 1 by kernel_rfl) (show (Tryz.prog.globals[1]?).map (·.type) = some 116 by kernel_rfl) Tryz.underlying116 Tryz.underlying67 (by kernel_rfl) (by kernel_rfl)
    (show laidMet Tryz.prog (("internal/strconv.uint64pow10", Lib.tabData .u64 Lib.pow10Tab) :: rest) W from (show Rows.laid_internal_strconv_uint64pow10 = (Lib.tabData .u64 Lib.pow10Tab : DataW Unit) by kernel_rfl) ▸ h)
set_option maxRecDepth 100000 in
theorem neut_of_head {W : World} {rest : List (String × DataW Unit)} (h : laidMet Tryz.prog (("loop.example/g01056/impl.neutralNumbers", Rows.laid_loop_example_g01056_impl_neutralNumbers) :: rest) W) : Neut W := by
  have hT := Lib.tabIs_of_head (zs := [1000000000, 0]) (k := .i64) (rest := rest) (show Tryz.prog.globalNamed "loop.example/g01056/impl.neutralNumbers" = some 0 by kernel_rfl) (show (Tryz.prog.globals[0]?).map (·.type) = some 92 by kernel_rfl) Tryz.underlying92 Tryz.underlying3 (by kernel_rfl) (by kernel_rfl) h
  exact ⟨hT.cell (by kernel_rfl) 0 (by decide), hT.cell (by kernel_rfl) 1 (by decide)⟩
end Go.Proofs.YtklcildhfcomnaaGreatDoor

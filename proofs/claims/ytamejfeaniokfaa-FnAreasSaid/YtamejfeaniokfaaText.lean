/-
  Texts of numbers, of the program and of the model: what each call returns.
  Condition: the library's table of powers and the program's two tables are as their text lays them.
-/
import Derived.Test.YtamejfeaniokfaaList
import Derived.Lib.ItoaMem
import Derived.Laws.IdiomStrings
import Derived.RegionTactic
import Derived.Deep.RegionWith
import Derived.IntWalk
import Derived.Laws.Concat
import Derived.Lib.ItoaLen
namespace Go.Proofs.Ytamejfeaniokfaa
set_option linter.unusedSimpArgs false
set_option linter.unusedVariables false
open Go.ChangeShapes Go.WideShapes Go.ChangeAt Go.RowKit

/-- A text is returned, and only new memory is written. -/
def Says (l : List UInt8) (w : World) (e : Ending) (w' : World) : Prop := e = .returned (.string ⟨l.toArray⟩) ∧ Below w.heap.size w w'
theorem conv_one (w : World) (u : Nat) (hu : u < 256) : (convert 22 9 (.slice (some ⟨w.heap.size, 0, none⟩) 1 1)).run Try.prog (w.alloc (.cells #[.int .u8 (u : Int)] 5)) = .ok (.string ⟨#[UInt8.ofNat u]⟩) (w.alloc (.cells #[.int .u8 (u : Int)] 5)) := by
  have := run_convert_bytes_back (P := Try.prog) (w.alloc (.cells #[.int .u8 (u : Int)] 5)) 22 9 5 ⟨w.heap.size, 0, none⟩ 1 [UInt8.ofNat u] Try.underlying22 Try.underlying5 Try.underlying9 (fun j hj => by
    obtain rfl : j = 0 := by simpa using hj
    rw [show ((⟨w.heap.size, 0, none⟩ : Addr).add 0) = ⟨w.heap.size, 0, none⟩ from rfl, cell_of_row (w.alloc (.cells #[.int .u8 (u : Int)] 5)) w.heap.size 0 #[.int .u8 (u : Int)] 5 (0, 0) (heap_alloc_new w _)]
    simp
    omega)
  exact this
/-- A digit's byte. -/
def dgt (n : Nat) : UInt8 := UInt8.ofNat (48 + n)
theorem conv_digit (w : World) (n : Nat) (hn : n < 10) : (convert 22 9 (.slice (some ⟨w.heap.size, 0, none⟩) 1 1)).run Try.prog (w.alloc (.cells #[.int .u8 (48 + (n : Int))] 5)) = .ok (.string ⟨#[dgt n]⟩) (w.alloc (.cells #[.int .u8 (48 + (n : Int))] 5)) := by
  have := conv_one w (48 + n) (by omega)
  rwa [show ((48 + n : Nat) : Int) = 48 + (n : Int) by omega] at this
theorem conv_in (w' : World) (g n : Nat) (hn : n < 10) (hc : w'.cell? ⟨g, 0, none⟩ = some (.int .u8 (48 + (n : Int)))) : (convert 22 9 (.slice (some ⟨g, 0, none⟩) 1 1)).run Try.prog w' = .ok (.string ⟨#[dgt n]⟩) w' := by
  have := run_convert_bytes_back (P := Try.prog) w' 22 9 5 ⟨g, 0, none⟩ 1 [dgt n] Try.underlying22 Try.underlying5 Try.underlying9 (fun j hj => by
    obtain rfl : j = 0 := by simpa using hj
    rw [show ((⟨g, 0, none⟩ : Addr).add 0) = ⟨g, 0, none⟩ from rfl, hc]
    show some (Value.int .u8 (48 + (n : Int))) = some (.int .u8 ((UInt8.ofNat (48 + n)).toNat : Int))
    simp
    omega)
  exact this
theorem conv_below {w w1 : World} {n : Nat} (hn : n < 10) (hb : Below (w.alloc (.cells #[.int .u8 (48 + (n : Int))] 5)).drew.heap.size (w.alloc (.cells #[.int .u8 (48 + (n : Int))] 5)).drew w1) : (convert 22 9 (.slice (some ⟨w.heap.size, 0, none⟩) 1 1)).run Try.prog w1 = .ok (.string ⟨#[dgt n]⟩) w1 :=
  conv_in w1 w.heap.size n hn ((hb.cell (p := ⟨w.heap.size, 0, none⟩) (by simp)).trans (cell_of_row (w.alloc (.cells #[.int .u8 (48 + (n : Int))] 5)) w.heap.size 0 #[.int .u8 (48 + (n : Int))] 5 (0, 0) (heap_alloc_new w _)))
theorem bel_drew {w w1 : World} (hb : Below w.drew.heap.size w.drew w1) : Below w.heap.size w w1 := (Below.refl _ _).drew.trans hb
theorem bel_alloc {w w1 : World} {o : Obj} (hb : Below (w.alloc o).drew.heap.size (w.alloc o).drew w1) : Below w.heap.size w w1 := (((Below.refl _ _).alloc (Nat.le_refl _) _).drew).trans (hb.mono (by simp))
theorem dec_one {n : Nat} (h : n < 10) : Lib.decDigits n = [dgt n] := Lib.decDigits_one h
theorem dec_more {n : Nat} (h : ¬ n < 10) : Lib.decDigits n = Lib.decDigits (n / 10) ++ [dgt (n % 10)] := by rw [Lib.decDigits, dif_neg h]; rfl
/-- A number's text. -/
def numText (n : Int) : List UInt8 := if n = 1000000000 then [105, 110, 102] else Lib.itoa n
/-- What NumberText gives. -/
def ntL (n : Int) : List UInt8 := if numB n = true then numText n else []
def GivesT (n : Int) (w : World) (e : Ending) (w' : World) : Prop := e = .returned (.tuple #[.string ⟨(ntL n).toArray⟩, .bool (numB n)]) ∧ Below w.heap.size w w'
theorem givesT_no {n : Int} {w w' : World} (h : numB n = false) (hb : Below w.heap.size w w') : GivesT n w (.returned (.tuple #[.string ⟨#[]⟩, .bool false])) w' := by
  refine ⟨?_, hb⟩
  rw [h, show ntL n = [] from if_neg (by simp [h])]
theorem givesT_yes {n : Int} {l : List UInt8} {w w' : World} (h : numB n = true) (hl : l = numText n) (hb : Below w.heap.size w w') : GivesT n w (.returned (.tuple #[.string ⟨l.toArray⟩, .bool true])) w' := by
  refine ⟨?_, hb⟩
  rw [h, hl, show ntL n = numText n from if_pos h]
end Go.Proofs.Ytamejfeaniokfaa

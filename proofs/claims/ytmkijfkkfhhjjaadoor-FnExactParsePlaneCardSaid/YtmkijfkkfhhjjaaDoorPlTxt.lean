/-
  Texts of polynomials in two unknowns, of the program and of the model: what each call returns.
  Conditions: the slice reads as the list that is named; the program's two tables and the library's table of powers read as their text lays them.
-/
import Derived.Test.YtmkijfkkfhhjjaaDoorTmG
import Derived.Test.YtmkijfkkfhhjjaaDoorParse
import Derived.Test.YtmkijfkkfhhjjaaDoorBuild
import Derived.Test.YtmkijfkkfhhjjaaDoorTx
namespace Go.Proofs.YtmkijfkkfhhjjaaDoor
set_option linter.unusedSimpArgs false
set_option linter.unusedVariables false
open Go.ChangeShapes Go.WideShapes Go.ChangeAt Go.RowKit

/-- A term's text but for its end; and with it. -/
def tmx (t : Tm) : List UInt8 := Lib.itoa t.2.2 ++ [58] ++ Lib.itoa t.1 ++ [44] ++ Lib.itoa t.2.1
def tmE (t : Tm) : List UInt8 := tmx t ++ [59]
def txT (l : List Tm) (k : Nat) : List UInt8 := (l.take k).flatMap tmE
theorem txT_next {l : List Tm} {k : Nat} (hk : k < l.length) : txT l (k + 1) = txT l k ++ tmE (td l k) := by
  unfold txT
  rw [take_td l k hk, List.flatMap_append]
  simp
theorem tmE_len {t : Tm} (h : plT t = true) : (tmE t).length ≤ 36 := by
  obtain ⟨h1, h2, h3, h4, h5⟩ := plT_parts h
  have a := itoa_sh t.1 (by omega)
  have b := itoa_sh t.2.1 (by omega)
  have c := itoa_sh t.2.2 (by omega)
  unfold tmE tmx
  simp only [List.length_append, List.length_cons, List.length_nil]
  omega
theorem txT_len {l : List Tm} (h : ∀ t ∈ l, plT t = true) : ∀ k, k ≤ l.length → (txT l k).length ≤ 36 * k
  | 0, _ => by simp [txT]
  | k + 1, hk => by
    have ih := txT_len h k (by omega)
    have := tmE_len (h _ (td_mem (l := l) (k := k) (by omega)))
    rw [txT_next (by omega), List.length_append]; omega
def pxR (l : List Tm) : List UInt8 := if plB l = true then txT l l.length else []
theorem pxR_yes {l : List Tm} (h : plB l = true) : pxR l = txT l l.length := if_pos h
theorem pxR_no {l : List Tm} (h : plB l = false) : pxR l = [] := if_neg (by simp [h])
def GivesPX (zs : List Tm) (w : World) (e : Ending) (w' : World) : Prop := e = .returned (.tuple #[.string ⟨(pxR zs).toArray⟩, .bool (plB zs)]) ∧ Below w.heap.size w w'
theorem givesPX_no {zs : List Tm} {w w' : World} (h : plB zs = false) (hb : Below w.heap.size w w') : GivesPX zs w (.returned (.tuple #[.string ⟨#[]⟩, .bool false])) w' := by
  refine ⟨?_, hb⟩
  rw [h, pxR_no h]
theorem givesPX_yes {zs : List Tm} {l : List UInt8} {w w' : World} (h : plB zs = true) (hl : l = pxR zs) (hb : Below w.heap.size w w') : GivesPX zs w (.returned (.tuple #[.string ⟨l.toArray⟩, .bool true])) w' := by
  refine ⟨?_, hb⟩
  rw [h, hl]
theorem T3.drew {w : World} {g : Nat} {t : Tm} (h : T3 w g t) : T3 w.drew g t := h
theorem T3.drewN {w : World} {g : Nat} {t : Tm} (h : T3 w g t) (n : Nat) : T3 (w.drewN n) g t := h
/-- The pieces of a term's text. -/
theorem tmE_eq (i j : Nat) (C : Int) : tmE (i, j, C) = Lib.itoa C ++ [58] ++ Lib.decDigits i ++ [44] ++ Lib.decDigits j ++ [59] := by
  show Lib.itoa C ++ [58] ++ Lib.itoa (i : Int) ++ [44] ++ Lib.itoa (j : Int) ++ [59] = _
  rw [Lib.itoa_nonneg i, Lib.itoa_nonneg j]
end Go.Proofs.YtmkijfkkfhhjjaaDoor

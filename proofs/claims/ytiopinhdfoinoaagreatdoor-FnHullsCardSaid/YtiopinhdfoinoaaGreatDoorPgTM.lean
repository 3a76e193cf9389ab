/-
  Texts of lists of points: plain mathematics, and what a text call gives.
  No condition.
-/
import Derived.Test.YtiopinhdfoinoaaGreatDoorPgI
import Derived.Test.YtiopinhdfoinoaaGreatDoorTx
namespace Go.Proofs.YtiopinhdfoinoaaGreatDoor
set_option linter.unusedSimpArgs false
set_option linter.unusedVariables false
open Go.ChangeShapes Go.WideShapes Go.ChangeAt Go.RowKit

/-- A point's text but for its end; and with it; a list's. -/
def pyx (t : Pt) : List UInt8 := Lib.itoa t.1 ++ [44] ++ Lib.itoa t.2
def pyE (t : Pt) : List UInt8 := pyx t ++ [59]
def pyT (l : List Pt) (k : Nat) : List UInt8 := (l.take k).flatMap pyE
def pyA (l : List Pt) : List UInt8 := pyT l l.length
theorem pyT_next {l : List Pt} {k : Nat} (hk : k < l.length) : pyT l (k + 1) = pyT l k ++ pyE (pd l k) := by
  unfold pyT
  rw [take_pd l k hk, List.flatMap_append]
  simp
theorem pyE_len {t : Pt} (h : Sm 1000000000 t) : (pyE t).length ≤ 24 := by
  unfold Sm at h
  have a := itoa_sh t.1 (by omega)
  have b := itoa_sh t.2 (by omega)
  unfold pyE pyx
  simp only [List.length_append, List.length_cons, List.length_nil]
  omega
theorem pyT_len {l : List Pt} (h : ∀ t ∈ l, Sm 1000000000 t) : ∀ k, k ≤ l.length → (pyT l k).length ≤ 24 * k
  | 0, _ => by simp [pyT]
  | k + 1, hk => by
    have ih := pyT_len h k (by omega)
    have := pyE_len (h _ (pd_mem (l := l) (k := k) (by omega)))
    rw [pyT_next (by omega), List.length_append]; omega
def pyR (l : List Pt) : List UInt8 := if pgB l = true then pyA l else []
theorem pyR_yes {l : List Pt} (h : pgB l = true) : pyR l = pyA l := if_pos h
theorem pyR_no {l : List Pt} (h : pgB l = false) : pyR l = [] := if_neg (by simp [h])
def GivesPyX (zs : List Pt) (w : World) (e : Ending) (w' : World) : Prop := e = .returned (.tuple #[.string ⟨(pyR zs).toArray⟩, .bool (pgB zs)]) ∧ Below w.heap.size w w'
theorem givesPyX_no {zs : List Pt} {w w' : World} (h : pgB zs = false) (hb : Below w.heap.size w w') : GivesPyX zs w (.returned (.tuple #[.string ⟨#[]⟩, .bool false])) w' := by
  refine ⟨?_, hb⟩
  rw [h, pyR_no h]
theorem givesPyX_yes {zs : List Pt} {l : List UInt8} {w w' : World} (h : pgB zs = true) (hl : l = pyR zs) (hb : Below w.heap.size w w') : GivesPyX zs w (.returned (.tuple #[.string ⟨l.toArray⟩, .bool true])) w' := by
  refine ⟨?_, hb⟩
  rw [h, hl]
theorem pg_pts {l : List Pt} (h : pgB l = true) : 1 ≤ l.length ∧ l.length ≤ 40 ∧ ∀ p ∈ l, Sm 100 p := by
  have := (ptsB_iff l).1 ((pgB_iff l).1 h).1
  exact ⟨this.1, this.2.1, fun p hp => Sm.of (this.2.2 p hp)⟩
end Go.Proofs.YtiopinhdfoinoaaGreatDoor

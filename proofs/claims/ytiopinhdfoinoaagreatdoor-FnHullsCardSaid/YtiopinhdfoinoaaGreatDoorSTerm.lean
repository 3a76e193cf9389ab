/-
  Slices of the struct Term in the laws: compared, marked, read again, copied.
  Conditions: the slices are not too long, and read as the cells that are named.
-/
import Derived.Test.YtiopinhdfoinoaaGreatDoorRow
import Derived.Deep.Slices
import Derived.Deep.Fields
import Derived.ChangeSame
namespace Go.Proofs.YtiopinhdfoinoaaGreatDoor
set_option linter.unusedSimpArgs false
set_option linter.unusedVariables false
open Go.ChangeShapes Go.WideShapes Go.ChangeAt Go.RowKit
open Go.Sort (grow)

end Go.Proofs.YtiopinhdfoinoaaGreatDoor
/-
  A slice of structs of integers that came in: its elements, cell by cell.
  Condition: each field of the struct is an int.
-/
namespace Go.Proofs.YtiopinhdfoinoaaGreatDoor
set_option linter.unusedSimpArgs false
set_option linter.unusedVariables false
open Go.ChangeShapes Go.WideShapes Go.ChangeAt Go.RowKit Go.Deep

/-- What the walk is told of a slice of structs of k integers that came in. -/
def IsRowF (k : Nat) (w : World) (a : Option Addr) (len : Nat) (zs : List Int) : Prop :=
  zs.length = len * k ∧ len ≤ maxLen ∧ RD w a zs
/-- The integer in a cell. -/
def intAt (w : World) (a : Addr) : Int := match w.cell? a with
  | some (.int _ z) => z
  | _ => 0
section
variable {H : Type} {enc : TypeId × Value → H} {P : Program} {w : World} {base : Nat} {spare : Nat → Bool} {held : Bool}
/-- Is each field an int. -/
def intFields (P : Program) (fs : Array Field) : Bool := fs.toList.all fun f => match P.underlying f.type with
  | some (.int .i64) => true
  | _ => false
theorem int_fields {fs : Array Field} (h : intFields P fs = true) (j : Nat) (f : Field) (hj : fs[j]? = some f) : P.underlying f.type = some (.int .i64) := by
  have h1 := List.all_eq_true.1 h f (by rw [← Array.mem_def]; exact Array.mem_of_getElem? hj)
  split at h1
  · assumption
  · cases h1
theorem cells_of_struct {e : TypeId} {fs : Array Field} {fuel : Nat} {cs : List Value} {x : DataW H × List MemPlace} (he : P.underlying e = some (.struct fs)) (h1 : oneCellFields P fs = true)
    (hi : ∀ (j : Nat) (f : Field), fs[j]? = some f → P.underlying f.type = some (.int .i64)) (h : DataW.trod enc P w base spare held fuel e cs = some x) :
    ∀ j, j < fs.size → ∃ z : Int, cs[j]? = some (.int .i64 z) := by
  intro j hj
  obtain ⟨ys, m, -, -, -, hy, hf⟩ := DataW.trod_struct he h
  have hfj : fs[j]? = some (fs[j]) := Array.getElem?_eq_getElem hj
  obtain ⟨ho, hc⟩ := hone_of h1 j _ hfj
  have hr := hf j _ hfj
  rw [ho, hc, List.getElem?_eq_getElem (by omega : j < ys.length)] at hr
  obtain ⟨z, hz, -, -⟩ := DataW.trod_int (hi j _ hfj) hr
  refine ⟨z, ?_⟩
  have h0 : ((cs.drop j).take 1)[0]? = some (Value.int .i64 z) := by rw [hz]; rfl
  rw [List.getElem?_take_of_lt (by omega), List.getElem?_drop] at h0
  simpa using h0
theorem open_structs {t e : TypeId} {fs : Array Field} {fuel : Nat} {cs : List Value} {x : DataW H × List MemPlace} (ht : P.underlying t = some (.slice e)) (he : P.underlying e = some (.struct fs)) (h1 : oneCellFields P fs = true)
    (hi0 : intFields P fs = true) (k : Nat) (hk : P.cellsOf e = k) (hs : fs.size = k) (hk0 : 0 < k) (h : DataW.trod enc P w base spare held fuel t cs = some x) :
    cs = [.slice none 0 0] ∨ ∃ (a : Addr) (len cap : Nat) (zs : List Int), cs = [.slice (some a) len cap] ∧ IsRowF k w (some a) len zs := by
  rcases open_slice ht h with ⟨h0, -⟩ | ⟨a, len, cap, m, n, D, Pl, hcs, hb, hl, hm, hmm, hx, hel⟩
  · exact .inl h0
  · refine .inr ⟨a, len, cap, (List.range (len * k)).map fun i => intAt w (a.add i), hcs, by simp, by omega, fun i hil => ?_⟩
    have hil : i < len * k := by simpa using hil
    suffices hc : w.cell? (a.add i) = some (.int .i64 (intAt w (a.add i))) by
      refine ⟨a, rfl, ?_, ?_⟩
      · have := cell_lt hc
        unfold Addr.add at this
        split at this <;> simpa using this
      · rw [gd_eq _ _ (by simpa using hil)]; simpa using hc
    have hq : i / k < len := Nat.div_lt_of_lt_mul (by rw [Nat.mul_comm]; exact hil)
    have hqm : i / k < m := by rw [hmm]; split <;> omega
    have hr : i % k < k := Nat.mod_lt _ hk0
    obtain ⟨cs', hc, ht'⟩ := hel (i / k) hqm
    rw [hk] at hc
    obtain ⟨-, -, hat⟩ := World.cells?_some hc
    obtain ⟨z, hz⟩ := cells_of_struct he h1 (int_fields hi0) ht' (i % k) (by omega)
    have h2 := hat (i % k) hr
    rw [Go.Deep.add_add, hz, show i / k * k + i % k = i by rw [Nat.mul_comm]; exact Nat.div_add_mod i k] at h2
    unfold intAt
    rw [h2]
theorem cells_of_structW {e : TypeId} {fs : Array Field} {fuel : Nat} {cs : List Value} {x : DataW H × List MemPlace} (he : P.underlying e = some (.struct fs)) (h1 : oneCellFields P fs = true)
    (hi : ∀ (j : Nat) (f : Field), fs[j]? = some f → P.underlying f.type = some (.int .i64)) (h : DataW.trod enc P w base spare held fuel e cs = some x) :
    ∀ j, j < fs.size → ∃ z : Int, cs[j]? = some (.int .i64 z) ∧ (Lit.int .i64 z).wf = true := by
  intro j hj
  obtain ⟨ys, m, -, -, -, hy, hf⟩ := DataW.trod_struct he h
  have hfj : fs[j]? = some (fs[j]) := Array.getElem?_eq_getElem hj
  obtain ⟨ho, hc⟩ := hone_of h1 j _ hfj
  have hr := hf j _ hfj
  rw [ho, hc, List.getElem?_eq_getElem (by omega : j < ys.length)] at hr
  obtain ⟨z, hz, -, hw⟩ := DataW.trod_int (hi j _ hfj) hr
  refine ⟨z, ?_, hw⟩
  have h0 : ((cs.drop j).take 1)[0]? = some (Value.int .i64 z) := by rw [hz]; rfl
  rw [List.getElem?_take_of_lt (by omega), List.getElem?_drop] at h0
  simpa using h0
/-- As 'open_structs'; and all its integers are Go's. -/
theorem open_structsW {t e : TypeId} {fs : Array Field} {fuel : Nat} {cs : List Value} {x : DataW H × List MemPlace} (ht : P.underlying t = some (.slice e)) (he : P.underlying e = some (.struct fs)) (h1 : oneCellFields P fs = true)
    (hi0 : intFields P fs = true) (k : Nat) (hk : P.cellsOf e = k) (hs : fs.size = k) (hk0 : 0 < k) (h : DataW.trod enc P w base spare held fuel t cs = some x) :
    cs = [.slice none 0 0] ∨ ∃ (a : Addr) (len cap : Nat) (zs : List Int), cs = [.slice (some a) len cap] ∧ IsRowF k w (some a) len zs ∧ ∀ x ∈ zs, (Lit.int .i64 x).wf = true := by
  rcases open_slice ht h with ⟨h0, -⟩ | ⟨a, len, cap, m, n, D, Pl, hcs, hb, hl, hm, hmm, hx, hel⟩
  · exact .inl h0
  · have key : ∀ i, i < len * k → ∃ z, w.cell? (a.add i) = some (.int .i64 z) ∧ (Lit.int .i64 z).wf = true := by
      intro i hil
      have hq : i / k < len := Nat.div_lt_of_lt_mul (by rw [Nat.mul_comm]; exact hil)
      have hqm : i / k < m := by rw [hmm]; split <;> omega
      have hr : i % k < k := Nat.mod_lt _ hk0
      obtain ⟨cs', hc, ht'⟩ := hel (i / k) hqm
      rw [hk] at hc
      obtain ⟨-, -, hat⟩ := World.cells?_some hc
      obtain ⟨z, hz, hwz⟩ := cells_of_structW he h1 (int_fields hi0) ht' (i % k) (by omega)
      have h2 := hat (i % k) hr
      rw [Go.Deep.add_add, hz, show i / k * k + i % k = i by rw [Nat.mul_comm]; exact Nat.div_add_mod i k] at h2
      exact ⟨z, h2, hwz⟩
    have hin : ∀ i, i < len * k → w.cell? (a.add i) = some (.int .i64 (intAt w (a.add i))) ∧ (Lit.int .i64 (intAt w (a.add i))).wf = true := by
      intro i hil
      obtain ⟨z, h2, hwz⟩ := key i hil
      have : intAt w (a.add i) = z := by unfold intAt; rw [h2]
      rw [this]
      exact ⟨h2, hwz⟩
    refine .inr ⟨a, len, cap, (List.range (len * k)).map fun i => intAt w (a.add i), hcs, ⟨by simp, by omega, fun i hil => ?_⟩, ?_⟩
    · have hil : i < len * k := by simpa using hil
      have hc := (hin i hil).1
      refine ⟨a, rfl, ?_, ?_⟩
      · have := cell_lt hc
        unfold Addr.add at this
        split at this <;> simpa using this
      · rw [gd_eq _ _ (by simpa using hil)]; simpa using hc
    · intro x hx
      obtain ⟨i, hi, rfl⟩ := List.mem_map.1 hx
      exact (hin i (List.mem_range.1 hi)).2
end
end Go.Proofs.YtiopinhdfoinoaaGreatDoor
/-
  Slices of the struct Point in the laws: compared, marked, read again, copied.
  Conditions: the slices are not too long, and read as the cells that are named.
-/
namespace Go.Proofs.YtiopinhdfoinoaaGreatDoor
set_option linter.unusedSimpArgs false
set_option linter.unusedVariables false
open Go.ChangeShapes Go.WideShapes Go.ChangeAt Go.RowKit
open Go.Sort (grow)

end Go.Proofs.YtiopinhdfoinoaaGreatDoor

/-
  Slices of integers that a call owns, and the functions on lists of numbers: what each call returns.
  Condition: the slice reads as the list that is named.
-/
import Derived.Test.YtamejfeaniokfaaNum
import Derived.Below
import Derived.OwnWalk
import Derived.Laws.OwnMore
import Derived.LoopTactic
import Derived.Deep.Draws
import Derived.Deep.QuietTactic
import Derived.BigQuiet
import Derived.Lib.BufferOwn
namespace Go.Proofs.Ytamejfeaniokfaa
set_option linter.unusedSimpArgs false
set_option linter.unusedVariables false
open Go.ChangeShapes Go.WideShapes Go.ChangeAt Go.RowKit

abbrev ints (zs : List Int) : List Value := zs.map (Value.int .i64)
/-- The slice value v is of this call's own (from block B on) and reads as zs. -/
def IS (w : World) (B : Nat) (v : Value) (zs : List Int) : Prop := w.ownsRow B 3 1 v zs.length (ints zs)

/-- The element at a place. -/
def gd (zs : List Int) (k : Nat) : Int := zs.getD k 0
section
variable {w w' : World} {B B' : Nat} {v : Value} {zs : List Int}
theorem IS.base (h : IS w B v zs) (hB : B' ≤ B) : IS w B' v zs := by
  refine ⟨h.1, ?_⟩
  rcases h.2 with h0 | ⟨g, cap, cur, h1, h2, h3⟩
  · exact .inl h0
  · exact .inr ⟨g, cap, cur, h1, by omega, h3⟩
theorem IS.keep (h : IS w B v zs) (hk : ∀ g, v.ownBlock = some g → w'.heap[g]? = w.heap[g]?) : IS w' B v zs := by
  refine ⟨h.1, ?_⟩
  rcases h.2 with h0 | ⟨g, cap, cur, h1, h2, h3, h4⟩
  · exact .inl h0
  · exact .inr ⟨g, cap, cur, h1, h2, (hk g (by rw [h1]; rfl)).trans h3, h4⟩
theorem IS.lt (h : IS w B v zs) : ∀ g, v.ownBlock = some g → B ≤ g ∧ g < w.heap.size := World.ownsRow.lt h
theorem IS.below (h : IS w B v zs) (hb : Below w.heap.size w w') : IS w' B v zs := h.keep fun g hg => hb.block g (h.lt g hg).2
theorem IS.drewN (h : IS w B v zs) (n : Nat) : IS (w.drewN n) B v zs := h
theorem IS.alloc (h : IS w B v zs) (o : Obj) : IS (w.alloc o) B v zs := World.ownsRow.alloc h o
/-- Another row is written: this one stays. -/
theorem IS.other (h : IS w B v zs) {row : Option Nat} (hg : w.grownBy w' row) (hne : ∀ g, v.ownBlock = some g → some g ≠ row) : IS w' B v zs :=
  h.keep fun g hv => hg.block g (h.lt g hv).2 (hne g hv)
theorem IS.nil_ (w : World) (B : Nat) : IS w B (.slice none 0 0) [] := World.ownsRow_nil w B _ 1
theorem getD_ints (zs : List Int) (k : Nat) (hk : k < zs.length) : (ints zs)[k]? = some (.int .i64 (gd zs k)) := by
  simp [hk, gd, List.getD_eq_getElem?_getD]
theorem IS.parts (h : IS w B v zs) : ∃ A cap, v = .slice A zs.length cap ∧ zs.length ≤ maxLen ∧ ∀ k, k < zs.length → ∃ g, A = some ⟨g, 0, none⟩ ∧ w.cell? ⟨g, k, none⟩ = some (.int .i64 (gd zs k)) := by
  rcases h.2 with ⟨rfl, h0⟩ | ⟨g, cap, cur, rfl, h2, h3, h4, h5, h6, h7⟩
  · exact ⟨none, 0, by rw [h0], by simp [maxLen, h0], fun k hk => by omega⟩
  · refine ⟨some ⟨g, 0, none⟩, cap, rfl, by omega, fun k hk => ⟨g, rfl, ?_⟩⟩
    rw [World.ownsRow.cellAt h k (by omega), getD_ints zs k hk]
end
theorem gd_eq (zs : List Int) (k : Nat) (hk : k < zs.length) : gd zs k = zs[k] := by
  unfold gd; rw [List.getD_eq_getElem?_getD, List.getElem?_eq_getElem hk]; rfl
theorem take_succ_gd (zs : List Int) (k : Nat) (hk : k < zs.length) : zs.take (k + 1) = zs.take k ++ [gd zs k] := by
  unfold gd; rw [List.take_succ_eq_append_getElem hk, List.getD_eq_getElem?_getD, List.getElem?_eq_getElem hk]; rfl

/-- Are they a list of numbers, not too many. -/
def listB (zs : List Int) : Bool := decide (zs.length ≤ 20) && zs.all numB
theorem all_bad (zs : List Int) (k : Nat) (hk : k < zs.length) (h : numB (gd zs k) = false) : zs.all numB = false := by
  rw [List.all_eq_false]
  exact ⟨zs[k], List.getElem_mem hk, by rw [gd_eq zs k hk] at h; simpa using h⟩
theorem all_next (zs : List Int) (k : Nat) (hk : k < zs.length) (h0 : (zs.take k).all numB = true) (h : numB (gd zs k) = true) : (zs.take (k + 1)).all numB = true := by
  rw [take_succ_gd zs k hk, List.all_append, h0]; simpa using h
theorem all_end (zs : List Int) (k : Nat) (hk : ¬ k < zs.length) (h0 : (zs.take k).all numB = true) : zs.all numB = true := by
  rwa [List.take_of_length_le (by omega)] at h0

theorem bel2 {w w1 w2 : World} (h : Below w.heap.size w w1) (h' : Below w1.heap.size w1 w2) : Below w.heap.size w w2 := h.trans (h'.mono h.size)
theorem belN {w w1 : World} (h : Below w.heap.size w w1) (n : Nat) : Below w.heap.size w (w1.drewN n) := ⟨h.os, h.tape, h.output, h.size, h.block⟩
/-- Where a slice's own block lies. -/
def In (v : Value) (lo hi : Nat) : Prop := ∀ g, v.ownBlock = some g → lo ≤ g ∧ g < hi
theorem IS.in_ {w : World} {B : Nat} {v : Value} {zs : List Int} (h : IS w B v zs) : In v B w.heap.size := h.lt
/-- Another row is marked: this one stays. -/
theorem IS.marked {w w' : World} {B a b c d : Nat} {v x : Value} {zs : List Int} (h : IS w B v zs) (hv : In v a b) (hx : In x c d) (hd : b ≤ c ∨ d ≤ a) (hg : w.grownBy w' x.ownBlock) : IS w' B v zs :=
  h.other hg fun g hgv he => by
    have h1 := hv g hgv
    have h2 := hx g he.symm
    omega
theorem belM {w w1 w2 : World} {x : Value} {c d : Nat} (h : Below w.heap.size w w1) (hx : In x c d) (hc : w.heap.size ≤ c) (hg : w1.grownBy w2 x.ownBlock) : Below w.heap.size w w2 :=
  h.grown hg h.size fun k hk => by have := hx k hk; omega
/-- WHAT THE WALK IS TOLD OF A SLICE OF INTEGERS THAT CAME IN: it is nil; or it leads to a row of 'cap' cells, the numbers 'zs' (the first 'len' are its elements, the rest its spare room), each fitting its kind. -/
def IsRow (k : IntKind) (w : World) (a : Option Addr) (len cap : Nat) (zs : List Int) : Prop :=
  (a = none ∧ len = 0 ∧ cap = 0 ∧ zs = []) ∨
  ∃ x, a = some x ∧ len ≤ cap ∧ cap ≤ maxLen ∧ zs.length = cap ∧ (∀ i, i < zs.length → w.cell? (x.add i) = some (.int k (zs.getD i 0))) ∧ ∀ n ∈ zs, (Lit.int k n).wf = true
theorem cell_lt {w : World} {a : Addr} {u : Value} (h : w.cell? a = some u) : a.block < w.heap.size := by
  rcases Nat.lt_or_ge a.block w.heap.size with hl | hg
  · exact hl
  · unfold World.cell? at h; rw [Array.getElem?_eq_none hg] at h; cases h
theorem infoInt : (Try.prog.info? 3).map (fun i => (i.zero, i.size, i.bytes)) = some (some (.int .i64 0), 1, 8) := by kernel_rfl
/-- A slice that came in: its elements read as zs. -/
def RD (w : World) (A : Option Addr) (zs : List Int) : Prop := ∀ k, k < zs.length → ∃ ad, A = some ad ∧ ad.block < w.heap.size ∧ w.cell? (ad.add k) = some (.int .i64 (gd zs k))
theorem RD.below {w w' : World} {A : Option Addr} {zs : List Int} (h : RD w A zs) (hb : Below w.heap.size w w') : RD w' A zs := fun k hk => by
  obtain ⟨ad, h1, h2, h3⟩ := h k hk
  have hs := hb.size
  refine ⟨ad, h1, by omega, ?_⟩
  rw [hb.cell (p := ad.add k) (by unfold Addr.add; split <;> simpa using h2), h3]
/-- The elements of a slice that came in. -/
theorem RD.of_row {w : World} {A : Option Addr} {len cap : Nat} {zs : List Int} (h : IsRow .i64 w A len cap zs) : RD w A (zs.take len) ∧ (zs.take len).length = len := by
  rcases h with ⟨rfl, rfl, rfl, rfl⟩ | ⟨x, rfl, h1, h2, h3, h4, h5⟩
  · exact ⟨fun k hk => by simp at hk, rfl⟩
  · refine ⟨fun k hk => ⟨x, rfl, ?_, ?_⟩, by simp; omega⟩
    · have hl : k < zs.length := by simp at hk; omega
      have := cell_lt (h4 k hl)
      unfold Addr.add at this
      split at this <;> simpa using this
    · have hl : k < zs.length ∧ k < len := by simp at hk; omega
      rw [h4 k hl.1]
      unfold gd
      simp [hl.2]
/-- What a call gives that makes a new slice. -/
def GivesI (zs : List Int) (w : World) (e : Ending) (w' : World) : Prop := ∃ r, e = .returned r ∧ IS w' w.heap.size r zs ∧ Below w.heap.size w w'
/-- The first k elements are copied. -/
def part (zs : List Int) (k : Nat) : List Int := zs.take k ++ List.replicate (zs.length - k) 0
theorem part_len (zs : List Int) (k : Nat) (hk : k ≤ zs.length) : (part zs k).length = zs.length := by unfold part; simp; omega
theorem part_end (zs : List Int) (k : Nat) (hk : ¬ k < zs.length) : part zs k = zs := by
  unfold part; rw [List.take_of_length_le (by omega), show zs.length - k = 0 by omega]; simp
theorem part_set (zs : List Int) (k : Nat) (hk : k < zs.length) : (part zs k).set k (gd zs k) = part zs (k + 1) := by
  unfold part
  rw [take_succ_gd zs k hk, show zs.length - k = (zs.length - (k + 1)) + 1 by omega, List.replicate_succ, List.set_append_right _ _ (by simp; omega)]
  simp [List.length_take, Nat.min_eq_left (Nat.le_of_lt hk)]
/-- The owned row at the head of a round. -/
def Row (w : World) (B g n : Nat) (zs : List Int) : Prop := w.ownsRow B 3 1 (.slice (some ⟨g, 0, none⟩) n n) n (ints zs)
theorem Row.store {w : World} {B g n : Nat} {zs : List Int} (h : Row w B g n zs) (k : Nat) (u : Int) : Row (w.setCell ⟨g, k, none⟩ (.int .i64 u)) B g n (zs.set k u) := by
  have := (World.ownsRow.stored h k (.int .i64 u)).1
  unfold Row ints
  rw [List.map_set]
  exact this
theorem eq_bad (zs ys : List Int) (k : Nat) (h : gd zs k ≠ gd ys k) : zs ≠ ys := by
  rintro rfl; exact h rfl
theorem eq_end (zs ys : List Int) (hl : zs.length = ys.length) (h : zs.take zs.length = ys.take zs.length) : zs = ys := by
  rw [List.take_length] at h; rw [h, hl, List.take_length]
theorem eq_next (zs ys : List Int) (k : Nat) (hk : k < zs.length) (hk' : k < ys.length) (h0 : zs.take k = ys.take k) (h : gd zs k = gd ys k) : zs.take (k + 1) = ys.take (k + 1) := by
  rw [take_succ_gd zs k hk, take_succ_gd ys k hk', h0, h]
/-- An answer, and nothing but draws. -/
def SaysB (b : Bool) (w : World) (e : Ending) (w' : World) : Prop := e = .returned (.bool b) ∧ ∃ n, w' = w.drewN n
/-- k, k + 1, .. -/
def upFrom (k : Int) : Nat → List Int
  | 0 => []
  | n + 1 => k :: upFrom (k + 1) n
theorem upFrom_len (k : Int) (n : Nat) : (upFrom k n).length = n := by
  induction n generalizing k with
  | zero => rfl
  | succ n ih => simp [upFrom, ih]
theorem upFrom_gd (n : Nat) : ∀ (k : Int) (j : Nat), j < n → gd (upFrom k n) j = k + j := by
  induction n with
  | zero => intro k j h; omega
  | succ n ih =>
    intro k j h
    cases j with
    | zero => simp [upFrom, gd]
    | succ j =>
      have := ih (k + 1) j (by omega)
      simp [upFrom, gd] at this ⊢
      rw [this]; omega
/-- The first j elements are marked. -/
def marked (k : Int) (zs : List Int) (j : Nat) : List Int := (upFrom k zs.length).take j ++ zs.drop j
theorem marked_len (k : Int) (zs : List Int) (j : Nat) (hj : j ≤ zs.length) : (marked k zs j).length = zs.length := by
  unfold marked; rw [List.length_append, List.length_take, upFrom_len, List.length_drop]; omega
theorem marked_set (k : Int) (zs : List Int) (j : Nat) (hj : j < zs.length) : (marked k zs j).set j (k + j) = marked k zs (j + 1) := by
  unfold marked
  rw [take_succ_gd _ j (by rw [upFrom_len]; exact hj), upFrom_gd _ k j hj, List.set_append_right _ _ (by rw [List.length_take, upFrom_len]; omega)]
  rw [List.length_take, upFrom_len, Nat.min_eq_left (Nat.le_of_lt hj), Nat.sub_self, List.drop_eq_getElem_cons hj, List.set_cons_zero, List.append_assoc]
  rfl
theorem marked_end (k : Int) (zs : List Int) (j : Nat) (hj : ¬ j < zs.length) : marked k zs j = upFrom k zs.length := by
  unfold marked
  rw [List.take_of_length_le (by rw [upFrom_len]; omega), List.drop_eq_nil_of_le (by omega), List.append_nil]
/-- What marking does: the row counts up from k, nothing else has changed. -/
def Marks (B : Nat) (v : Value) (k : Int) (n : Nat) (w : World) (e : Ending) (w' : World) : Prop :=
  e = .returned (.int .i64 (k + n)) ∧ IS w' B v (upFrom k n) ∧ w.grownBy w' v.ownBlock ∧ w'.heap.size = w.heap.size
/-- The least one, Infinity of none. -/
def leastL (zs : List Int) : Int := zs.foldl lessI 1000000000
theorem least_next (zs : List Int) (k : Nat) (hk : k < zs.length) : leastL (zs.take (k + 1)) = lessI (leastL (zs.take k)) (gd zs k) := by
  unfold leastL; rw [take_succ_gd zs k hk, List.foldl_append]; rfl
theorem least_end (zs : List Int) (k : Nat) (hk : ¬ k < zs.length) : leastL (zs.take k) = leastL zs := by rw [List.take_of_length_le (by omega)]
end Go.Proofs.Ytamejfeaniokfaa

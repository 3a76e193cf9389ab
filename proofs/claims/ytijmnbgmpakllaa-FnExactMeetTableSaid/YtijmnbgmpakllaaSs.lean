/-
  Slices of slices that came in: of integers, or of structs of integers: their rows, cell by cell.
  Condition: each element (each field of the struct) is an int.
-/
import Derived.Test.YtijmnbgmpakllaaSTerm
import Derived.Deep.Matrix
namespace Go.Proofs.Ytijmnbgmpakllaa
set_option linter.unusedSimpArgs false
set_option linter.unusedVariables false
open Go.ChangeShapes Go.WideShapes Go.ChangeAt Go.RowKit Go.Deep

/-- What the walk is told of a slice of slices that came in: each element of a row has k integers. -/
def IsRowS (k : Nat) (w : World) (a : Option Addr) (len : Nat) (Z : List (List Int)) : Prop :=
  Z.length = len ∧ len ≤ maxLen ∧ ∀ r, r < len → ∃ ad A n c, a = some ad ∧ ad.block < w.heap.size ∧ w.cell? (ad.add r) = some (.slice A n c) ∧ IsRowF k w A n (Z.getD r [])
theorem IsRowF.below {k : Nat} {w w' : World} {a : Option Addr} {len : Nat} {zs : List Int} (h : IsRowF k w a len zs) (hb : Below w.heap.size w w') : IsRowF k w' a len zs := ⟨h.1, h.2.1, h.2.2.below hb⟩
theorem IsRowS.below {k : Nat} {w w' : World} {a : Option Addr} {len : Nat} {Z : List (List Int)} (h : IsRowS k w a len Z) (hb : Below w.heap.size w w') : IsRowS k w' a len Z := by
  refine ⟨h.1, h.2.1, fun r hr => ?_⟩
  obtain ⟨ad, A, n, c, h1, h2, h3, h4⟩ := h.2.2 r hr
  have hs := hb.size
  refine ⟨ad, A, n, c, h1, by omega, ?_, h4.below hb⟩
  rw [hb.cell (p := ad.add r) (by unfold Addr.add; split <;> simpa using h2), h3]
section
variable {H : Type} {enc : TypeId × Value → H} {P : Program} {w : World} {base : Nat} {held : Bool}
theorem open_rows {t e : TypeId} {k : Nat} {fuel : Nat} {cs : List Value} {x : DataW H × List MemPlace} (ht : P.underlying t = some (.slice e)) (hc : P.cellsOf e = 1)
    (each : ∀ (v : Value) (x : DataW H × List MemPlace) (n : Nat), DataW.trod enc P w base (fun _ => true) held n e [v] = some x → ∃ A L c zs, v = .slice A L c ∧ IsRowF k w A L zs ∧ ∀ y ∈ zs, (Lit.int .i64 y).wf = true)
    (h : DataW.trod enc P w base (fun _ => true) held fuel t cs = some x) :
    cs = [.slice none 0 0] ∨ ∃ (a : Addr) (len cap : Nat) (Z : List (List Int)), cs = [.slice (some a) len cap] ∧ IsRowS k w (some a) len Z ∧ ∀ z ∈ Z, ∀ y ∈ z, (Lit.int .i64 y).wf = true := by
  rcases open_slice1 ht hc h with ⟨h0, -⟩ | ⟨a, len, cap, m, n, V, D, Pl, hcs, hb, hl, hm, hmm, -, hel⟩
  · exact .inl h0
  · have hml : len ≤ m := by rw [hmm]; split <;> omega
    obtain ⟨y, hy⟩ := choose_lt (α := Option Addr × Nat × Nat × List Int) (n := len) (p := fun r y => w.cell? (a.add r) = some (.slice y.1 y.2.1 y.2.2.1) ∧ IsRowF k w y.1 y.2.1 y.2.2.2 ∧ ∀ x ∈ y.2.2.2, (Lit.int .i64 x).wf = true) (fun r hr => by
      obtain ⟨h1, h2⟩ := hel r (by omega)
      obtain ⟨A, L, c, zs, h3, h4, h5⟩ := each _ _ _ h2
      exact ⟨(A, L, c, zs), by rw [h1, h3], h4, h5⟩)
    refine .inr ⟨a, len, cap, (List.range len).map fun r => (y r).2.2.2, hcs, ⟨by simp, by omega, fun r hr => ?_⟩, fun z hz x hx => ?_⟩
    · obtain ⟨h1, h2, -⟩ := hy r hr
      refine ⟨a, (y r).1, (y r).2.1, (y r).2.2.1, rfl, ?_, h1, ?_⟩
      · have := cell_lt h1
        unfold Addr.add at this
        split at this <;> simpa using this
      · have : ((List.range len).map fun r => (y r).2.2.2).getD r [] = (y r).2.2.2 := by
          rw [List.getD_eq_getElem?_getD, List.getElem?_map, List.getElem?_range hr]; rfl
        rw [this]; exact h2
    · obtain ⟨r, hr, rfl⟩ := List.mem_map.1 hz
      exact (hy r (List.mem_range.1 hr)).2.2 x hx
theorem each_ints {e q : TypeId} (he : P.underlying e = some (.slice q)) (hq : P.underlying q = some (.int .i64)) (cq : P.cellsOf q = 1) (v : Value) (x : DataW H × List MemPlace) (n : Nat) (h : DataW.trod enc P w base (fun _ => true) held n e [v] = some x) :
    ∃ A L c zs, v = .slice A L c ∧ IsRowF 1 w A L zs ∧ ∀ y ∈ zs, (Lit.int .i64 y).wf = true := by
  rcases open_ints he hq cq h with ⟨hcs, -⟩ | ⟨a', len', cap', zs, hcs, hb', hl', hm', hz, hy, hcell, hwz⟩
  · exact ⟨none, 0, 0, [], by simpa using hcs, ⟨rfl, Nat.zero_le _, fun k hk => by simp at hk⟩, by simp⟩
  · simp only [if_true] at hz
    refine ⟨some a', len', cap', zs.take len', by simpa using hcs, ⟨by rw [List.length_take]; omega, by omega, fun k hk => ?_⟩, fun y hy => hwz y (List.mem_of_mem_take hy)⟩
    have hk1 : k < zs.length ∧ k < len' := by rw [List.length_take] at hk; omega
    have hc := hcell k hk1.1
    refine ⟨a', rfl, ?_, ?_⟩
    · have := cell_lt hc
      unfold Addr.add at this
      split at this <;> simpa using this
    · rw [hc]
      unfold gd
      simp [hk1.2]
theorem each_structs {e q : TypeId} {fs : Array Field} (he : P.underlying e = some (.slice q)) (hq : P.underlying q = some (.struct fs)) (h1 : oneCellFields P fs = true) (hi0 : intFields P fs = true) (k : Nat) (hk : P.cellsOf q = k) (hs : fs.size = k) (hk0 : 0 < k)
    (v : Value) (x : DataW H × List MemPlace) (n : Nat) (h : DataW.trod enc P w base (fun _ => true) held n e [v] = some x) :
    ∃ A L c zs, v = .slice A L c ∧ IsRowF k w A L zs ∧ ∀ y ∈ zs, (Lit.int .i64 y).wf = true := by
  rcases open_structsW he hq h1 hi0 k hk hs hk0 h with hcs | ⟨a, len, cap, zs, hcs, hz, hw⟩
  · exact ⟨none, 0, 0, [], by simpa using hcs, ⟨by simp, Nat.zero_le _, fun k hk => by simp at hk⟩, by simp⟩
  · exact ⟨some a, len, cap, zs, by simpa using hcs, hz, hw⟩
end
/-- How many elements all rows have. -/
def cntS (k : Nat) (Z : List (List Int)) : Nat := (Z.map fun z => z.length / k).sum
theorem cntS_nil (k : Nat) : cntS k [] = 0 := rfl
theorem cntS_next {k : Nat} {Z : List (List Int)} {r : Nat} (hr : r < Z.length) : cntS k (Z.take (r + 1)) = cntS k (Z.take r) + (Z.getD r []).length / k := by
  unfold cntS
  rw [List.take_add_one, List.getElem?_eq_getElem hr, List.map_append, List.sum_append, List.getD_eq_getElem?_getD, List.getElem?_eq_getElem hr]
  simp
theorem cntS_le {k : Nat} (Z : List (List Int)) (r : Nat) : cntS k (Z.take r) ≤ cntS k Z := by
  have h : cntS k Z = cntS k (Z.take r) + cntS k (Z.drop r) := by
    conv => lhs; rw [← List.take_append_drop r Z]
    unfold cntS
    rw [List.map_append, List.sum_append]
  omega
theorem rowS_div {k : Nat} {w : World} {A : Option Addr} {n : Nat} {zs : List Int} (hk : 0 < k) (h : IsRowF k w A n zs) : zs.length / k = n := by
  rw [h.1]; exact Nat.mul_div_cancel _ hk
end Go.Proofs.Ytijmnbgmpakllaa

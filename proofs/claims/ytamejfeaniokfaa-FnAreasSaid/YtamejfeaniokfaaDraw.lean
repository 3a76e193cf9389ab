/-
  The model's draws of chapter 1: what each call returns.
  Condition: the bytes can be read; they are at most 1048576.
-/
import Derived.Test.YtamejfeaniokfaaCur
import Derived.Test.YtamejfeaniokfaaText
namespace Go.Proofs.Ytamejfeaniokfaa
set_option linter.unusedSimpArgs false
set_option linter.unusedVariables false
open Go.ChangeShapes Go.WideShapes Go.ChangeAt Go.RowKit

theorem cur_new {w : World} {A : Option Addr} {n cap : Nat} (h : RB w w.heap.size A n) (hn : n ≤ 1048576) : Cur (w.alloc (.cells #[.slice A n cap, .int .i64 0, .int .u64 0] 49)) w.heap.size 0 := by
  refine ⟨A, n, cap, 0, 0, heap_alloc_new w _, Nat.le_refl _, hn, ⟨by omega, by omega⟩, fun k hk => ?_⟩
  obtain ⟨ad, c, h1, h2, h3, h4⟩ := h k hk
  refine ⟨ad, c, h1, h2, ?_, h4⟩
  have : (ad.add k).block = ad.block := by unfold Addr.add; split <;> rfl
  rw [World.cell?_alloc_lt w _ (ad.add k) (by omega)]
  exact h3
theorem bel_cur {w w' : World} {o : Obj} (h : (w.alloc o).grownBy w' (some w.heap.size)) : Below w.heap.size w w' :=
  ((Below.refl _ _).alloc (Nat.le_refl _) _).grown h (by simp) (fun k hk => by injection hk with hk; omega)
/-- The bytes that came in. -/
theorem RB.of_row {w : World} {A : Option Addr} {len cap : Nat} {zs : List Int} (h : IsRow .u8 w A len cap zs) : RB w w.heap.size A len := by
  rcases h with ⟨rfl, rfl, rfl, rfl⟩ | ⟨x, rfl, h1, h2, h3, h4, h5⟩
  · exact fun k hk => by omega
  · intro k hk
    have hl : k < zs.length := by omega
    have hc := h4 k hl
    have hx : x.block < w.heap.size := by
      have := cell_lt hc
      unfold Addr.add at this
      split at this <;> simpa using this
    have hm : zs.getD k 0 ∈ zs := by
      rw [List.getD_eq_getElem?_getD, List.getElem?_eq_getElem hl]; exact List.getElem_mem hl
    have hw := h5 _ hm
    have hb : 0 ≤ zs.getD k 0 ∧ zs.getD k 0 ≤ 255 := by simpa [Lit.wf, IntKind.min, IntKind.max, IntKind.bits, IntKind.signed] using hw
    obtain ⟨c, hcc⟩ : ∃ c : Nat, zs.getD k 0 = c := ⟨(zs.getD k 0).toNat, by omega⟩
    rw [hcc] at hc hb
    exact ⟨x, c, rfl, hx, hc, by omega⟩
theorem RB.below {w w' : World} {A : Option Addr} {n : Nat} (h : RB w w.heap.size A n) (hb : Below w.heap.size w w') : RB w' w'.heap.size A n := fun k hk => by
  obtain ⟨ad, c, h1, h2, h3, h4⟩ := h k hk
  have : (ad.add k).block = ad.block := by unfold Addr.add; split <;> rfl
  have hs := hb.size
  exact ⟨ad, c, h1, by omega, (hb.cell (p := ad.add k) (by omega)).trans h3, h4⟩
/-- Two numbers are drawn. -/
def Draws2 (w : World) (e : Ending) (w' : World) : Prop := ∃ a b : Int, e = .returned (.tuple #[.int .i64 a, .int .i64 b]) ∧ Below w.heap.size w w'
/-- A text is drawn. -/
def DrawsS (w : World) (e : Ending) (w' : World) : Prop := ∃ s : ByteArray, e = .returned (.string s) ∧ s.size ≤ 1000 ∧ Below w.heap.size w w'
/-- An integer of Go's. -/
def i64B (x : Int) : Prop := -9223372036854775808 ≤ x ∧ x ≤ 9223372036854775807
theorem heap_far (w : World) (g i k : Nat) (v : Value) (h : k ≠ g) : (w.setCell ⟨g, i, none⟩ v).heap[k]? = w.heap[k]? := Below.heap_setCell _ _ _ _ h
theorem grown_setD {a w : World} {row : Option Nat} {g i : Nat} {v : Value} (h : a.grownBy w row) (hg : a.heap.size ≤ g) : a.grownBy (w.setCell ⟨g, i, none⟩ v) row :=
  ⟨h.os, h.tape, h.output, by simpa [World.setCell] using h.size, fun k hk hne => (heap_far w g i k v (by omega)).trans (h.block k hk hne)⟩
theorem Cur.same {w w' : World} {b k : Nat} (h : Cur w b k) (hs : ∀ i, i ≤ b → w'.heap[i]? = w.heap[i]?) : Cur w' b k := by
  obtain ⟨A, n, cap, at_, seed, h1, h2, h3, h4, h5⟩ := h
  refine ⟨A, n, cap, at_, seed, (hs b (Nat.le_refl _)).trans h1, h2, h3, h4, fun j hj => ?_⟩
  obtain ⟨ad, c, g1, g2, g3, g4⟩ := h5 j hj
  refine ⟨ad, c, g1, g2, ?_, g4⟩
  have hb : (ad.add j).block = ad.block := by unfold Addr.add; split <;> rfl
  rw [← g3]
  unfold World.cell?
  rw [hs _ (by omega)]
theorem Cur.set2 {w : World} {b k g : Nat} {u v : Value} (h : Cur w b k) (hg : b < g) : Cur ((w.setCell ⟨g, 0, none⟩ u).setCell ⟨g, 1, none⟩ v) b k :=
  h.same fun i hi => (heap_far _ g 1 i v (by omega)).trans (heap_far w g 0 i u (by omega))
end Go.Proofs.Ytamejfeaniokfaa

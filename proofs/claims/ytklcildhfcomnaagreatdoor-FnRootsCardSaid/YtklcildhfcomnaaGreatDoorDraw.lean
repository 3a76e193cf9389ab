/-
  The model's draws of chapter 1: what each call returns.
  Condition: the bytes can be read; they are at most 1048576.
-/
import Derived.Test.YtklcildhfcomnaaGreatDoorCur
import Derived.Test.YtklcildhfcomnaaGreatDoorText
namespace Go.Proofs.YtklcildhfcomnaaGreatDoor
set_option linter.unusedSimpArgs false
set_option linter.unusedVariables false
open Go.ChangeShapes Go.WideShapes Go.ChangeAt Go.RowKit

theorem cur_new {w : World} {A : Option Addr} {n cap : Nat} (h : RB w w.heap.size A n) (hn : n ≤ 1048576) : Cur (w.alloc (.cells #[.slice A n cap, .int .i64 0, .int .u64 0] 69)) w.heap.size 0 := by
  refine ⟨A, n, cap, 0, 0, heap_alloc_new w _, Nat.le_refl _, hn, ⟨by omega, by omega⟩, fun k hk => ?_⟩
  obtain ⟨ad, c, h1, h2, h3, h4⟩ := h k hk
  refine ⟨ad, c, h1, h2, ?_, h4⟩
  have : (ad.add k).block = ad.block := by unfold Addr.add; split <;> rfl
  rw [World.cell?_alloc_lt w _ (ad.add k) (by omega)]
  exact h3
theorem bel_cur {w w' : World} {o : Obj} (h : (w.alloc o).grownBy w' (some w.heap.size)) : Below w.heap.size w w' :=
  ((Below.refl _ _).alloc (Nat.le_refl _) _).grown h (by simp) (fun k hk => by injection hk with hk; omega)
/-- The bytes that came in. -/
theorem RB.of_row {w : World} {A : Option Addr} {len cap : Nat} {zs : List Int} (h : IsRow .u8 w A len cap zs) : RB w w.heap.size A len := by
  rcases h with ⟨rfl, rfl, rfl, rfl⟩ | ⟨x, rfl, h1, h2, h3, h4, h5⟩
  · exact fun k hk => by omega
  · intro k hk
    have hl : k < zs.length := by omega
    have hc := h4 k hl
    have hx : x.block < w.heap.size := by
      have := cell_lt hc
      unfold Addr.add at this
      split at this <;> simpa using this
    have hm : zs.getD k 0 ∈ zs := by
      rw [List.getD_eq_getElem?_getD, List.getElem?_eq_getElem hl]; exact List.getElem_mem hl
    have hw := h5 _ hm
    have hb : 0 ≤ zs.getD k 0 ∧ zs.getD k 0 ≤ 255 := by simpa [Lit.wf, IntKind.min, IntKind.max, IntKind.bits, IntKind.signed] using hw
    obtain ⟨c, hcc⟩ : ∃ c : Nat, zs.getD k 0 = c := ⟨(zs.getD k 0).toNat, by omega⟩
    rw [hcc] at hc hb
    exact ⟨x, c, rfl, hx, hc, by omega⟩
theorem RB.below {w w' : World} {A : Option Addr} {n : Nat} (h : RB w w.heap.size A n) (hb : Below w.heap.size w w') : RB w' w'.heap.size A n := fun k hk => by
  obtain ⟨ad, c, h1, h2, h3, h4⟩ := h k hk
  have : (ad.add k).block = ad.block := by unfold Addr.add; split <;> rfl
  have hs := hb.size
  exact ⟨ad, c, h1, by omega, (hb.cell (p := ad.add k) (by omega)).trans h3, h4⟩
/-- Two numbers are drawn. -/
def Draws2 (w : World) (e : Ending) (w' : World) : Prop := ∃ a b : Int, e = .returned (.tuple #[.int .i64 a, .int .i64 b]) ∧ Below w.heap.size w w'
/-- A text is drawn. -/
def DrawsS (w : World) (e : Ending) (w' : World) : Prop := ∃ s : ByteArray, e = .returned (.string s) ∧ s.size ≤ 1000 ∧ Below w.heap.size w w'
end Go.Proofs.YtklcildhfcomnaaGreatDoor

/-
  Polynomials in one unknown, of the program and of the model: what each call returns.
  Conditions: the slice reads as the list that is named; a function value answers as the function that is named.
-/
import Derived.Test.YtibdbgeknphljaaPolyM
import Derived.Shelf.Abstract
namespace Go.Proofs.Ytibdbgeknphljaa
set_option linter.unusedSimpArgs false
set_option linter.unusedVariables false
open Go.ChangeShapes Go.WideShapes Go.ChangeAt Go.RowKit

theorem poB_list {zs : List Int} (h1 : 1 ≤ zs.length) (h2 : zs.length ≤ 13) (h3 : (gd zs (zs.length - 1) == 1000000000) = false) : listB zs = poB zs := by
  have hi : inB zs.length 1 13 = true := (inB_iff _ _ _).2 (by omega)
  have h20 : decide (zs.length ≤ 20) = true := by simp; omega
  unfold listB poB
  rw [hi, h20, bne, h3]
  simp
set_option maxHeartbeats 400000 in
theorem isPoly_any (w : World) (B : Nat) (v : Value) (zs : List Int) (h : IS w B v zs) : Calls Try.prog 71 #[v] w fun e w' => e = .returned (.bool (poB zs)) ∧ w = w' := by
  have h0 := Lib.hid h
  obtain ⟨A, cap, rfl, hm, hp⟩ := h.parts
  unfold maxLen at hm
  have HP := Lib.hid hp
  clear hp h
  by_cases h1 : 1 ≤ zs.length
  · by_cases h2 : zs.length ≤ 13
    · obtain ⟨g, rfl, hc⟩ := HP.out (zs.length - 1) (by omega)
      cases hq : gd zs (zs.length - 1) == 1000000000
      · have HL := Lib.hid (poB_list h1 h2 hq)
        go_enter Try.func71, Try.ntmps71
        go_wp2_with (go_at_call 84; refine (isNumberList_any _ B _ zs h0.out).mono ?_; rintro e w' ⟨rfl, rfl⟩)
        go_ret
        exact ⟨ret_bool HL.out, rfl⟩
      · have HL := Lib.hid (show poB zs = false by unfold poB; rw [bne, hq]; simp)
        go_enter Try.func71, Try.ntmps71
        go_wp2
        go_ret
        exact ⟨ret_bool HL.out.symm, rfl⟩
    · have HL := Lib.hid (show poB zs = false by
        cases e : poB zs
        · rfl
        · exact absurd (po_parts e).2.2.1 h2)
      go_enter Try.func71, Try.ntmps71
      go_wp2
      go_ret
      exact ⟨ret_bool HL.out.symm, rfl⟩
  · have HL := Lib.hid (show poB zs = false by
      cases e : poB zs
      · rfl
      · exact absurd (po_parts e).2.1 h1)
    go_enter Try.func71, Try.ntmps71
    go_wp2
    go_ret
    exact ⟨ret_bool HL.out.symm, rfl⟩
theorem poFinite_any (n : Int) (w : World) : Calls Try.prog 65 #[.int .i64 n] w fun e w' => e = .returned (.bool (finB n)) ∧ w = w' := by
  go_enter Try.func65, Try.ntmps65
  go_wp2_with (go_at_call 70; refine (l1In_any _ _ _ _).mono ?_; rintro e w' ⟨rfl, rfl⟩)
  go_ret
  exact ⟨rfl, rfl⟩
end Go.Proofs.Ytibdbgeknphljaa

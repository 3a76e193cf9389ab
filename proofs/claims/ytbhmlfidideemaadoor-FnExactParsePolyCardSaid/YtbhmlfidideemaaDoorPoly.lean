/-
  Polynomials in one unknown, of the program and of the model: what each call returns.
  Conditions: the slice reads as the list that is named; a function value answers as the function that is named.
-/
import Derived.Test.YtbhmlfidideemaaDoorPolyM
import Derived.Shelf.Abstract
namespace Go.Proofs.YtbhmlfidideemaaDoor
set_option linter.unusedSimpArgs false
set_option linter.unusedVariables false
open Go.ChangeShapes Go.WideShapes Go.ChangeAt Go.RowKit

set_option maxHeartbeats 400000 in
theorem poGood_any (w : World) (B : Nat) (v : Value) (zs : List Int) (h : IS w B v zs) : Calls Tryd.prog 37 #[v] w fun e w' => e = .returned (.bool (poB zs)) ∧ w = w' := by
  obtain ⟨A, cap, rfl, hm, hp⟩ := h.parts
  unfold maxLen at hm
  have HP := Lib.hid hp
  clear hp h
  go_enter Tryd.func37, Tryd.ntmps37
  go_wp2
  go_loop [7] (fun i => ∃ k : Nat, k ≤ zs.length ∧ i = .int .i64 k ∧ Hid ((zs.take k).all numB = true)) (fun i => zs.length - (intOf i).toNat)
  case atStart => exact ⟨0, by omega, rfl, Lib.hid rfl⟩
  case round =>
    obtain ⟨k, hk, rfl, hall⟩ := hrel
    by_cases hlt : k < zs.length
    · obtain ⟨g, rfl, hc⟩ := HP.out k hlt
      cases hn : numB (gd zs k)
      · go_wp2_with (go_at_call 57; refine (nuGood_any _ _).mono ?_; rintro e w' ⟨rfl, rfl⟩)
        go_ret
        exact ⟨ret_bool (by simp [poB, all_bad zs k hlt hn]), rfl⟩
      · go_wp2_with (go_at_call 57; refine (nuGood_any _ _).mono ?_; rintro e w' ⟨rfl, rfl⟩)
        go_round
        case rel => exact ⟨k + 1, by omega, by go_num, Lib.hid (all_next zs k hlt hall.out hn)⟩
        case measure => simp [intOf]; omega
    · have HA := Lib.hid (all_end zs k hlt hall.out)
      cases hi : inB zs.length 1 13
      · go_wp2_with (go_at_call 44; refine (l1In_any _ _ _ _).mono ?_; rintro e w' ⟨rfl, rfl⟩)
        go_ret
        exact ⟨ret_bool (by simp [poB, hi]), rfl⟩
      · have hb := (inB_iff _ _ _).1 hi
        obtain ⟨hb1, hb2⟩ := hb
        obtain ⟨g, rfl, hc⟩ := HP.out (zs.length - 1) (by omega)
        go_wp2_with (go_at_call 44; refine (l1In_any _ _ _ _).mono ?_; rintro e w' ⟨rfl, rfl⟩)
        go_ret
        exact ⟨ret_bool (by simp [poB, hi, HA.out]), rfl⟩
theorem poB_list {zs : List Int} (h1 : 1 ≤ zs.length) (h2 : zs.length ≤ 13) (h3 : (gd zs (zs.length - 1) == 1000000000) = false) : listB zs = poB zs := by
  have hi : inB zs.length 1 13 = true := (inB_iff _ _ _).2 (by omega)
  have h20 : decide (zs.length ≤ 20) = true := by simp; omega
  unfold listB poB
  rw [hi, h20, bne, h3]
  simp
set_option maxHeartbeats 400000 in
theorem isPoly_any (w : World) (B : Nat) (v : Value) (zs : List Int) (h : IS w B v zs) : Calls Tryd.prog 31 #[v] w fun e w' => e = .returned (.bool (poB zs)) ∧ w = w' := by
  have h0 := Lib.hid h
  obtain ⟨A, cap, rfl, hm, hp⟩ := h.parts
  unfold maxLen at hm
  have HP := Lib.hid hp
  clear hp h
  by_cases h1 : 1 ≤ zs.length
  · by_cases h2 : zs.length ≤ 13
    · obtain ⟨g, rfl, hc⟩ := HP.out (zs.length - 1) (by omega)
      cases hq : gd zs (zs.length - 1) == 1000000000
      · have HL := Lib.hid (poB_list h1 h2 hq)
        go_enter Tryd.func31, Tryd.ntmps31
        go_wp2_with (go_at_call 54; refine (isNumberList_any _ B _ zs h0.out).mono ?_; rintro e w' ⟨rfl, rfl⟩)
        go_ret
        exact ⟨ret_bool HL.out, rfl⟩
      · have HL := Lib.hid (show poB zs = false by unfold poB; rw [bne, hq]; simp)
        go_enter Tryd.func31, Tryd.ntmps31
        go_wp2
        go_ret
        exact ⟨ret_bool HL.out.symm, rfl⟩
    · have HL := Lib.hid (show poB zs = false by
        cases e : poB zs
        · rfl
        · exact absurd (po_parts e).2.2.1 h2)
      go_enter Tryd.func31, Tryd.ntmps31
      go_wp2
      go_ret
      exact ⟨ret_bool HL.out.symm, rfl⟩
  · have HL := Lib.hid (show poB zs = false by
      cases e : poB zs
      · rfl
      · exact absurd (po_parts e).2.1 h1)
    go_enter Tryd.func31, Tryd.ntmps31
    go_wp2
    go_ret
    exact ⟨ret_bool HL.out.symm, rfl⟩
theorem poFinite_any (n : Int) (w : World) : Calls Tryd.prog 52 #[.int .i64 n] w fun e w' => e = .returned (.bool (finB n)) ∧ w = w' := by
  go_enter Tryd.func52, Tryd.ntmps52
  go_wp2_with (go_at_call 44; refine (l1In_any _ _ _ _).mono ?_; rintro e w' ⟨rfl, rfl⟩)
  go_ret
  exact ⟨rfl, rfl⟩
set_option maxHeartbeats 800000 in
set_option maxRecDepth 100000 in
theorem poTerms_any (w : World) (B : Nat) (v : Value) (zs : List Int) (x : Int) (h : IS w B v zs) (hz : poB zs = true) (hx1 : -1000000 ≤ x) (hx2 : x ≤ 1000000) : Calls Tryd.prog 30 #[v, .int .i64 x] w fun e w' => GivesI (tms zs x) w e w' := by
  obtain ⟨A, cap, rfl, hm, hp⟩ := h.parts
  have hl := (po_parts hz).2.2.1
  have HP := Lib.hid hp
  have HZ := Lib.hid hz
  clear hp h hm hz
  obtain ⟨i0, hi, hz0, hz1, hz2⟩ := info_parts infoInt
  go_enter Tryd.func30, Tryd.ntmps30
  go_wp2
  go_loopw [5, 10] (fun o i wr => ∃ k : Nat, k ≤ zs.length ∧ i = .int .i64 k ∧ IS wr w.heap.size o (tab (tmI zs x) k) ∧ Below w.heap.size w wr) (fun _ i _ => zs.length - (intOf i).toNat)
  case atStart => exact ⟨0, by omega, rfl, IS.nil_ _ _, Below.refl _ _⟩
  case round =>
    obtain ⟨k, hk, rfl, ho, hb⟩ := hrel
    by_cases hlt : k < zs.length
    · obtain ⟨g, rfl, hc0⟩ := HP.out k hlt
      have hc := (hb.cell (p := ⟨g, k, none⟩) (cell_lt hc0)).trans hc0
      clear hc0
      have hab := numB_bd (po_num HZ.out hlt)
      obtain ⟨hab1, hab2⟩ := hab
      have hml := tm_mul (x := x) (i := k) ⟨hx1, hx2⟩ (by omega)
      obtain ⟨hm1, hm2⟩ := hml
      have HTN := Lib.hid (tab_next (tmI zs x) k)
      have HLn := Lib.hid (tab_len (tmI zs x) k)
      have ho' : wr.ownsRow w.heap.size 3 1 u5 k (ints (tab (tmI zs x) k)) := by have := ho; unfold IS at this; rwa [HLn.out] at this
      cases hn : gd zs k == 1000000000
      · have HTM := Lib.hid (tm_fin hn ⟨hm1, hm2⟩)
        go_wp2_with (at_builtin; refine wpList_append_own _ rfl _ _ 22 rfl w.heap.size 3 i0 (.int .i64 0) 1 8 Tryd.underlying22 hi hz0 hz1 hz2 rfl (by decide) _ _ _ rfl (ho'.alloc _) ⟨wr.heap.size, 0, none⟩ 1 1 [.int .i64 (gd zs k + k * x)] rfl rfl (one_new _ _) (by simp [Value.oneCell']) (by unfold maxLen; omega) (by omega) (by have := hb.size; simp; omega) ?_; intro v' w1 hown' hgrow hnil)
        have hb' : Below w.heap.size w w1 := (hb.alloc hb.size _).grown hgrow (by have := hb.size; simp; omega) (fun g' hg' => (World.ownsRow.lt ho' g' hg').1)
        have hrow := IS.snoc HLn.out.symm hown'
        rw [← HTM.out, ← HTN.out] at hrow
        go_wp2
        go_roundw
        case rel => exact ⟨k + 1, by omega, by go_num, hrow, hb'⟩
        case measure => simp [intOf]; omega
      · have HTM := Lib.hid (tm_inf (x := x) hn)
        go_wp2_with (at_builtin; refine wpList_append_own _ rfl _ _ 22 rfl w.heap.size 3 i0 (.int .i64 0) 1 8 Tryd.underlying22 hi hz0 hz1 hz2 rfl (by decide) _ _ _ rfl (ho'.alloc _) ⟨wr.heap.size, 0, none⟩ 1 1 [.int .i64 (gd zs k)] rfl rfl (one_new _ _) (by simp [Value.oneCell']) (by unfold maxLen; omega) (by omega) (by have := hb.size; simp; omega) ?_; intro v' w1 hown' hgrow hnil)
        have hb' : Below w.heap.size w w1 := (hb.alloc hb.size _).grown hgrow (by have := hb.size; simp; omega) (fun g' hg' => (World.ownsRow.lt ho' g' hg').1)
        have hrow := IS.snoc HLn.out.symm hown'
        rw [← HTM.out, ← HTN.out] at hrow
        go_wp2
        go_roundw
        case rel => exact ⟨k + 1, by omega, by go_num, hrow, hb'⟩
        case measure => simp [intOf]; omega
    · go_wp2
      go_ret
      obtain rfl : k = zs.length := by omega
      exact ⟨_, rfl, ho, hb⟩
set_option maxHeartbeats 400000 in
theorem poAsked_any (w : World) (B : Nat) (v : Value) (zs : List Int) (x : Int) (h : IS w B v zs) : Calls Tryd.prog 28 #[v, .int .i64 x] w fun e w' => e = .returned (.bool (askB zs x)) ∧ Below w.heap.size w w' := by
  cases hz : poB zs
  · go_enter Tryd.func28, Tryd.ntmps28
    go_wp2_with (go_at_call 37; refine (poGood_any _ B _ zs h).mono ?_; rintro e w' ⟨rfl, rfl⟩)
    go_ret
    exact ⟨ret_bool (by simp [askB, hz]), Below.refl _ _⟩
  · cases hf : finB x
    · go_enter Tryd.func28, Tryd.ntmps28
      go_wp2_with (first | (go_at_call 37; refine (poGood_any _ B _ zs h).mono ?_; rintro e w' ⟨rfl, rfl⟩) | (go_at_call 52; refine (poFinite_any _ _).mono ?_; rintro e w' ⟨rfl, rfl⟩))
      go_ret
      exact ⟨ret_bool (by simp [askB, hf]), Below.refl _ _⟩
    · have hx := (finB_iff x).1 hf
      have HE := Lib.hid (show askB zs x = finB (leastL (tms zs x)) by unfold askB; rw [hz, hf]; rfl)
      have HZ := Lib.hid hz
      go_enter Tryd.func28, Tryd.ntmps28
      go_wp2_with (first | (go_at_call 37; refine (poGood_any _ B _ zs h).mono ?_; rintro e w' ⟨rfl, rfl⟩) | (go_at_call 52; refine (poFinite_any _ _).mono ?_; rintro e w' ⟨rfl, rfl⟩) | (go_at_call 30; refine (poTerms_any _ B _ zs x h HZ.out hx.1 hx.2).mono ?_; rintro e w1 ⟨r, rfl, hr, hb⟩) | (go_at_call 29; refine (nuSum_any _ _ _ _ hr).mono ?_; rintro e w' ⟨rfl, rfl⟩))
      go_ret
      exact ⟨ret_bool HE.out.symm, hb⟩
end Go.Proofs.YtbhmlfidideemaaDoor

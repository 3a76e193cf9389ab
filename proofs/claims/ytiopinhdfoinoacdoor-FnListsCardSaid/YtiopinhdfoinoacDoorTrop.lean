/-
  The functions of chapter 1 on lists, of the program and of the model: what each call returns.
  Condition: the slice reads as the list that is named; the table of the neutral numbers is as the program's text lays it.
-/
import Derived.Test.YtiopinhdfoinoacDoorShift
import Derived.LaidMore
import Derived.Stop.Joined
import Derived.Lib.LaidTab
import Derived.MakeChecks
namespace Go.Proofs.YtiopinhdfoinoacDoor
set_option linter.unusedSimpArgs false
set_option linter.unusedVariables false
open Go.ChangeShapes Go.WideShapes Go.ChangeAt Go.RowKit

/-- What the rows' condition gives: the table's two cells. -/
theorem neut_of_laid {W : World} (h : laidMetH Tryd.prog [("loop.example/g01056/impl.neutralNumbers", Rows.laid_loop_example_g01056_impl_neutralNumbers)] W) : Neut W := by
  rw [MakeChecks.laidMetH_plain _ _ _ (by kernel_rfl)] at h
  have hT := Lib.tabIs_of_head (zs := [1000000000, 0]) (k := .i64) (rest := []) (show Tryd.prog.globalNamed "loop.example/g01056/impl.neutralNumbers" = some 0 by kernel_rfl) (show (Tryd.prog.globals[0]?).map (·.type) = some 56 by kernel_rfl) Tryd.underlying56 Tryd.underlying3 (by kernel_rfl) (by kernel_rfl) h
  exact ⟨hT.cell (by kernel_rfl) 0 (by decide), hT.cell (by kernel_rfl) 1 (by decide)⟩
/-- The sum of a list, 0 for what is none. -/
def sumV (zs : List Int) : Int := if listB zs = true then leastL zs else 0
theorem specTropSumOf_any (w : World) (B : Nat) (v : Value) (zs : List Int) (h : IS w B v zs) : Calls Tryd.prog 9 #[v] w fun e w' => e = .returned (.tuple #[.int .i64 (sumV zs), .bool (listB zs)]) ∧ w = w' := by
  cases hl : listB zs
  all_goals
    go_enter Tryd.func9, Tryd.ntmps9
    go_wp2_with (first | (go_at_call 26; refine (nuList_any _ B _ zs h).mono ?_; rintro e w' ⟨rfl, rfl⟩) | (go_at_call 28; refine (nuSum_any _ B _ zs h).mono ?_; rintro e w' ⟨rfl, rfl⟩))
    go_ret2
    exact ⟨ret_ib (by simp [sumV, hl]) rfl, rfl⟩
theorem implTropSumOf_any (w : World) (hN : Neut w) (B : Nat) (v : Value) (zs : List Int) (h : IS w B v zs) : Calls Tryd.prog 8 #[v] w fun e w' => e = .returned (.tuple #[.int .i64 (sumV zs), .bool (listB zs)]) ∧ w = w' := by
  cases hl : listB zs
  all_goals
    go_enter Tryd.func8, Tryd.ntmps8
    go_wp2_with (first | (go_at_call 24; refine (isNumberList_any _ B _ zs h).mono ?_; rintro e w' ⟨rfl, rfl⟩) | (go_at_call 25; refine (leastOf_any _ hN B _ zs h).mono ?_; rintro e w' ⟨rfl, rfl⟩))
    go_ret2
    exact ⟨ret_ib (by simp [sumV, hl]) rfl, rfl⟩
/-- The places below k of the elements equal to m. -/
def plc (zs : List Int) (m : Int) : Nat → List Int
  | 0 => []
  | k + 1 => plc zs m k ++ (if (gd zs k == m) = true then [(k : Int)] else [])
def places (zs : List Int) : List Int := plc zs (leastL zs) zs.length
theorem plc_yes {zs : List Int} {m : Int} {k : Nat} (h : (gd zs k == m) = true) : plc zs m (k + 1) = plc zs m k ++ [(k : Int)] := by simp only [plc, if_pos h]
theorem plc_no {zs : List Int} {m : Int} {k : Nat} (h : (gd zs k == m) = false) : plc zs m (k + 1) = plc zs m k := by simp [plc, h]
theorem plc_len (zs : List Int) (m : Int) (k : Nat) : (plc zs m k).length ≤ k := by
  induction k with
  | zero => simp [plc]
  | succ k ih =>
    simp only [plc, List.length_append]
    split <;> simp <;> omega
def lpRes (zs : List Int) : List Int := if listB zs = true then places zs else []
theorem lpRes_yes {zs : List Int} (h : listB zs = true) : lpRes zs = places zs := if_pos h
theorem lpRes_no {zs : List Int} (h : listB zs = false) : lpRes zs = [] := if_neg (by simp [h])
theorem lpRes_le {zs : List Int} {m : Nat} (h : zs.length ≤ m) : (lpRes zs).length ≤ m := by
  unfold lpRes; split
  · exact Nat.le_trans (plc_len _ _ _) h
  · simp
set_option maxHeartbeats 400000 in
theorem nuPlaces_any (w : World) (B : Nat) (v : Value) (zs : List Int) (h : IS w B v zs) (hl : zs.length ≤ 20) : Calls Tryd.prog 27 #[v] w fun e w' => GivesI (places zs) w e w' := by
  have h0 := Lib.hid h
  obtain ⟨A, cap, rfl, hm, hp⟩ := h.parts
  have HP := Lib.hid hp
  clear hp h hm
  obtain ⟨i0, hi, hz0, hz1, hz2⟩ := info_parts infoInt
  go_enter Tryd.func27, Tryd.ntmps27
  go_wp2_with (go_at_call 28; refine (nuSum_any _ B _ zs h0.out).mono ?_; rintro e w' ⟨rfl, rfl⟩)
  go_loopw [3, 11] (fun o i wr => ∃ k : Nat, k ≤ zs.length ∧ i = .int .i64 k ∧ IS wr w.heap.size o (plc zs (leastL zs) k) ∧ Below w.heap.size w wr) (fun _ i _ => zs.length - (intOf i).toNat)
  case atStart => exact ⟨0, by omega, rfl, IS.nil_ _ _, Below.refl _ _⟩
  case round =>
    obtain ⟨k, hk, rfl, ho, hb⟩ := hrel
    by_cases hlt : k < zs.length
    · obtain ⟨g, rfl, hc0⟩ := HP.out k hlt
      have hc := (hb.cell (p := ⟨g, k, none⟩) (cell_lt hc0)).trans hc0
      clear hc0
      cases hq : gd zs k == leastL zs
      · have HPL := Lib.hid (plc_no hq)
        go_wp2
        go_roundw
        case rel => exact ⟨k + 1, by omega, by go_num, by rw [HPL.out]; exact ho, hb⟩
        case measure => simp [intOf]; omega
      · have HPL := Lib.hid (plc_yes hq)
        have hpl := plc_len zs (leastL zs) k
        have ho' : wr.ownsRow w.heap.size 3 1 u3 (plc zs (leastL zs) k).length (ints (plc zs (leastL zs) k)) := ho
        go_wp2_with (at_builtin; refine wpList_append_own _ rfl _ _ 24 rfl w.heap.size 3 i0 (.int .i64 0) 1 8 Tryd.underlying24 hi hz0 hz1 hz2 rfl (by decide) _ _ _ rfl (ho'.alloc _) ⟨wr.heap.size, 0, none⟩ 1 1 [.int .i64 (k : Int)] rfl rfl (one_new _ _) (by simp [Value.oneCell']) (by unfold maxLen; omega) (by omega) (by have := hb.size; simp; omega) ?_; intro v' w1 hown' hgrow hnil)
        have hb' : Below w.heap.size w w1 := (hb.alloc hb.size _).grown hgrow (by have := hb.size; simp; omega) (fun g' hg' => (World.ownsRow.lt ho' g' hg').1)
        have hrow := IS.snoc rfl hown'
        rw [← HPL.out] at hrow
        go_wp2
        go_roundw
        case rel => exact ⟨k + 1, by omega, by go_num, hrow, hb'⟩
        case measure => simp [intOf]; omega
    · go_wp2
      go_ret
      have hk' : k = zs.length := by omega
      subst hk'
      exact ⟨_, rfl, ho, hb⟩
theorem specLeastPlaces_any (w : World) (B : Nat) (v : Value) (zs : List Int) (h : IS w B v zs) : Calls Tryd.prog 7 #[v] w fun e w' => GivesIB (listB zs) (lpRes zs) w e w' := by
  cases hl : listB zs
  · go_enter Tryd.func7, Tryd.ntmps7
    go_wp2_with (first | (go_at_call 26; refine (nuList_any _ B _ zs h).mono ?_; rintro e w' ⟨rfl, rfl⟩))
    go_ret2
    exact givesIB_nil rfl (lpRes_no hl) (Below.refl _ _)
  · have hp := (list_parts hl).1
    go_enter Tryd.func7, Tryd.ntmps7
    go_wp2_with (first | (go_at_call 26; refine (nuList_any _ B _ zs h).mono ?_; rintro e w' ⟨rfl, rfl⟩) | (go_at_call 27; refine (nuPlaces_any _ B _ zs h hp).mono ?_; rintro e w1 ⟨r, rfl, hr, hb⟩))
    go_ret2
    exact givesIB_yes rfl (by rw [lpRes_yes hl]; exact hr) hb
set_option maxHeartbeats 400000 in
theorem implLeastPlaces_any (w : World) (hN : Neut w) (B : Nat) (v : Value) (zs : List Int) (h : IS w B v zs) : Calls Tryd.prog 6 #[v] w fun e w' => GivesIB (listB zs) (lpRes zs) w e w' := by
  cases hls : listB zs
  · go_enter Tryd.func6, Tryd.ntmps6
    go_wp2_with (first | (go_at_call 24; refine (isNumberList_any _ B _ zs h).mono ?_; rintro e w' ⟨rfl, rfl⟩))
    go_ret2
    exact givesIB_nil rfl (lpRes_no hls) (Below.refl _ _)
  · have hl := (list_parts hls).1
    have h0 := Lib.hid h
    obtain ⟨A, cap, rfl, hm, hp⟩ := h.parts
    have HP := Lib.hid hp
    clear hp h hm
    obtain ⟨i0, hi, hz0, hz1, hz2⟩ := info_parts infoInt
    go_enter Tryd.func6, Tryd.ntmps6
    go_wp2_with (first | (go_at_call 24; refine (isNumberList_any _ B _ zs h0.out).mono ?_; rintro e w' ⟨rfl, rfl⟩) | (go_at_call 25; refine (leastOf_any _ hN B _ zs h0.out).mono ?_; rintro e w' ⟨rfl, rfl⟩))
    have HLS := Lib.hid hls
    clear hls
    go_loopw [5, 15] (fun o i wr => ∃ k : Nat, k ≤ zs.length ∧ i = .int .i64 k ∧ IS wr w.heap.size o (plc zs (leastL zs) k) ∧ Below w.heap.size w wr) (fun _ i _ => zs.length - (intOf i).toNat)
    case atStart => exact ⟨0, by omega, rfl, IS.nil_ _ _, Below.refl _ _⟩
    case round =>
      obtain ⟨k, hk, rfl, ho, hb⟩ := hrel
      by_cases hlt : k < zs.length
      · obtain ⟨g, rfl, hc0⟩ := HP.out k hlt
        have hc := (hb.cell (p := ⟨g, k, none⟩) (cell_lt hc0)).trans hc0
        clear hc0
        cases hq : gd zs k == leastL zs
        · have HPL := Lib.hid (plc_no hq)
          go_wp2
          go_roundw
          case rel => exact ⟨k + 1, by omega, by go_num, by rw [HPL.out]; exact ho, hb⟩
          case measure => simp [intOf]; omega
        · have HPL := Lib.hid (plc_yes hq)
          have hpl := plc_len zs (leastL zs) k
          have ho' : wr.ownsRow w.heap.size 3 1 u5 (plc zs (leastL zs) k).length (ints (plc zs (leastL zs) k)) := ho
          go_wp2_with (at_builtin; refine wpList_append_own _ rfl _ _ 24 rfl w.heap.size 3 i0 (.int .i64 0) 1 8 Tryd.underlying24 hi hz0 hz1 hz2 rfl (by decide) _ _ _ rfl (ho'.alloc _) ⟨wr.heap.size, 0, none⟩ 1 1 [.int .i64 (k : Int)] rfl rfl (one_new _ _) (by simp [Value.oneCell']) (by unfold maxLen; omega) (by omega) (by have := hb.size; simp; omega) ?_; intro v' w1 hown' hgrow hnil)
          have hb' : Below w.heap.size w w1 := (hb.alloc hb.size _).grown hgrow (by have := hb.size; simp; omega) (fun g' hg' => (World.ownsRow.lt ho' g' hg').1)
          have hrow := IS.snoc rfl hown'
          rw [← HPL.out] at hrow
          go_wp2
          go_roundw
          case rel => exact ⟨k + 1, by omega, by go_num, hrow, hb'⟩
          case measure => simp [intOf]; omega
      · go_wp2
        go_ret2
        have hk' : k = zs.length := by omega
        subst hk'
        exact givesIB_yes rfl (by rw [lpRes_yes HLS.out]; exact ho) hb
/-- Does a list vanish. -/
def vanB (zs : List Int) : Bool := (leastL zs == 1000000000) || decide (1 < (places zs).length)
def vanR (zs : List Int) : Bool := listB zs && vanB zs
def SaysBB (a b : Bool) (w : World) (e : Ending) (w' : World) : Prop := e = .returned (.tuple #[.bool a, .bool b]) ∧ Below w.heap.size w w'
theorem ret_bb {a b c d : Bool} (h : a = b) (h' : c = d) : Ending.returned (.tuple #[.bool a, .bool c]) = .returned (.tuple #[.bool b, .bool d]) := by rw [h, h']
theorem nuVanish_any (w : World) (B : Nat) (v : Value) (zs : List Int) (h : IS w B v zs) (hl : zs.length ≤ 20) : Calls Tryd.prog 29 #[v] w fun e w' => e = .returned (.bool (vanB zs)) ∧ Below w.heap.size w w' := by
  cases hq : leastL zs == 1000000000
  · go_enter Tryd.func29, Tryd.ntmps29
    go_wp2_with (first | (go_at_call 28; refine (nuSum_any _ B _ zs h).mono ?_; rintro e w' ⟨rfl, rfl⟩) | (go_at_call 27; refine (nuPlaces_any _ B _ zs h hl).mono ?_; rintro e w1 ⟨r, rfl, hr, hb⟩; obtain ⟨A, cap, rfl, hm, hp⟩ := hr.parts; have HP := Lib.hid hp; clear hp))
    go_ret
    exact ⟨ret_bool (by simp [vanB, hq]; omega), hb⟩
  · go_enter Tryd.func29, Tryd.ntmps29
    go_wp2_with (first | (go_at_call 28; refine (nuSum_any _ B _ zs h).mono ?_; rintro e w' ⟨rfl, rfl⟩))
    go_ret
    exact ⟨ret_bool (by simp [vanB, hq]), Below.refl _ _⟩
theorem specDoesVanish_any (w : World) (B : Nat) (v : Value) (zs : List Int) (h : IS w B v zs) : Calls Tryd.prog 11 #[v] w fun e w' => SaysBB (vanR zs) (listB zs) w e w' := by
  cases hl : listB zs
  · go_enter Tryd.func11, Tryd.ntmps11
    go_wp2_with (first | (go_at_call 26; refine (nuList_any _ B _ zs h).mono ?_; rintro e w' ⟨rfl, rfl⟩))
    go_ret2
    exact ⟨ret_bb (by simp [vanR, hl]) rfl, Below.refl _ _⟩
  · have hp := (list_parts hl).1
    go_enter Tryd.func11, Tryd.ntmps11
    go_wp2_with (first | (go_at_call 26; refine (nuList_any _ B _ zs h).mono ?_; rintro e w' ⟨rfl, rfl⟩) | (go_at_call 29; refine (nuVanish_any _ B _ zs h hp).mono ?_; rintro e w1 ⟨rfl, hb⟩))
    go_ret2
    exact ⟨ret_bb (by simp [vanR, hl]) rfl, hb⟩
theorem implDoesVanish_any (w : World) (hN : Neut w) (B : Nat) (v : Value) (zs : List Int) (h : IS w B v zs) : Calls Tryd.prog 10 #[v] w fun e w' => SaysBB (vanR zs) (listB zs) w e w' := by
  cases hl : listB zs
  · go_enter Tryd.func10, Tryd.ntmps10
    go_wp2_with fail
    refine (implLeastPlaces_any _ hN B _ zs h).mono ?_
    rintro e w1 ⟨r, rfl, hr, hb⟩
    go_wp2_with fail
    go_ret2
    exact ⟨ret_bb (by simp [vanR, hl]) rfl, hb⟩
  · have HLS := Lib.hid hl
    go_enter Tryd.func10, Tryd.ntmps10
    go_wp2_with fail
    refine (implLeastPlaces_any _ hN B _ zs h).mono ?_
    rintro e w1 ⟨r, rfl, hr, hb⟩
    rw [lpRes_yes HLS.out] at hr
    obtain ⟨A, cap, rfl, hm, hp⟩ := hr.parts
    have HP := Lib.hid hp
    clear hp
    have h1 := h.below hb
    cases hq : leastL zs == 1000000000
    all_goals
      go_wp2_with (first | (go_at_call 25; refine (leastOf_any _ (hN.below hb) B _ zs h1).mono ?_; rintro e w' ⟨rfl, rfl⟩))
      go_ret2
      exact ⟨ret_bb (by simp [vanR, vanB, HLS.out, hq]; try omega) rfl, hb⟩
end Go.Proofs.YtiopinhdfoinoacDoor

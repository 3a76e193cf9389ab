/-
  TropDot and NormalList, of the program and of the model: what each call returns.
  Condition: the slices read as the lists that are named; the table of the neutral numbers is as the program's text lays it.
-/
import Derived.Test.YtiopinhdfoinoacDoorTrop
import Derived.StillTailTactics
namespace Go.Proofs.YtiopinhdfoinoacDoor
set_option linter.unusedSimpArgs false
set_option linter.unusedVariables false
open Go.ChangeShapes Go.WideShapes Go.ChangeAt Go.RowKit

/-- The products of the elements of two lists. -/
def prods (zs ys : List Int) : List Int := List.zipWith plusI zs ys
theorem prods_len (zs ys : List Int) (h : zs.length ≤ ys.length) : (prods zs ys).length = zs.length := by unfold prods; rw [List.length_zipWith]; omega
theorem prods_gd (zs ys : List Int) (k : Nat) (h : k < zs.length) (h' : k < ys.length) : gd (prods zs ys) k = plusI (gd zs k) (gd ys k) := by
  rw [gd_eq zs k h, gd_eq ys k h', gd_eq (prods zs ys) k (by unfold prods; rw [List.length_zipWith]; omega)]
  simp [prods]
def dotV (zs ys : List Int) : Int := leastL (prods zs ys)
/-- Two lists of numbers with the same length. -/
def twoB (zs ys : List Int) : Bool := listB zs && (listB ys && (zs.length == ys.length))
def tDotB (zs ys : List Int) : Bool := twoB zs ys && numB (dotV zs ys)
def tDot (zs ys : List Int) : Int := if twoB zs ys = true then orZ (dotV zs ys) else 0
theorem twoB_no1 {zs ys : List Int} (h : listB zs = false) : twoB zs ys = false := by simp [twoB, h]
theorem twoB_no2 {zs ys : List Int} (h : listB ys = false) : twoB zs ys = false := by simp [twoB, h]
theorem twoB_no3 {zs ys : List Int} (h : ((zs.length : Int) != (ys.length : Int)) = true) : twoB zs ys = false := by
  have : (zs.length == ys.length) = false := by simp at h ⊢; omega
  simp [twoB, this]
theorem twoB_yes {zs ys : List Int} (h1 : listB zs = true) (h2 : listB ys = true) (h3 : ((zs.length : Int) != (ys.length : Int)) = false) : twoB zs ys = true := by
  have : (zs.length == ys.length) = true := by simp at h3 ⊢; omega
  simp [twoB, h1, h2, this]
theorem dot_no {zs ys : List Int} (h : twoB zs ys = false) : Ending.returned (.tuple #[.int .i64 0, .bool false]) = .returned (.tuple #[.int .i64 (tDot zs ys), .bool (tDotB zs ys)]) := by
  simp [tDot, tDotB, h]
theorem dot_yes {zs ys : List Int} (h : twoB zs ys = true) : Ending.returned (.tuple #[.int .i64 (orZ (dotV zs ys)), .bool (numB (dotV zs ys))]) = .returned (.tuple #[.int .i64 (tDot zs ys), .bool (tDotB zs ys)]) := by
  simp [tDot, tDotB, h]
set_option maxHeartbeats 400000 in
theorem nuDot_any (w : World) (B B' : Nat) (v v' : Value) (zs ys : List Int) (h : IS w B v zs) (h' : IS w B' v' ys) (hz : zs.all numB = true) (hy : ys.all numB = true) (hl : zs.length ≤ ys.length) :
    Calls Tryd.prog 41 #[v, v'] w fun e w' => e = .returned (.int .i64 (dotV zs ys)) ∧ w = w' := by
  obtain ⟨A, cap, rfl, hm, hp⟩ := h.parts
  obtain ⟨A', cap', rfl, hm', hp'⟩ := h'.parts
  unfold maxLen at hm hm'
  have HP := Lib.hid hp
  have HP' := Lib.hid hp'
  have HZ := Lib.hid hz
  have HY := Lib.hid hy
  clear hp hp' h h' hz hy
  go_enter Tryd.func41, Tryd.ntmps41
  go_wp2
  go_loop [5, 10] (fun x i => ∃ k : Nat, k ≤ zs.length ∧ i = .int .i64 k ∧ x = .int .i64 (leastL ((prods zs ys).take k))) (fun _ i => zs.length - (intOf i).toNat)
  case atStart => exact ⟨0, by omega, rfl, rfl⟩
  case round =>
    obtain ⟨k, hk, rfl, rfl⟩ := hrel
    by_cases hlt : k < zs.length
    · obtain ⟨g, rfl, hc⟩ := HP.out k hlt
      obtain ⟨g', rfl, hc'⟩ := HP'.out k (by omega)
      have hlt' : k < ys.length := by omega
      have hnx := Lib.hid ((least_next (prods zs ys) k (by rw [prods_len zs ys hl]; exact hlt)).trans (by rw [prods_gd zs ys k hlt hlt']))
      have b1 := numB_bd (num_at zs HZ.out k hlt)
      have b2 := numB_bd (num_at ys HY.out k hlt')
      go_wp2_with (first | (go_at_call 48; refine (nuPlus_any _ _ _ (by omega) (by omega)).mono ?_; rintro e w' ⟨rfl, rfl⟩) | (go_at_call 43; refine (l1Least_any _ _ _).mono ?_; rintro e w' ⟨rfl, rfl⟩))
      go_round
      case rel => exact ⟨k + 1, by omega, by go_num, by rw [hnx.out]⟩
      case measure => simp [intOf]; omega
    · go_wp2
      go_ret
      exact ⟨ret_i64 (least_end (prods zs ys) k (by rw [prods_len zs ys hl]; exact hlt)), rfl⟩
set_option maxHeartbeats 400000 in
theorem specTropDot_any (w : World) (B B' : Nat) (v v' : Value) (zs ys : List Int) (h : IS w B v zs) (h' : IS w B' v' ys) :
    Calls Tryd.prog 22 #[v, v'] w fun e w' => e = .returned (.tuple #[.int .i64 (tDot zs ys), .bool (tDotB zs ys)]) ∧ w = w' := by
  have h0 := Lib.hid h
  have h0' := Lib.hid h'
  obtain ⟨A, cap, rfl, hm, hp⟩ := h.parts
  obtain ⟨A', cap', rfl, hm', hp'⟩ := h'.parts
  clear hp hp' h h'
  cases hl : listB zs
  · have HNO := Lib.hid (twoB_no1 (ys := ys) hl)
    go_enter Tryd.func22, Tryd.ntmps22
    go_wp2_with (first | (go_at_call 26; refine (nuList_any _ B _ zs h0.out).mono ?_; rintro e w' ⟨rfl, rfl⟩))
    go_ret2
    exact ⟨dot_no HNO.out, rfl⟩
  · cases hl' : listB ys
    · have HNO := Lib.hid (twoB_no2 (zs := zs) hl')
      go_enter Tryd.func22, Tryd.ntmps22
      go_wp2_with fail
      refine (nuList_any _ B _ zs h0.out).mono ?_
      rintro e w' ⟨rfl, rfl⟩
      go_wp2_with fail
      refine (nuList_any _ B' _ ys h0'.out).mono ?_
      rintro e w' ⟨rfl, rfl⟩
      go_wp2_with fail
      go_ret2
      exact ⟨dot_no HNO.out, rfl⟩
    · cases hq : (zs.length : Int) != (ys.length : Int)
      · have HYES := Lib.hid (twoB_yes hl hl' hq)
        have HZ := Lib.hid (list_parts hl).2
        have HY := Lib.hid (list_parts hl').2
        have hle : zs.length ≤ ys.length := by simp at hq; omega
        go_enter Tryd.func22, Tryd.ntmps22
        go_wp2_with fail
        refine (nuList_any _ B _ zs h0.out).mono ?_
        rintro e w' ⟨rfl, rfl⟩
        go_wp2_with fail
        refine (nuList_any _ B' _ ys h0'.out).mono ?_
        rintro e w' ⟨rfl, rfl⟩
        go_wp2_with fail
        refine (nuDot_any _ B B' _ _ zs ys h0.out h0'.out HZ.out HY.out hle).mono ?_
        rintro e w' ⟨rfl, rfl⟩
        go_wp2_with fail
        refine (nuIf_any _ _).mono ?_
        rintro e w' ⟨rfl, rfl⟩
        go_wp2_with fail
        go_ret2
        exact ⟨dot_yes HYES.out, rfl⟩
      · have HNO := Lib.hid (twoB_no3 hq)
        go_enter Tryd.func22, Tryd.ntmps22
        go_wp2_with fail
        refine (nuList_any _ B _ zs h0.out).mono ?_
        rintro e w' ⟨rfl, rfl⟩
        go_wp2_with fail
        refine (nuList_any _ B' _ ys h0'.out).mono ?_
        rintro e w' ⟨rfl, rfl⟩
        go_wp2_with fail
        go_ret2
        exact ⟨dot_no HNO.out, rfl⟩
set_option maxHeartbeats 1000000 in
theorem implTropDot_any (w : World) (hN : Neut w) (B B' : Nat) (v v' : Value) (zs ys : List Int) (h : IS w B v zs) (h' : IS w B' v' ys) :
    Calls Tryd.prog 21 #[v, v'] w fun e w' => e = .returned (.tuple #[.int .i64 (tDot zs ys), .bool (tDotB zs ys)]) ∧ Below w.heap.size w w' := by
  have h0 := Lib.hid h
  have h0' := Lib.hid h'
  obtain ⟨A, cap, rfl, hm, hp⟩ := h.parts
  obtain ⟨A', cap', rfl, hm', hp'⟩ := h'.parts
  have HP := Lib.hid hp
  have HP' := Lib.hid hp'
  clear hp hp' h h'
  cases hl : listB zs
  · have HNO := Lib.hid (twoB_no1 (ys := ys) hl)
    go_enter Tryd.func21, Tryd.ntmps21
    go_wp2_with (first | (go_at_call 24; refine (isNumberList_any _ B _ zs h0.out).mono ?_; rintro e w' ⟨rfl, rfl⟩))
    go_ret2
    exact ⟨dot_no HNO.out, Below.refl _ _⟩
  · cases hl' : listB ys
    · have HNO := Lib.hid (twoB_no2 (zs := zs) hl')
      go_enter Tryd.func21, Tryd.ntmps21
      go_wp2_with fail
      refine (isNumberList_any _ B _ zs h0.out).mono ?_
      rintro e w' ⟨rfl, rfl⟩
      go_wp2_with fail
      refine (isNumberList_any _ B' _ ys h0'.out).mono ?_
      rintro e w' ⟨rfl, rfl⟩
      go_wp2_with fail
      go_ret2
      exact ⟨dot_no HNO.out, Below.refl _ _⟩
    · cases hq : (zs.length : Int) != (ys.length : Int)
      · have HYES := Lib.hid (twoB_yes hl hl' hq)
        have HZ := Lib.hid (list_parts hl).2
        have HY := Lib.hid (list_parts hl').2
        have h20 := (list_parts hl).1
        have hle : zs.length ≤ ys.length := by simp at hq; omega
        have hge : ys.length ≤ zs.length := by simp at hq; omega
        obtain ⟨i0, hi, hz0, hz1, hz2⟩ := info_parts infoInt
        go_enter Tryd.func21, Tryd.ntmps21
        go_wp2_with fail
        refine (isNumberList_any _ B _ zs h0.out).mono ?_
        rintro e w' ⟨rfl, rfl⟩
        go_wp2_with fail
        refine (isNumberList_any _ B' _ ys h0'.out).mono ?_
        rintro e w' ⟨rfl, rfl⟩
        go_wp2_with (refine wpList_make_full _ rfl _ _ 24 rfl w.heap.size 3 i0 (.int .i64 0) 1 Tryd.underlying24 hi hz0 hz1 .i64 .i64 _ _ zs.length rfl rfl rfl rfl (by rw [hz2]; omega) (by simp only [maxLen]; omega) (Nat.le_refl _) ?_; intro w1 hown hgrow)
        have hrow0 : Row w1 w.heap.size w.heap.size zs.length (part (prods zs ys) 0) := by
          rw [show (madeCells (Value.int .i64 0).cells (zs.length * 1)).toList = ints (part (prods zs ys) 0) from by
            rw [Nat.mul_one]
            exact (toList_madeCells_one (.int .i64 0) zs.length).trans (by simp [part, prods_len zs ys hle])] at hown
          exact hown
        have hb0 : Below w.heap.size w w1 := (Below.refl _ _).grown hgrow (Nat.le_refl _) (fun _ h => by cases h)
        clear hown hgrow hl hl' hq
        go_loopw [28] (fun i wr => ∃ k : Nat, k ≤ zs.length ∧ i = .int .i64 k ∧ Row wr w.heap.size w.heap.size zs.length (part (prods zs ys) k) ∧ Below w.heap.size w wr) (fun i _ => zs.length - (intOf i).toNat)
        case atStart => exact ⟨0, by omega, rfl, hrow0, hb0⟩
        case round =>
          obtain ⟨k, hk, rfl, hrow, hb⟩ := hrel
          clear hrow0 hb0
          by_cases hlt : k < zs.length
          · obtain ⟨g, rfl, hc0⟩ := HP.out k hlt
            obtain ⟨g', rfl, hc0'⟩ := HP'.out k (by omega)
            have hlt' : k < ys.length := by omega
            have hc := (hb.cell (p := ⟨g, k, none⟩) (cell_lt hc0)).trans hc0
            have hc' := (hb.cell (p := ⟨g', k, none⟩) (cell_lt hc0')).trans hc0'
            have b1 := numB_bd (num_at zs HZ.out k hlt)
            have b2 := numB_bd (num_at ys HY.out k hlt')
            have hf := World.ownsRow.frozenAt hrow k
            have hc2 := World.ownsRow.cellAt hrow k (by omega)
            rw [getD_ints _ k (by rw [part_len _ k (by rw [prods_len zs ys hle]; omega), prods_len zs ys hle]; exact hlt)] at hc2
            have hrow' := hrow.store k (plusI (gd zs k) (gd ys k))
            rw [← prods_gd zs ys k hlt hlt', part_set _ k (by rw [prods_len zs ys hle]; exact hlt), prods_gd zs ys k hlt hlt'] at hrow'
            clear hc0 hc0'
            go_wp2
            refine wp_region_still_tail 12 (by kernel_rfl) (by kernel_rfl) ?_
            simp only [List.take_succ_cons, List.take_zero, List.drop_succ_cons, List.drop_zero]
            iterate 10 still_step
            still_call ((freeProduct_any _ _ _ (by omega) (by omega)).mono fun e w' h => ⟨h.1, h.2.symm⟩)
            still_step
            refine wpStill_nil ?_
            change wpList _ _ _ _ _ wr.drew
            go_wp2
            go_roundw
            case rel => exact ⟨k + 1, by omega, by go_num, hrow', (hb.setCell (p := ⟨w.heap.size, k, none⟩) (Nat.le_refl _) _).drew⟩
            case measure => simp [intOf]; omega
          · rw [part_end _ k (by rw [prods_len zs ys hle]; exact hlt)] at hrow
            have hIS : IS wr w.heap.size (.slice (some ⟨w.heap.size, 0, none⟩) zs.length zs.length) (prods zs ys) := by
              unfold IS; rw [prods_len zs ys hle]; exact hrow
            go_wp2_with (first | (go_at_call 25; refine (leastOf_any _ (hN.below hb) _ _ _ hIS).mono ?_; rintro e w' ⟨rfl, rfl⟩) | (go_at_call 39; refine (numberOrNone_any _ _).mono ?_; rintro e w' ⟨rfl, rfl⟩))
            go_ret2
            exact ⟨dot_yes HYES.out, hb⟩
      · have HNO := Lib.hid (twoB_no3 hq)
        go_enter Tryd.func21, Tryd.ntmps21
        go_wp2_with fail
        refine (isNumberList_any _ B _ zs h0.out).mono ?_
        rintro e w' ⟨rfl, rfl⟩
        go_wp2_with fail
        refine (isNumberList_any _ B' _ ys h0'.out).mono ?_
        rintro e w' ⟨rfl, rfl⟩
        go_wp2_with fail
        go_ret2
        exact ⟨dot_no HNO.out, Below.refl _ _⟩
/-- Has a list a normal form; and what it is then; and its sum before. -/
def nmOk (zs : List Int) : Bool := listB zs && (!(leastL zs == 1000000000) && shiftB zs (-leastL zs))
def nmRes (zs : List Int) : List Int := if nmOk zs = true then shiftL zs (-leastL zs) else []
def nmV (zs : List Int) : Int := if nmOk zs = true then leastL zs else 0
theorem nmRes_le {zs : List Int} {m : Nat} (h : zs.length ≤ m) : (nmRes zs).length ≤ m := by
  unfold nmRes; split
  · rw [shift_len]; exact h
  · simp
theorem lessI_num {a b : Int} (ha : numB a = true) (hb : numB b = true) : numB (lessI a b) = true := by unfold lessI; split <;> assumption
theorem fold_num : ∀ (zs : List Int) (a : Int), numB a = true → zs.all numB = true → numB (zs.foldl lessI a) = true
  | [], a, ha, _ => ha
  | z :: zs, a, ha, h => by
    simp only [List.all_cons, Bool.and_eq_true] at h
    exact fold_num zs (lessI a z) (lessI_num ha h.1) h.2
theorem least_num (zs : List Int) (h : zs.all numB = true) : numB (leastL zs) = true := fold_num zs _ rfl h
theorem least_fin (zs : List Int) (h : zs.all numB = true) (hq : (leastL zs == 1000000000) = false) : -1000000 ≤ leastL zs ∧ leastL zs ≤ 1000000 := by
  have := numB_cases (least_num zs h); simp at hq; omega
/-- What NormalList gives. -/
def GivesN (zs : List Int) (w : World) (e : Ending) (w' : World) : Prop := ∃ r, e = .returned (.tuple #[r, .int .i64 (nmV zs), .bool (nmOk zs)]) ∧ IS w' w.heap.size r (nmRes zs) ∧ Below w.heap.size w w'
theorem givesN_no {zs : List Int} {w w' : World} (h : nmOk zs = false) (hb : Below w.heap.size w w') : GivesN zs w (.returned (.tuple #[.slice none 0 0, .int .i64 0, .bool false])) w' := by
  refine ⟨.slice none 0 0, by simp [nmV, h], ?_, hb⟩
  rw [show nmRes zs = [] from if_neg (by simp [h])]
  exact IS.nil_ _ _
theorem givesN_yes {zs : List Int} {r : Value} {w w' : World} (h : nmOk zs = true) (hr : IS w' w.heap.size r (shiftL zs (-leastL zs))) (hb : Below w.heap.size w w') : GivesN zs w (.returned (.tuple #[r, .int .i64 (leastL zs), .bool true])) w' := by
  refine ⟨r, by simp [nmV, h], ?_, hb⟩
  rw [show nmRes zs = shiftL zs (-leastL zs) from if_pos h]
  exact hr
theorem nm_no1 {zs : List Int} (h : listB zs = false) : nmOk zs = false := by simp [nmOk, h]
theorem nm_no2 {zs : List Int} (h : (leastL zs == 1000000000) = true) : nmOk zs = false := by simp [nmOk, h]
theorem nm_of {zs : List Int} (h : listB zs = true) (h2 : (leastL zs == 1000000000) = false) : nmOk zs = shiftB zs (-leastL zs) := by simp [nmOk, h, h2]
set_option maxHeartbeats 400000 in
theorem specNormalList_any (w : World) (B : Nat) (v : Value) (zs : List Int) (h : IS w B v zs) : Calls Tryd.prog 19 #[v] w fun e w' => GivesN zs w e w' := by
  cases hl : listB zs
  · have HNO := Lib.hid (nm_no1 hl)
    go_enter Tryd.func19, Tryd.ntmps19
    go_wp2_with (first | (go_at_call 26; refine (nuList_any _ B _ zs h).mono ?_; rintro e w' ⟨rfl, rfl⟩))
    go_ret3
    exact givesN_no HNO.out (Below.refl _ _)
  · cases hq : leastL zs == 1000000000
    · have hfin := least_fin zs (list_parts hl).2 hq
      obtain ⟨hf1, hf2⟩ := hfin
      have h20 := (list_parts hl).1
      have HZ := Lib.hid (list_parts hl).2
      cases hs : shiftB zs (-leastL zs)
      · have HNO := Lib.hid ((nm_of hl hq).trans hs)
        have HR := Lib.hid (shiftR_no hs)
        go_enter Tryd.func19, Tryd.ntmps19
        go_wp2_with (first | (go_at_call 26; refine (nuList_any _ B _ zs h).mono ?_; rintro e w' ⟨rfl, rfl⟩) | (go_at_call 28; refine (nuSum_any _ B _ zs h).mono ?_; rintro e w' ⟨rfl, rfl⟩) | (go_at_call 35; refine (nuShift_any _ B _ zs _ h h20 HZ.out (by omega)).mono ?_; rintro e w1 ⟨r, rfl, hr, hb⟩))
        go_ret3
        exact givesN_no HNO.out hb
      · have HYES := Lib.hid ((nm_of hl hq).trans hs)
        have HR := Lib.hid (shiftR_yes hs)
        go_enter Tryd.func19, Tryd.ntmps19
        go_wp2_with fail
        refine (nuList_any _ B _ zs h).mono ?_
        rintro e w' ⟨rfl, rfl⟩
        go_wp2_with fail
        refine (nuSum_any _ B _ zs h).mono ?_
        rintro e w' ⟨rfl, rfl⟩
        go_wp2_with fail
        refine (nuSum_any _ B _ zs h).mono ?_
        rintro e w' ⟨rfl, rfl⟩
        go_wp2_with fail
        refine (nuShift_any _ B _ zs _ h h20 HZ.out (by omega)).mono ?_
        rintro e w1 ⟨r, rfl, hr, hb⟩
        rw [HR.out] at hr
        go_wp2_with fail
        refine (nuSum_any _ B _ zs (h.below hb)).mono ?_
        rintro e w' ⟨rfl, rfl⟩
        go_wp2_with fail
        go_ret3
        exact givesN_yes HYES.out hr hb
    · have HNO := Lib.hid (nm_no2 hq)
      go_enter Tryd.func19, Tryd.ntmps19
      go_wp2_with (first | (go_at_call 26; refine (nuList_any _ B _ zs h).mono ?_; rintro e w' ⟨rfl, rfl⟩) | (go_at_call 28; refine (nuSum_any _ B _ zs h).mono ?_; rintro e w' ⟨rfl, rfl⟩))
      go_ret3
      exact givesN_no HNO.out (Below.refl _ _)
set_option maxHeartbeats 400000 in
theorem implNormalList_any (w : World) (hN : Neut w) (B : Nat) (v : Value) (zs : List Int) (h : IS w B v zs) : Calls Tryd.prog 18 #[v] w fun e w' => GivesN zs w e w' := by
  cases hl : listB zs
  · have HNO := Lib.hid (nm_no1 hl)
    go_enter Tryd.func18, Tryd.ntmps18
    go_wp2_with (first | (go_at_call 8; refine (implTropSumOf_any _ hN B _ zs h).mono ?_; rintro e w' ⟨rfl, rfl⟩))
    go_ret3
    exact givesN_no HNO.out (Below.refl _ _)
  · have HV := Lib.hid (show sumV zs = leastL zs from if_pos hl)
    cases hq : leastL zs == 1000000000
    · have hfin := least_fin zs (list_parts hl).2 hq
      obtain ⟨hf1, hf2⟩ := hfin
      have hfn : finB (-leastL zs) = true := (finB_iff _).2 (by omega)
      cases hs : shiftB zs (-leastL zs)
      · have HNO := Lib.hid ((nm_of hl hq).trans hs)
        have hno : shOk zs (-leastL zs) = false := by simp [shOk, hs]
        clear hfn
        go_enter Tryd.func18, Tryd.ntmps18
        go_wp2_with fail
        refine (implTropSumOf_any _ hN B _ zs h).mono ?_
        rintro e w' ⟨rfl, rfl⟩
        rw [HV.out]
        go_wp2_with fail
        refine (implShiftList_any _ B _ zs _ h).mono ?_
        rintro e w1 ⟨r, rfl, hr, hb⟩
        go_wp2_with fail
        go_ret3
        exact givesN_no HNO.out hb
      · have HYES := Lib.hid ((nm_of hl hq).trans hs)
        have hyes : shOk zs (-leastL zs) = true := by simp [shOk, hl, hfn, hs]
        have HR := Lib.hid (shRes_yes hyes)
        clear hfn
        go_enter Tryd.func18, Tryd.ntmps18
        go_wp2_with fail
        refine (implTropSumOf_any _ hN B _ zs h).mono ?_
        rintro e w' ⟨rfl, rfl⟩
        rw [HV.out]
        go_wp2_with fail
        refine (implShiftList_any _ B _ zs _ h).mono ?_
        rintro e w1 ⟨r, rfl, hr, hb⟩
        rw [HR.out] at hr
        go_wp2_with fail
        go_ret3
        exact givesN_yes HYES.out hr hb
    · have HNO := Lib.hid (nm_no2 hq)
      go_enter Tryd.func18, Tryd.ntmps18
      go_wp2_with fail
      refine (implTropSumOf_any _ hN B _ zs h).mono ?_
      rintro e w' ⟨rfl, rfl⟩
      rw [HV.out]
      go_wp2_with fail
      go_ret3
      exact givesN_no HNO.out (Below.refl _ _)
end Go.Proofs.YtiopinhdfoinoacDoor

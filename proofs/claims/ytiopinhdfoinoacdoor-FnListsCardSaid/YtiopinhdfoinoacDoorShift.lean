/-
  ShiftList, of the program and of the model: what each call returns.
  Condition: the slice reads as the list that is named.
-/
import Derived.Test.YtiopinhdfoinoacDoorList
namespace Go.Proofs.YtiopinhdfoinoacDoor
set_option linter.unusedSimpArgs false
set_option linter.unusedVariables false
open Go.ChangeShapes Go.WideShapes Go.ChangeAt Go.RowKit

/-- The products of all elements with a number. -/
def shiftL (zs : List Int) (d : Int) : List Int := zs.map fun n => plusI n d
/-- Are all of them numbers. -/
def shiftB (zs : List Int) (d : Int) : Bool := zs.all fun n => numB (plusI n d)
/-- What a call gives that makes a new slice and tells whether it could. -/
def GivesIB (ok : Bool) (zs : List Int) (w : World) (e : Ending) (w' : World) : Prop := ∃ r, e = .returned (.tuple #[r, .bool ok]) ∧ IS w' w.heap.size r zs ∧ Below w.heap.size w w'
def shiftR (zs : List Int) (d : Int) : List Int := if shiftB zs d = true then shiftL zs d else []
theorem shiftR_yes {zs : List Int} {d : Int} (h : shiftB zs d = true) : shiftR zs d = shiftL zs d := if_pos h
theorem shiftR_no {zs : List Int} {d : Int} (h : shiftB zs d = false) : shiftR zs d = [] := if_neg (by simp [h])
theorem shift_next (zs : List Int) (d : Int) (k : Nat) (hk : k < zs.length) : shiftL (zs.take (k + 1)) d = shiftL (zs.take k) d ++ [plusI (gd zs k) d] := by
  unfold shiftL; rw [take_succ_gd zs k hk, List.map_append]; rfl
theorem shift_bad (zs : List Int) (d : Int) (k : Nat) (hk : k < zs.length) (h : numB (plusI (gd zs k) d) = false) : shiftB zs d = false := by
  unfold shiftB
  rw [List.all_eq_false]
  exact ⟨zs[k], List.getElem_mem hk, by rw [gd_eq zs k hk] at h; simpa using h⟩
theorem shiftB_next (zs : List Int) (d : Int) (k : Nat) (hk : k < zs.length) (h0 : shiftB (zs.take k) d = true) (h : numB (plusI (gd zs k) d) = true) : shiftB (zs.take (k + 1)) d = true := by
  unfold shiftB at h0 ⊢; rw [take_succ_gd zs k hk, List.all_append, h0]; simpa using h
theorem num_at (zs : List Int) (h : zs.all numB = true) (k : Nat) (hk : k < zs.length) : numB (gd zs k) = true := by
  rw [gd_eq zs k hk]; exact List.all_eq_true.1 h _ (List.getElem_mem hk)
theorem orZ_of {n : Int} (h : numB n = true) : orZ n = n := by unfold orZ; rw [if_pos h]
theorem givesIB_nil {ok : Bool} {zs : List Int} {w w' : World} (h1 : ok = false) (h2 : zs = []) (hb : Below w.heap.size w w') : GivesIB ok zs w (.returned (.tuple #[.slice none 0 0, .bool false])) w' := by
  subst h1; subst h2; exact ⟨_, rfl, IS.nil_ _ _, hb⟩
theorem givesIB_yes {ok : Bool} {zs : List Int} {r : Value} {w w' : World} (h1 : ok = true) (h2 : IS w' w.heap.size r zs) (hb : Below w.heap.size w w') : GivesIB ok zs w (.returned (.tuple #[r, .bool true])) w' := by
  subst h1; exact ⟨_, rfl, h2, hb⟩
/-- One element behind an owned row. -/
theorem IS.snoc {w' : World} {B : Nat} {v : Value} {xs : List Int} {x : Int} {n : Nat} (hn : n = xs.length) (h : w'.ownsRow B 3 1 v (n + 1) (ints xs ++ [.int .i64 x])) : IS w' B v (xs ++ [x]) := by
  subst hn
  unfold IS ints
  rw [List.map_append, List.length_append]
  exact h
theorem one_new (w : World) (x : Int) : ∀ j u, [Value.int .i64 x][j]? = some u → (w.alloc (.cells #[.int .i64 x] 3)).cell? ((⟨w.heap.size, 0, none⟩ : Addr).add j) = some u := by
  intro j u h
  cases j with
  | zero =>
    simp at h
    subst h
    exact cell_of_row (w.alloc (.cells #[.int .i64 x] 3)) w.heap.size 0 #[.int .i64 x] 3 (0, 0) (heap_alloc_new w _)
  | succ j => simp at h
set_option maxHeartbeats 400000 in
theorem nuShift_any (w : World) (B : Nat) (v : Value) (zs : List Int) (d : Int) (h : IS w B v zs) (hl : zs.length ≤ 20) (hz : zs.all numB = true) (hd : -1000000000 ≤ d ∧ d ≤ 1000000000) :
    Calls Tryd.prog 35 #[v, .int .i64 d] w fun e w' => GivesIB (shiftB zs d) (shiftR zs d) w e w' := by
  obtain ⟨hd1, hd2⟩ := hd
  obtain ⟨A, cap, rfl, hm, hp⟩ := h.parts
  have HP := Lib.hid hp
  have HZ := Lib.hid hz
  clear hp h hm hz
  obtain ⟨i0, hi, hz0, hz1, hz2⟩ := info_parts infoInt
  go_enter Tryd.func35, Tryd.ntmps35
  go_wp2
  go_loopw [6, 13] (fun o i wr => ∃ k : Nat, k ≤ zs.length ∧ i = .int .i64 k ∧ IS wr w.heap.size o (shiftL (zs.take k) d) ∧ Below w.heap.size w wr ∧ Hid (shiftB (zs.take k) d = true)) (fun _ i _ => zs.length - (intOf i).toNat)
  case atStart => exact ⟨0, by omega, rfl, IS.nil_ _ _, Below.refl _ _, Lib.hid rfl⟩
  case round =>
    obtain ⟨k, hk, rfl, ho, hb, hall⟩ := hrel
    by_cases hlt : k < zs.length
    · obtain ⟨g, rfl, hc0⟩ := HP.out k hlt
      have hc := (hb.cell (p := ⟨g, k, none⟩) (cell_lt hc0)).trans hc0
      clear hc0
      have hab := numB_bd (num_at zs HZ.out k hlt)
      cases hn : numB (plusI (gd zs k) d)
      · go_wp2_with (go_at_call 47; refine (nuMul_any _ _ _ (by omega) (by omega)).mono ?_; rintro e w' ⟨rfl, rfl⟩)
        go_ret2
        have hf := shift_bad zs d k hlt hn
        exact givesIB_nil hf (shiftR_no hf) hb
      · have hlen : (shiftL (zs.take k) d).length = k := by simp [shiftL]; omega
        have hk20 : k ≤ 20 := by omega
        have HLn := Lib.hid hlen
        have HOZ := Lib.hid (orZ_of hn)
        clear hlen
        have ho' : wr.ownsRow w.heap.size 3 1 u6 k (ints (shiftL (zs.take k) d)) := by have := ho; unfold IS at this; rwa [HLn.out] at this
        go_wp2_with (first | (go_at_call 47; refine (nuMul_any _ _ _ (by omega) (by omega)).mono ?_; rintro e w' ⟨rfl, rfl⟩) | (at_builtin; refine wpList_append_own _ rfl _ _ 24 rfl w.heap.size 3 i0 (.int .i64 0) 1 8 Tryd.underlying24 hi hz0 hz1 hz2 rfl (by decide) _ _ _ rfl (ho'.alloc _) ⟨wr.heap.size, 0, none⟩ 1 1 [.int .i64 (orZ (plusI (gd zs k) d))] rfl rfl (one_new _ _) (by simp [Value.oneCell']) (by unfold maxLen; omega) (by omega) (by have := hb.size; simp; omega) ?_; intro v' w1 hown' hgrow hnil))
        have hb' : Below w.heap.size w w1 := (hb.alloc hb.size _).grown hgrow (by have := hb.size; simp; omega) (fun g' hg' => (World.ownsRow.lt ho' g' hg').1)
        rw [HOZ.out] at hown'
        have hrow := IS.snoc HLn.out.symm hown'
        rw [← shift_next zs d k hlt] at hrow
        go_wp2
        go_roundw
        case rel => exact ⟨k + 1, by omega, by go_num, hrow, hb', Lib.hid (shiftB_next zs d k hlt hall.out hn)⟩
        case measure => simp [intOf]; omega
    · go_wp2
      go_ret2
      have hk' : zs.take k = zs := List.take_of_length_le (by omega)
      rw [hk'] at ho hall
      exact givesIB_yes hall.out (by rw [shiftR_yes hall.out]; exact ho) hb
theorem shift_len (zs : List Int) (d : Int) : (shiftL zs d).length = zs.length := by simp [shiftL]
theorem shift_gd (zs : List Int) (d : Int) (k : Nat) (hk : k < zs.length) : gd (shiftL zs d) k = plusI (gd zs k) d := by
  rw [gd_eq _ k (by rw [shift_len]; exact hk), gd_eq zs k hk]; simp [shiftL]
/-- Can a list be shifted by a number; and what it is then. -/
def shOk (zs : List Int) (d : Int) : Bool := listB zs && (finB d && shiftB zs d)
def shRes (zs : List Int) (d : Int) : List Int := if shOk zs d = true then shiftL zs d else []
theorem shRes_no {zs : List Int} {d : Int} (h : shOk zs d = false) : shRes zs d = [] := if_neg (by simp [h])
theorem shRes_yes {zs : List Int} {d : Int} (h : shOk zs d = true) : shRes zs d = shiftL zs d := if_pos h
theorem shRes_le {zs : List Int} {d : Int} {m : Nat} (h : zs.length ≤ m) : (shRes zs d).length ≤ m := by
  unfold shRes; split
  · rw [shift_len]; exact h
  · simp
theorem list_parts {zs : List Int} (h : listB zs = true) : zs.length ≤ 20 ∧ zs.all numB = true := by
  unfold listB at h; simpa using h
theorem GivesIB.of {ok ok' : Bool} {zs zs' : List Int} {w : World} {e : Ending} {w' : World} (h : GivesIB ok zs w e w') (h1 : ok = ok') (h2 : zs = zs') : GivesIB ok' zs' w e w' := by subst h1; subst h2; exact h
theorem fin_num {d : Int} (hn : numB d = true) (hi : (d == 1000000000) = false) : finB d = true := (finB_iff d).2 (by have := numB_cases hn; simp at hi; omega)
theorem specShiftList_any (w : World) (B : Nat) (v : Value) (zs : List Int) (d : Int) (h : IS w B v zs) : Calls Tryd.prog 16 #[v, .int .i64 d] w fun e w' => GivesIB (shOk zs d) (shRes zs d) w e w' := by
  cases hl : listB zs
  · have hno : shOk zs d = false := by simp [shOk, hl]
    have HNO := Lib.hid hno
    clear hno
    go_enter Tryd.func16, Tryd.ntmps16
    go_wp2_with (first | (go_at_call 26; refine (nuList_any _ B _ zs h).mono ?_; rintro e w' ⟨rfl, rfl⟩))
    go_ret2
    exact givesIB_nil HNO.out (shRes_no HNO.out) (Below.refl _ _)
  · cases hn : numB d
    · have hno : shOk zs d = false := by
        have : finB d = false := by
          cases hf : finB d
          · rfl
          · rw [finB_num hf] at hn; cases hn
        simp [shOk, this]
      have HNO := Lib.hid hno
      clear hno
      go_enter Tryd.func16, Tryd.ntmps16
      go_wp2_with (first | (go_at_call 26; refine (nuList_any _ B _ zs h).mono ?_; rintro e w' ⟨rfl, rfl⟩) | (go_at_call 34; refine (nuGood_any _ _).mono ?_; rintro e w' ⟨rfl, rfl⟩))
      go_ret2
      exact givesIB_nil HNO.out (shRes_no HNO.out) (Below.refl _ _)
    · cases hi : d == 1000000000
      · have hf := fin_num hn hi
        have hdb := (finB_iff d).1 hf
        obtain ⟨hd1, hd2⟩ := hdb
        have HE := Lib.hid (show shiftB zs d = shOk zs d by simp [shOk, hl, hf])
        have HE2 := Lib.hid (show shiftR zs d = shRes zs d by unfold shiftR shRes; rw [HE.out])
        have hp := list_parts hl
        obtain ⟨hp1, hp2⟩ := hp
        have HP2 := Lib.hid hp2
        clear hp2 hf
        go_enter Tryd.func16, Tryd.ntmps16
        go_wp2_with (first | (go_at_call 26; refine (nuList_any _ B _ zs h).mono ?_; rintro e w' ⟨rfl, rfl⟩) | (go_at_call 34; refine (nuGood_any _ _).mono ?_; rintro e w' ⟨rfl, rfl⟩) | (go_at_call 35; refine (nuShift_any _ B _ zs d h hp1 HP2.out (by omega)).mono ?_; rintro e w1 ⟨r, rfl, hr, hb⟩))
        go_ret2
        exact ⟨r, by rw [← HE.out]; rfl, by rw [← HE2.out]; exact hr, hb⟩
      · have hno : shOk zs d = false := by
          have : finB d = false := by
            cases hf : finB d
            · rfl
            · have := (finB_iff d).1 hf; simp at hi; omega
          simp [shOk, this]
        have HNO := Lib.hid hno
        clear hno
        go_enter Tryd.func16, Tryd.ntmps16
        go_wp2_with (first | (go_at_call 26; refine (nuList_any _ B _ zs h).mono ?_; rintro e w' ⟨rfl, rfl⟩) | (go_at_call 34; refine (nuGood_any _ _).mono ?_; rintro e w' ⟨rfl, rfl⟩))
        go_ret2
        exact givesIB_nil HNO.out (shRes_no HNO.out) (Below.refl _ _)
theorem tProdB_fin {n d : Int} (hn : numB n = true) (hd : finB d = true) : tProdB n d = numB (plusI n d) := by
  unfold tProdB; rw [hn, finB_num hd]; rfl
theorem tProd_fin {n d : Int} (hn : numB n = true) (hd : finB d = true) (h : numB (plusI n d) = true) : tProd n d = plusI n d := by
  unfold tProd; rw [if_pos ⟨hn, finB_num hd⟩, orZ_of h]
set_option maxHeartbeats 400000 in
theorem implShiftList_any (w : World) (B : Nat) (v : Value) (zs : List Int) (d : Int) (h : IS w B v zs) : Calls Tryd.prog 15 #[v, .int .i64 d] w fun e w' => GivesIB (shOk zs d) (shRes zs d) w e w' := by
  cases hl : listB zs
  · have hno : shOk zs d = false := by simp [shOk, hl]
    have HNO := Lib.hid hno
    clear hno
    go_enter Tryd.func15, Tryd.ntmps15
    go_wp2_with (first | (go_at_call 24; refine (isNumberList_any _ B _ zs h).mono ?_; rintro e w' ⟨rfl, rfl⟩))
    go_ret2
    exact givesIB_nil HNO.out (shRes_no HNO.out) (Below.refl _ _)
  · cases hf : finB d
    · have hno : shOk zs d = false := by simp [shOk, hf]
      have HNO := Lib.hid hno
      clear hno
      go_enter Tryd.func15, Tryd.ntmps15
      go_wp2_with (first | (go_at_call 24; refine (isNumberList_any _ B _ zs h).mono ?_; rintro e w' ⟨rfl, rfl⟩) | (go_at_call 32; refine (isFin_any _ _).mono ?_; rintro e w' ⟨rfl, rfl⟩))
      go_ret2
      exact givesIB_nil HNO.out (shRes_no HNO.out) (Below.refl _ _)
    · have HE := Lib.hid (show shOk zs d = shiftB zs d by simp [shOk, hl, hf])
      have hp := list_parts hl
      obtain ⟨hp1, hp2⟩ := hp
      have HP2 := Lib.hid hp2
      have h0 := Lib.hid h
      obtain ⟨A, cap, rfl, hm, hps⟩ := h.parts
      have HP := Lib.hid hps
      have HF := Lib.hid hf
      clear hp2 hps hm h
      obtain ⟨i0, hi, hz0, hz1, hz2⟩ := info_parts infoInt
      go_enter Tryd.func15, Tryd.ntmps15
      go_wp2_with (first | (go_at_call 24; refine (isNumberList_any _ B _ zs h0.out).mono ?_; rintro e w' ⟨rfl, rfl⟩) | (go_at_call 32; refine (isFin_any _ _).mono ?_; rintro e w' ⟨rfl, rfl⟩) | (refine wpList_make_full _ rfl _ _ 24 rfl w.heap.size 3 i0 (.int .i64 0) 1 Tryd.underlying24 hi hz0 hz1 .i64 .i64 _ _ zs.length rfl rfl rfl rfl (by rw [hz2]; omega) (by simp only [maxLen]; omega) (Nat.le_refl _) ?_; intro w1 hown hgrow))
      have hrow0 : Row w1 w.heap.size w.heap.size zs.length (part (shiftL zs d) 0) := by
        rw [show (madeCells (Value.int .i64 0).cells (zs.length * 1)).toList = ints (part (shiftL zs d) 0) from by
          rw [Nat.mul_one]
          exact (toList_madeCells_one (.int .i64 0) zs.length).trans (by simp [part, shift_len])] at hown
        exact hown
      have hb0 : Below w.heap.size w w1 := (Below.refl _ _).grown hgrow (Nat.le_refl _) (fun _ h => by cases h)
      clear hown hgrow hl hf
      go_loopw [24] (fun i wr => ∃ k : Nat, k ≤ zs.length ∧ i = .int .i64 k ∧ Row wr w.heap.size w.heap.size zs.length (part (shiftL zs d) k) ∧ Below w.heap.size w wr ∧ Hid (shiftB (zs.take k) d = true)) (fun i _ => zs.length - (intOf i).toNat)
      case atStart => exact ⟨0, by omega, rfl, hrow0, hb0, Lib.hid rfl⟩
      case round =>
        obtain ⟨k, hk, rfl, hrow, hb, hall⟩ := hrel
        clear hrow0 hb0
        by_cases hlt : k < zs.length
        · obtain ⟨g, rfl, hc0⟩ := HP.out k hlt
          have hc := (hb.cell (p := ⟨g, k, none⟩) (cell_lt hc0)).trans hc0
          clear hc0
          have HNM := Lib.hid (num_at zs HP2.out k hlt)
          have HTB := Lib.hid (tProdB_fin HNM.out HF.out)
          cases hn : numB (plusI (gd zs k) d)
          · have htb : tProdB (gd zs k) d = false := HTB.out.trans hn
            have HS := Lib.hid (show shOk zs d = false from HE.out.trans (shift_bad zs d k hlt hn))
            clear hn
            go_wp2_with (go_at_call 33; refine (implTropProduct_any _ _ _).mono ?_; rintro e w' ⟨rfl, rfl⟩)
            go_ret2
            exact givesIB_nil HS.out (shRes_no HS.out) hb
          · have htb : tProdB (gd zs k) d = true := HTB.out.trans hn
            have HTV := Lib.hid (tProd_fin HNM.out HF.out hn)
            have HN2 := Lib.hid hn
            clear hn
            have hf := World.ownsRow.frozenAt hrow k
            have hc2 := World.ownsRow.cellAt hrow k (by omega)
            rw [getD_ints _ k (by rw [part_len _ k (by rw [shift_len]; omega), shift_len]; exact hlt)] at hc2
            have hrow' := hrow.store k (plusI (gd zs k) d)
            rw [← shift_gd zs d k hlt, part_set _ k (by rw [shift_len]; exact hlt), shift_gd zs d k hlt, ← HTV.out] at hrow'
            go_wp2_with (go_at_call 33; refine (implTropProduct_any _ _ _).mono ?_; rintro e w' ⟨rfl, rfl⟩)
            go_roundw
            case rel => exact ⟨k + 1, by omega, by go_num, hrow', hb.setCell (Nat.le_refl _) _, Lib.hid (shiftB_next zs d k hlt hall.out HN2.out)⟩
            case measure => simp [intOf]; omega
        · go_wp2
          go_ret2
          have hk' : zs.take k = zs := List.take_of_length_le (by omega)
          rw [hk'] at hall
          have hy : shOk zs d = true := HE.out.trans hall.out
          refine givesIB_yes hy ?_ hb
          rw [shRes_yes hy]
          have := hrow
          rw [part_end _ k (by rw [shift_len]; omega)] at this
          unfold IS
          rw [shift_len]
          exact this
end Go.Proofs.YtiopinhdfoinoacDoor

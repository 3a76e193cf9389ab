/-
  Lists drawn and compared, for the law on lists: what each call returns.
  Conditions: the bytes can be read; the slices read as the lists that are named.
-/
import Derived.Test.YtiopinhdfoinoacDoorLsQ
namespace Go.Proofs.YtiopinhdfoinoacDoor
set_option linter.unusedSimpArgs false
set_option linter.unusedVariables false
open Go.ChangeShapes Go.WideShapes Go.ChangeAt Go.RowKit

/-- A drawn list. -/
def DrawsLs (w : World) (e : Ending) (w' : World) : Prop := ∃ v zs, e = .returned v ∧ IS w' w.heap.size v zs ∧ zs.length ≤ 50 ∧ Below w.heap.size w w'
set_option maxHeartbeats 400000 in
theorem sameInts_same (w : World) (B B' : Nat) (v v' : Value) (zs : List Int) (h : IS w B v zs) (h' : IS w B' v' zs) : Calls Tryd.prog 12 #[v, v'] w fun e w' => e = .returned (.bool true) ∧ ∃ n, w' = w.drewN n := by
  obtain ⟨A, cap, rfl, hm, hp⟩ := h.parts
  obtain ⟨A', cap', rfl, hm', hp'⟩ := h'.parts
  unfold maxLen at hm hm'
  have HP := Lib.hid hp
  have HP' := Lib.hid hp'
  clear hp hp' h h'
  go_enter Tryd.func12, Tryd.ntmps12
  go_wp2
  go_loopw [13] (fun i wr => ∃ k : Nat, k ≤ zs.length ∧ i = .int .i64 k ∧ ∃ n, wr = w.drewN n) (fun i _ => zs.length - (intOf i).toNat)
  case atStart => exact ⟨0, by omega, rfl, 0, rfl⟩
  case round =>
    obtain ⟨k, hk, rfl, n, rfl⟩ := hrel
    by_cases hlt : k < zs.length
    · obtain ⟨g, rfl, hc⟩ := HP.out k hlt
      obtain ⟨g', rfl, hc'⟩ := HP'.out k hlt
      go_wp2
      go_quiet (fail)
      go_wp2
      go_roundw
      case rel => exact ⟨k + 1, by omega, by go_num, _, rfl⟩
      case measure => simp [intOf]; omega
    · go_wp2
      go_ret
      exact ⟨rfl, n, rfl⟩
set_option maxHeartbeats 400000 in
theorem pIn_any (w : World) (B : Nat) (v : Value) (zs : List Int) (n : Int) (h : IS w B v zs) : Calls Tryd.prog 13 #[v, .int .i64 n] w fun e w' => e = .returned (.bool (inL zs n)) ∧ w = w' := by
  obtain ⟨A, cap, rfl, hm, hp⟩ := h.parts
  unfold maxLen at hm
  have HP := Lib.hid hp
  clear hp h
  go_enter Tryd.func13, Tryd.ntmps13
  go_wp2
  go_loopw [9] (fun i wr => ∃ k : Nat, k ≤ zs.length ∧ i = .int .i64 k ∧ Hid (∀ j, j < k → gd zs j ≠ n) ∧ w = wr) (fun i _ => zs.length - (intOf i).toNat)
  case atStart => exact ⟨0, by omega, rfl, Lib.hid fun j hj => by omega, rfl⟩
  case round =>
    obtain ⟨k, hk, rfl, hall, rfl⟩ := hrel
    by_cases hlt : k < zs.length
    · obtain ⟨g, rfl, hc⟩ := HP.out k hlt
      obtain ⟨x, hx⟩ : ∃ x, x = gd zs k := ⟨_, rfl⟩
      rw [← hx] at hc
      by_cases hq : x = n
      · have hf := Lib.hid (inL_yes hlt (hx ▸ hq : gd zs k = n))
        go_wp2
        go_ret
        exact ⟨ret_bool hf.out.symm, rfl⟩
      · have hq1 : (x == n) = false := by simpa using hq
        have hf := Lib.hid (show ∀ j, j < k + 1 → gd zs j ≠ n from fun j hj => by
          rcases Nat.lt_or_ge j k with q | q
          · exact hall.out j q
          · obtain rfl : j = k := by omega
            rw [← hx]; exact hq)
        clear hx
        go_wp2
        go_roundw
        case rel => exact ⟨k + 1, by omega, by go_num, hf, by first | rfl | trivial⟩
        case measure => simp [intOf]; omega
    · obtain rfl : k = zs.length := by omega
      have hf := Lib.hid (inL_no hall.out)
      go_wp2
      go_ret
      exact ⟨ret_bool hf.out.symm, rfl⟩
theorem drawSumOf_any (w : World) (A : Option Addr) (n cap : Nat) (h : RB w w.heap.size A n) (hn : n ≤ 1048576) : Calls Tryd.prog 23 #[.slice A n cap] w fun e w' => DrawsLs w e w' := by
  have hc := cur_new (cap := cap) h hn
  have hb0 := (Below.refl w.heap.size w).alloc (Nat.le_refl _) (.cells #[.slice A n cap, .int .i64 0, .int .u64 0] 48)
  go_enter Tryd.func23, Tryd.ntmps23
  go_wp2_with fail
  refine (nums_any _ _ _ hc (by omega)).mono ?_
  rintro e v1 ⟨v, zs, rfl, hv, hl, hc1, hg1⟩
  obtain ⟨A1, cap1, rfl, -, -⟩ := hv.parts
  have B1 := bel_drawsP hb0 hg1 (Nat.le_refl _)
  have HV := Lib.hid (hv.base (show w.heap.size ≤ _ by simp))
  clear hv hc h hb0 hg1 hc1
  go_wp2
  go_ret
  exact ⟨_, _, rfl, HV.out, by omega, B1⟩
theorem drawLeastPlaces_any (w : World) (A : Option Addr) (n cap : Nat) (h : RB w w.heap.size A n) (hn : n ≤ 1048576) : Calls Tryd.prog 5 #[.slice A n cap] w fun e w' => DrawsLs w e w' := by
  go_enter Tryd.func5, Tryd.ntmps5
  go_wp2_with fail
  refine (drawSumOf_any _ _ _ _ h hn).mono ?_
  rintro e v1 ⟨v, zs, rfl, hv, hl, B1⟩
  obtain ⟨A1, cap1, rfl, -, -⟩ := hv.parts
  go_wp2
  go_ret
  exact ⟨_, _, rfl, hv, hl, B1⟩
theorem drawNormalList_any (w : World) (A : Option Addr) (n cap : Nat) (h : RB w w.heap.size A n) (hn : n ≤ 1048576) : Calls Tryd.prog 17 #[.slice A n cap] w fun e w' => DrawsLs w e w' := by
  go_enter Tryd.func17, Tryd.ntmps17
  go_wp2_with fail
  refine (drawSumOf_any _ _ _ _ h hn).mono ?_
  rintro e v1 ⟨v, zs, rfl, hv, hl, B1⟩
  obtain ⟨A1, cap1, rfl, -, -⟩ := hv.parts
  go_wp2
  go_ret
  exact ⟨_, _, rfl, hv, hl, B1⟩
def DrawsLN (w : World) (e : Ending) (w' : World) : Prop := ∃ v zs x, e = .returned (.tuple #[v, .int .i64 x]) ∧ IS w' w.heap.size v zs ∧ zs.length ≤ 50 ∧ Below w.heap.size w w'
set_option maxHeartbeats 1000000 in
theorem drawShiftList_any (w : World) (A : Option Addr) (n cap : Nat) (h : RB w w.heap.size A n) (hn : n ≤ 1048576) : Calls Tryd.prog 14 #[.slice A n cap] w fun e w' => DrawsLN w e w' := by
  have hc := cur_new (cap := cap) h hn
  have hb0 := (Below.refl w.heap.size w).alloc (Nat.le_refl _) (.cells #[.slice A n cap, .int .i64 0, .int .u64 0] 48)
  go_enter Tryd.func14, Tryd.ntmps14
  go_wp2_with fail
  refine (nums_any _ _ _ hc (by omega)).mono ?_
  rintro e v1 ⟨v, zs, rfl, hv, hl, hc1, hg1⟩
  obtain ⟨A1, cap1, rfl, -, -⟩ := hv.parts
  have B1 := bel_drawsP hb0 hg1 (Nat.le_refl _)
  have HV := Lib.hid (hv.base (show w.heap.size + 1 ≤ _ by simp))
  clear hv hc h hb0 hg1
  go_wp2_with fail
  refine (anyNum_any _ _ _ hc1 (by omega)).mono ?_
  rintro e v2 ⟨x, rfl, -, hc2, hg2⟩
  have O2 := Lib.hid (IS.away HV.out (fun g hg => by have := (HV.out.lt g hg).1; omega) hg2)
  have B3 := bel_drawsP B1 hg2 (Nat.le_refl _)
  go_wp2
  go_ret2
  exact ⟨_, _, _, rfl, O2.out.base (by omega), by omega, B3⟩
def DrawsLL (w : World) (e : Ending) (w' : World) : Prop := ∃ v zs u ys, e = .returned (.tuple #[v, u]) ∧ IS w' w.heap.size v zs ∧ IS w' w.heap.size u ys ∧ zs.length ≤ 50 ∧ ys.length ≤ 50 ∧ Below w.heap.size w w'
set_option maxHeartbeats 2000000 in
set_option maxRecDepth 100000 in
theorem drawTropDot_any (w : World) (A : Option Addr) (n cap : Nat) (h : RB w w.heap.size A n) (hn : n ≤ 1048576) : Calls Tryd.prog 20 #[.slice A n cap] w fun e w' => DrawsLL w e w' := by
  obtain ⟨i0, hi, hz0, hz1, hz2⟩ := info_parts infoInt
  have hc := cur_new (cap := cap) h hn
  have hb0 := (Below.refl w.heap.size w).alloc (Nat.le_refl _) (.cells #[.slice A n cap, .int .i64 0, .int .u64 0] 48)
  go_enter Tryd.func20, Tryd.ntmps20
  go_wp2_with fail
  refine (nums_any _ _ _ hc (by omega)).mono ?_
  rintro e v1 ⟨v, zs, rfl, hv, hl, hc1, hg1⟩
  obtain ⟨A1, cap1, rfl, -, -⟩ := hv.parts
  have HV := Lib.hid (hv.base (show w.heap.size + 1 ≤ _ by simp))
  have B1 := Lib.hid (bel_drawsP hb0 hg1 (Nat.le_refl _))
  have hs1 : w.heap.size < v1.heap.size := hc1.lt
  clear hv hc h hb0 hg1
  obtain ⟨m, hm⟩ : ∃ m, m = zs.length := ⟨_, rfl⟩
  rw [← hm] at hl ⊢
  have HM := Lib.hid hm
  clear hm
  go_wp2
  go_loopw [6, 14] (fun o i wr => ∃ (ys : List Int) (vo : Value), vo = o ∧ ys.length ≤ m ∧ i = .int .i64 (ys.length : Nat) ∧ Hid (IS wr v1.heap.size vo ys) ∧ Hid (IS wr (w.heap.size + 1) (.slice A1 m cap1) zs) ∧ Hid (Cur wr w.heap.size (200 + 4 * ys.length)) ∧ Hid (v1.grownBy wr (some w.heap.size))) (fun _ i _ => m - (intOf i).toNat)
  case atStart => exact ⟨[], _, rfl, by simp, rfl, Lib.hid (IS.nil_ _ _), by rw [HM.out]; exact HV, Lib.hid (hc1.more (by omega)), Lib.hid (World.grownBy.refl _ _)⟩
  case round =>
    obtain ⟨ys, vo, hov, hy, rfl, ho, hv, hcr, hg⟩ := hrel
    subst hov
    obtain ⟨A', cap', rfl, -, -⟩ := ho.out.parts
    by_cases hlt : ys.length < m
    · go_wp2_with fail
      refine (num_any _ _ _ hcr.out (by omega)).mono ?_
      rintro e x3 ⟨q, rfl, -, c3, g3⟩
      have O3 := Lib.hid (IS.away ho.out (fun g hg => by have := (ho.out.lt g hg).1; omega) g3)
      have V3 := Lib.hid (IS.away hv.out (fun g hg => by have := (hv.out.lt g hg).1; omega) g3)
      have G3 := grown_trans hg.out g3
      have hs3 := G3.size
      have ho' : x3.ownsRow v1.heap.size 3 1 (.slice A' ys.length cap') ys.length (ints ys) := O3.out
      go_wp2_with (at_builtin; refine wpList_append_own _ rfl _ _ 24 rfl v1.heap.size 3 i0 (.int .i64 0) 1 8 Tryd.underlying24 hi hz0 hz1 hz2 rfl (by decide) _ _ _ rfl (ho'.alloc _) ⟨x3.heap.size, 0, none⟩ 1 1 [.int .i64 q] rfl rfl (one_new _ _) (by simp [Value.oneCell']) (by unfold maxLen; omega) (by omega) (by simp; omega) ?_; intro v' x4 hown' hgrow hnil)
      have hrow := Lib.hid (IS.snoc rfl hown')
      have hne : ∀ k, (Value.slice A' ys.length cap').ownBlock = some k → v1.heap.size ≤ k := fun k hk => (O3.out.lt k hk).1
      have c4 := Lib.hid (show Cur x4 w.heap.size (200 + 4 * (ys ++ [q]).length) from ((c3.alloc (.cells #[.int .i64 q] 3)).same (fun i hi => hgrow.block i (by have := c3.lt; simp; omega) (fun he => by
        have := hne i he.symm
        omega))).more (by simp; omega))
      have V4 := Lib.hid (show IS x4 (w.heap.size + 1) (.slice A1 m cap1) zs from (V3.out.alloc (.cells #[.int .i64 q] 3)).keep (fun g hg' => hgrow.block g (by have := (V3.out.lt g hg').2; simp; omega) (fun he => by
        have h1 := hne g he.symm
        have h2 := (HV.out.lt g (by rw [← HM.out]; exact hg')).2
        omega)))
      have G4 := Lib.hid (grown_own (grown_alloc G3 _) hgrow hne)
      clear hown' hgrow hnil ho' hs3 G3
      go_wp2
      go_roundw
      case rel => exact ⟨ys ++ [q], _, rfl, by simp; omega, by simp, hrow, V4, c4, G4⟩
      case measure => (simp [intOf]) <;> omega
    · have he : ys.length = m := by omega
      have BW := Lib.hid (bel_drawsP B1.out hg.out (Nat.le_refl _))
      have HY := Lib.hid (show ys.length ≤ 50 by omega)
      have HZ := Lib.hid (show zs.length ≤ 50 by rw [← HM.out]; omega)
      clear he
      go_wp2_with fail
      refine (one_any 16 (by omega) _ _ _ hcr.out (by omega)).mono ?_
      rintro e x1 ⟨o1, rfl, c1, g1⟩
      have O1 := Lib.hid (IS.away ho.out (fun g hg => by have := (ho.out.lt g hg).1; omega) g1)
      have V1 := Lib.hid (IS.away hv.out (fun g hg => by have := (hv.out.lt g hg).1; omega) g1)
      have BX := Lib.hid (bel_drawsP BW.out g1 (Nat.le_refl _))
      cases o1
      · go_wp2
        go_ret2
        exact ⟨_, zs, _, ys, rfl, V1.out.base (by omega), O1.out.base (by omega), HZ.out, HY.out, BX.out⟩
      · go_wp2_with fail
        refine (nums_any _ _ _ c1 (by omega)).mono ?_
        rintro e x2 ⟨v2, z2, rfl, hv2, hl2, c2, g2⟩
        have V2 := Lib.hid (IS.away V1.out (fun g hg => by have := (V1.out.lt g hg).1; omega) g2)
        have BY := bel_drawsP BX.out g2 (Nat.le_refl _)
        have hsz : w.heap.size ≤ x1.heap.size := BX.out.size
        obtain ⟨A2, cap2, rfl, -, -⟩ := hv2.parts
        have HV2 := Lib.hid (hv2.base hsz)
        clear hv2
        go_wp2
        go_ret2
        exact ⟨_, zs, _, z2, rfl, V2.out.base (by omega), HV2.out, HZ.out, by omega, BY⟩
end Go.Proofs.YtiopinhdfoinoacDoor

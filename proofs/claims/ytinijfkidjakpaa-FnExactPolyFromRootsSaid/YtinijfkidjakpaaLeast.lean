/-
  The least coefficients of a polynomial's function, in the model and in the program: what each call returns; slices compared and copied by Go's library.
  Conditions: the slices read as the lists that are named.
-/
import Derived.Test.YtinijfkidjakpaaHeight
import Derived.Test.YtinijfkidjakpaaValue
import Derived.StillTailTactics
import Derived.Lib.SliceRun
namespace Go.Proofs.Ytinijfkidjakpaa
set_option linter.unusedSimpArgs false
set_option linter.unusedVariables false
open Go.ChangeShapes Go.WideShapes Go.ChangeAt Go.RowKit

/-- The coefficients below m, and that of k, are laid; the others are Infinity. -/
def stF (zs C : List Int) (m k j : Nat) : Int := if j < m ∨ j = k then lowF zs C (j : Int) else 1000000000
def stL (zs C : List Int) (m k : Nat) : List Int := tab (stF zs C m k) zs.length
def infL (n : Nat) : List Int := List.replicate n 1000000000
def outL (zs C : List Int) (n : Nat) : List Int := if n = 0 then infL zs.length else stL zs C ((gd C (n - 1)).toNat + 1) (gd C (n - 1)).toNat
theorem tab_set (f : Nat → Int) (n k : Nat) (x : Int) : (tab f n).set k x = tab (fun j => if j = k then x else f j) n := by
  refine List.ext_getElem (by simp [tab_len]) fun i h1 h2 => ?_
  simp only [List.getElem_set]
  have h3 : i < n := by simpa [tab_len] using h2
  by_cases e : k = i
  · subst e; simp [tab]
  · rw [if_neg e]; simp [tab, Ne.symm e]
theorem infL_len (n : Nat) : (infL n).length = n := by simp [infL]
theorem infL_tab (n : Nat) : infL n = tab (fun _ => 1000000000) n := by
  refine List.ext_getElem (by simp [infL, tab_len]) fun i h1 h2 => ?_
  simp [infL, tab]
theorem stL_len (zs C : List Int) (m k : Nat) : (stL zs C m k).length = zs.length := tab_len _ _
theorem outL_len (zs C : List Int) (n : Nat) : (outL zs C n).length = zs.length := by
  unfold outL; split
  · exact infL_len _
  · exact stL_len _ _ _ _
theorem low_before {zs C : List Int} {j : Nat} (h : (j : Int) < gd C 0) : lowF zs C (j : Int) = 1000000000 := by unfold lowF; rw [if_neg (by omega)]
/-- The first corner is laid. -/
theorem out_first {zs C : List Int} (h : Corn zs C) {c : Nat} (hc : gd C 0 = c) : (infL zs.length).set c (gd zs c) = stL zs C (c + 1) c := by
  rw [infL_tab, tab_set]
  refine tab_ext fun j hj => ?_
  unfold stF
  by_cases e : j = c
  · subst e
    have := h.low_corner (n := 0) h.pos
    rw [hc] at this
    rw [if_pos rfl, if_pos (.inr rfl), this]; unfold pv; rw [Int.toNat_natCast]
  · rw [if_neg e]
    by_cases hlt : j < c + 1
    · rw [if_pos (.inl hlt), low_before (by rw [hc]; omega)]
    · rw [if_neg (by omega)]
/-- A further corner is laid. -/
theorem st_corner {zs C : List Int} (h : Corn zs C) {n i k : Nat} (hn : n < C.length) (hk : gd C n = k) (hik : i < k) : (stL zs C (i + 1) i).set k (gd zs k) = stL zs C (i + 1) k := by
  unfold stL
  rw [tab_set]
  refine tab_ext fun j hj => ?_
  unfold stF
  by_cases e : j = k
  · subst e
    have := h.low_corner hn
    rw [hk] at this
    rw [if_pos rfl, if_pos (.inr rfl), this]; unfold pv; rw [Int.toNat_natCast]
  · rw [if_neg e]
    by_cases hlt : j < i + 1
    · rw [if_pos (.inl hlt), if_pos (.inl hlt)]
    · rw [if_neg (by omega), if_neg (by omega)]
/-- A coefficient between is laid. -/
theorem st_next {zs C : List Int} {j k : Nat} {x : Int} (hx : x = lowF zs C (j : Int)) : (stL zs C j k).set j x = stL zs C (j + 1) k := by
  unfold stL
  rw [tab_set]
  refine tab_ext fun l hl => ?_
  unfold stF
  by_cases e : l = j
  · subst e; rw [if_pos rfl, if_pos (.inl (by omega)), hx]
  · rw [if_neg e]
    by_cases h1 : l < j ∨ l = k
    · rw [if_pos h1, if_pos (by omega)]
    · rw [if_neg h1, if_neg (by omega)]
theorem st_same (zs C : List Int) (k : Nat) : stL zs C k k = stL zs C (k + 1) k := by
  unfold stL
  refine tab_ext fun l hl => ?_
  unfold stF
  by_cases h1 : l < k ∨ l = k
  · rw [if_pos h1, if_pos (by omega)]
  · rw [if_neg h1, if_neg (by omega)]
theorem out_end {zs : List Int} (h : Corn zs (corL zs)) : outL zs (corL zs) (corL zs).length = lowL zs := by
  have hp := h.pos
  have hl := h.last
  unfold outL
  rw [if_neg (by omega), hl]
  unfold stL lowL
  refine tab_ext fun j hj => ?_
  unfold stF
  rw [if_pos (.inl (by omega))]
/-- The first j are Infinity. -/
def fillL (n j : Nat) : List Int := List.replicate j 1000000000 ++ List.replicate (n - j) 0
theorem fillL_len {n j : Nat} (h : j ≤ n) : (fillL n j).length = n := by unfold fillL; simp; omega
theorem fillL_set {n j : Nat} (h : j < n) : (fillL n j).set j 1000000000 = fillL n (j + 1) := by
  unfold fillL
  rw [List.set_append_right _ _ (by simp), List.length_replicate, Nat.sub_self, show n - j = (n - (j + 1)) + 1 by omega, List.replicate_succ, List.set_cons_zero, List.replicate_succ', List.append_assoc]
  rfl
theorem fillL_end (n : Nat) : fillL n n = infL n := by unfold fillL infL; simp
theorem grown_drew {w w' : World} {row : Option Nat} (h : w.grownBy w' row) : w.grownBy w'.drew row := ⟨h.os, h.tape, h.output, h.size, h.block⟩
set_option maxHeartbeats 2000000 in
set_option maxRecDepth 100000 in
theorem rtLeast_any (w : World) (B : Nat) (v : Value) (zs : List Int) (h : IS w B v zs) (hz : poB zs = true) : Calls Try.prog 62 #[v] w fun e w' => GivesI (lowL zs) w e w' := by
  have hC := corL_ok hz
  have HZ := Lib.hid hz
  have H := Lib.hid h
  obtain ⟨A, cap, rfl, -, hp⟩ := h.parts
  have HP := Lib.hid hp
  have hzl := hC.zl
  have hcp := hC.pos
  have hcl := hC.le
  have HO := Lib.hid (out_end hC)
  obtain ⟨C, hCe⟩ : ∃ C, C = corL zs := ⟨_, rfl⟩
  rw [← hCe] at hC hcp hcl HO
  have HCE := Lib.hid hCe
  have HC := Lib.hid hC
  obtain ⟨n, hn⟩ : ∃ n, n = zs.length := ⟨_, rfl⟩
  rw [← hn] at hzl ⊢
  have HN := Lib.hid hn
  obtain ⟨L, hL⟩ : ∃ L, L = C.length := ⟨_, rfl⟩
  rw [← hL] at hcp hcl HO
  have HL := Lib.hid hL
  obtain ⟨i0, hi, hz0, hz1, hz2⟩ := info_parts infoInt
  clear hp h hz hC hCe hn hL
  go_enter Try.func62, Try.ntmps62
  go_wp2_with (refine wpList_make_full _ rfl _ _ 22 rfl w.heap.size 3 i0 (.int .i64 0) 1 Try.underlying22 hi hz0 hz1 .i64 .i64 _ _ n rfl rfl rfl rfl (by rw [hz2]; omega) (by simp only [maxLen]; omega) (Nat.le_refl _) ?_; intro w1 hown hgrow)
  have hrow0 : Row w1 w.heap.size w.heap.size n (fillL n 0) := by
    rw [show (madeCells (Value.int .i64 0).cells (n * 1)).toList = ints (fillL n 0) from by
      rw [Nat.mul_one]
      exact (toList_madeCells_one (.int .i64 0) n).trans (by simp [fillL])] at hown
    exact hown
  have hb0 : Below w.heap.size w w1 := (Below.refl _ _).grown hgrow (Nat.le_refl _) (fun _ h => by cases h)
  clear hown hgrow
  go_wp2
  go_loopw [15] (fun i wr => ∃ k : Nat, k ≤ n ∧ i = .int .i64 k ∧ Row wr w.heap.size w.heap.size n (fillL n k) ∧ Below w.heap.size w wr) (fun i _ => n - (intOf i).toNat)
  case atStart => exact ⟨0, by omega, rfl, hrow0, hb0⟩
  case round =>
    obtain ⟨k, hk, rfl, hrow, hb⟩ := hrel
    clear hrow0 hb0
    by_cases hlt : k < n
    · have hf := World.ownsRow.frozenAt hrow k
      have hc2 := World.ownsRow.cellAt hrow k (by omega)
      rw [getD_ints _ k (by rw [fillL_len hk]; exact hlt)] at hc2
      have hrow' := hrow.store k 1000000000
      rw [fillL_set hlt] at hrow'
      go_wp2
      go_roundw
      case rel => exact ⟨k + 1, by omega, by go_num, hrow', hb.setCell (Nat.le_refl _) _⟩
      case measure => simp [intOf]; omega
    · obtain rfl : k = n := by omega
      rw [fillL_end] at hrow
      go_wp2_with fail
      refine (rtCorners_any _ B _ zs (by have := H.out.below hb; rw [← HN.out] at this; exact this) HZ.out).mono ?_
      rintro e w2 ⟨r, rfl, hr, b2⟩
      rw [← HCE.out] at hr
      obtain ⟨A2, cap2, rfl, -, hp2⟩ := hr.parts
      have HP2 := Lib.hid hp2
      have HLC := Lib.hid (show ∀ g, A2 = some ⟨g, 0, none⟩ → wr.heap.size ≤ g from fun g hg => by subst hg; exact (hr.lt g rfl).1)
      rw [show (Value.slice A2 C.length cap2) = Value.slice A2 L cap2 by rw [HL.out]]
      have hrow2 : Row w2 w.heap.size w.heap.size k (outL zs C 0) := by
        have h1 : outL zs C 0 = infL k := by unfold outL; rw [if_pos rfl, HN.out]
        rw [h1]; exact hrow.below b2
      have HB2 := Lib.hid (bel2 hb b2)
      have hsw : w.heap.size < wr.heap.size := (World.ownsRow.lt hrow w.heap.size rfl).2
      have hsw2 := b2.size
      clear hr hp2 hrow hb b2
      go_wp2
      go_loopw [26] (fun i wx => ∃ m : Nat, m ≤ L ∧ i = .int .i64 m ∧ Row wx w.heap.size w.heap.size k (outL zs C m) ∧ w2.grownBy wx (some w.heap.size)) (fun i _ => L - (intOf i).toNat)
      case atStart => exact ⟨0, by omega, rfl, hrow2, World.grownBy.refl _ _⟩
      case round =>
        obtain ⟨m, hm, rfl, hrow, hg⟩ := hrel
        clear hrow2
        by_cases hlm : m < L
        · have hpk := HC.out.pt m (by rw [← HL.out]; exact hlm)
          obtain ⟨c, hc⟩ : ∃ c : Nat, gd C m = c := ⟨(gd C m).toNat, by omega⟩
          obtain ⟨g2, rfl, cm0⟩ := HP2.out m (by rw [← HL.out]; exact hlm)
          have hg2 := HLC.out g2 rfl
          have cm := hg.cell cm0 (some_ne (by show g2 ≠ w.heap.size; omega))
          rw [hc] at hpk cm
          obtain ⟨g, rfl, pc0⟩ := HP.out c (by omega)
          have hgw : g < w.heap.size := cell_lt pc0
          have pc := hg.cell ((HB2.out.cell (cell_lt pc0)).trans pc0) (some_ne (by show g ≠ w.heap.size; omega))
          have hck : c < k := by have := HN.out; omega
          have hf := World.ownsRow.frozenAt hrow c
          have hc2 := World.ownsRow.cellAt hrow c (by omega)
          rw [getD_ints _ c (by rw [outL_len, ← HN.out]; exact hck)] at hc2
          have hrow' := hrow.store c (gd zs c)
          have hg' := Lib.grownBy_trans hg (grown_set wr w.heap.size c (.int .i64 (gd zs c)))
          have HCM := Lib.hid hc
          simp only [pv, Int.toNat_natCast] at hpk
          obtain ⟨k1, k2, k3, k4⟩ := hpk
          have HG := Lib.hid hg'
          clear hc cm0 pc0 hg'
          by_cases hm0 : m = 0
          · subst hm0
            have HS := Lib.hid (show (outL zs C 0).set c (gd zs c) = outL zs C 1 by
              have h1 := out_first HC.out HCM.out
              unfold outL
              rw [if_pos rfl, if_neg (by omega), h1, show (1 : Nat) - 1 = 0 from rfl, HCM.out, Int.toNat_natCast])
            rw [HS.out] at hrow'
            go_wp2
            go_roundw
            case rel => exact ⟨1, by omega, by go_num, hrow', HG.out⟩
            case measure => simp [intOf]; omega
          · have hu := HC.out.up (m - 1) (by rw [← HL.out]; omega)
            have hpi := HC.out.pt (m - 1) (by rw [← HL.out]; omega)
            rw [show m - 1 + 1 = m by omega, HCM.out] at hu
            obtain ⟨i, hi'⟩ : ∃ i : Nat, gd C (m - 1) = i := ⟨(gd C (m - 1)).toNat, by omega⟩
            rw [hi'] at hu hpi
            have HS := Lib.hid (show (outL zs C m).set c (gd zs c) = stL zs C (i + 1) c by
              unfold outL
              rw [if_neg hm0, hi', Int.toNat_natCast]
              exact st_corner HC.out (by rw [← HL.out]; exact hlm) HCM.out (by omega))
            have HS2 := Lib.hid (show outL zs C (m + 1) = stL zs C c c by
              unfold outL
              rw [if_neg (by omega), Nat.add_sub_cancel, HCM.out, Int.toNat_natCast, st_same])
            have HLOW := Lib.hid (show ∀ j : Nat, i < j → j < c → lowF zs C (j : Int) = -floorI (-(gd zs i * ((c : Int) - j) + gd zs c * ((j : Int) - i))) ((c : Int) - i) ∧ -1000000 ≤ lowF zs C (j : Int) ∧ lowF zs C (j : Int) ≤ 1000000 from fun j h1 h2 => by
              have h0 := up_le HC.out.up (n := 0) (m := m - 1) (by omega) (by rw [← HL.out]; omega)
              rw [hi'] at h0
              have hr := raw_at zs C (m - 1) HC.out.up (by rw [← HL.out]; omega) (j := (j : Int)) (by rw [hi']; omega) (by rw [show m - 1 + 1 = m by omega, HCM.out]; omega)
              rw [show m - 1 + 1 = m by omega, hi', HCM.out] at hr
              refine ⟨?_, HC.out.low_bd (by omega) (by omega)⟩
              unfold lowF
              rw [if_pos ⟨by omega, by omega⟩, hr.1, hr.2]
              unfold pv
              rw [Int.toNat_natCast, Int.toNat_natCast])
            obtain ⟨g3, hg3, cu0⟩ := HP2.out (m - 1) (by rw [← HL.out]; omega)
            cases hg3
            have cu := hg.cell cu0 (some_ne (by show g2 ≠ w.heap.size; omega))
            rw [hi'] at cu
            rw [HS.out] at hrow'
            simp only [pv, Int.toNat_natCast] at hpi
            obtain ⟨i1, i2, i3, i4⟩ := hpi
            have q7 : IntKind.i64.wrap ((m : Int) - 1) = ((m - 1 : Nat) : Int) := by rw [IntWalk.i64_in _ (by omega)]; omega
            have q7' : (m : Int) - 1 = ((m - 1 : Nat) : Int) := by omega
            have lm1 : m - 1 < L := by omega
            have hm1 : ((m : Int) == 0) = false := by simp; omega
            have HBDS := Lib.hid (And.intro (And.intro i3 i4) (And.intro k3 k4))
            have HROW := Lib.hid hrow'
            clear hi' cu0 hg hrow
            go_wp2
            clear q7 q7' cm cu pc hc2 hf
            go_loopw [9] (fun x wx => ∃ j : Nat, i + 1 ≤ j ∧ j ≤ c ∧ x = .int .i64 j ∧ Row wx w.heap.size w.heap.size k (stL zs C j c) ∧ w2.grownBy wx (some w.heap.size)) (fun x _ => c - (intOf x).toNat)
            case atStart => exact ⟨i + 1, by omega, by omega, by go_num, HROW.out, HG.out⟩
            case round =>
              obtain ⟨j, hj1, hj2, rfl, hrow, hg⟩ := hrel
              clear hrow'
              by_cases hjc : j < c
              · obtain ⟨e1, e2, e3⟩ := HLOW.out j (by omega) hjc
                obtain ⟨gp', hgp, pi0⟩ := HP.out i (by omega)
                cases hgp
                obtain ⟨gp', hgp, pk0⟩ := HP.out c (by omega)
                cases hgp
                have pi := hg.cell ((HB2.out.cell (cell_lt pi0)).trans pi0) (some_ne (by show g ≠ w.heap.size; omega))
                have pk := hg.cell ((HB2.out.cell (cell_lt pk0)).trans pk0) (some_ne (by show g ≠ w.heap.size; omega))
                have hf := World.ownsRow.frozenAt hrow j
                have hc2 := World.ownsRow.cellAt hrow j (by omega)
                rw [getD_ints _ j (by rw [stL_len, ← HN.out]; omega)] at hc2
                obtain ⟨x, hx⟩ : ∃ x, x = gd zs i := ⟨_, rfl⟩
                obtain ⟨y, hy⟩ : ∃ x, x = gd zs c := ⟨_, rfl⟩
                obtain ⟨⟨b1, b2⟩, b3, b4⟩ := HBDS.out
                rw [← hx] at e1 pi b1 b2
                rw [← hy] at e1 pk b3 b4
                have m1 := mul12 (a := x) (d := (c : Int) - j) (M := 1000000) ⟨b1, b2⟩ (by omega) (by omega)
                have m2 := mul12 (a := y) (d := (j : Int) - i) (M := 1000000) ⟨b3, b4⟩ (by omega) (by omega)
                obtain ⟨X, hX⟩ : ∃ X, X = x * ((c : Int) - j) := ⟨_, rfl⟩
                obtain ⟨Y, hY⟩ : ∃ X, X = y * ((j : Int) - i) := ⟨_, rfl⟩
                rw [← hX] at m1 e1
                rw [← hY] at m2 e1
                obtain ⟨F, hF⟩ : ∃ F, F = floorI (-(X + Y)) ((c : Int) - i) := ⟨_, rfl⟩
                rw [← hF] at e1
                have HSN := Lib.hid (show (stL zs C j c).set j (-F) = stL zs C (j + 1) c from st_next e1.symm)
                have hFb : -1000000 ≤ F ∧ F ≤ 1000000 := by omega
                obtain ⟨F1, F2'⟩ := hFb
                have hrow' := hrow.store j (-F)
                rw [HSN.out] at hrow'
                have HR2 := Lib.hid hrow'
                have HG2 := Lib.hid (Lib.grownBy_trans hg (grown_set wr w.heap.size j (.int .i64 (-F))))
                have q1 : IntKind.i64.wrap ((c : Int) - j) = (c : Int) - j := IntWalk.i64_in _ (by omega)
                have q2 : IntKind.i64.wrap (x * ((c : Int) - j)) = X := by rw [← hX]; exact IntWalk.i64_in _ (by omega)
                have q3 : IntKind.i64.wrap ((j : Int) - i) = (j : Int) - i := IntWalk.i64_in _ (by omega)
                have q4 : IntKind.i64.wrap (y * ((j : Int) - i)) = Y := by rw [← hY]; exact IntWalk.i64_in _ (by omega)
                have q5 : IntKind.i64.wrap (X + Y) = X + Y := IntWalk.i64_in _ (by omega)
                have q6 : IntKind.i64.wrap (-(X + Y)) = -(X + Y) := IntWalk.i64_in _ (by omega)
                have q7 : IntKind.i64.wrap ((c : Int) - i) = (c : Int) - i := IntWalk.i64_in _ (by omega)
                have q8 : IntKind.i64.wrap (-F) = -F := IntWalk.i64_in _ (by omega)
                have HFL : Hid (∀ W : World, Calls Try.prog 83 #[.int .i64 (-(X + Y)), .int .i64 ((c : Int) - i)] W fun e w' => e = .returned (.int .i64 F) ∧ w' = W) := Lib.hid (fun W => by
                  rw [hF]; exact (frFloor_any _ _ W (by unfold Lim; omega) (by omega)).mono fun _ _ ⟨a, b⟩ => ⟨a, b.symm⟩)
                have z1 : (i : Int) < (k : Int) := by omega
                have z2 : (c : Int) < (k : Int) := by omega
                have z3 : (j : Int) < (k : Int) := by omega
                have z4 : (0 : Int) ≤ (i : Int) := by omega
                have z5 : (0 : Int) ≤ (c : Int) := by omega
                have z6 : (0 : Int) ≤ (j : Int) := by omega
                clear hX hY hF hx hy pi0 pk0 hrow hg hrow' e1 e2 e3
                go_wp2
                go_still_tail 26, (by kernel_rfl)
                still_call (HFL.out _)
                repeat still_step
                refine wpStill_nil ?_
                go_wp2
                go_roundw
                case rel => exact ⟨j + 1, by omega, by omega, by go_num, HR2.out, grown_drew HG2.out⟩
                case measure => simp [intOf]; omega
              · obtain rfl : j = c := by omega
                go_wp2
                go_roundw
                case rel => exact ⟨m + 1, by omega, by go_num, by rw [HS2.out]; exact hrow, hg⟩
                case measure => simp [intOf]; omega
        · obtain rfl : m = L := by omega
          rw [HO.out] at hrow
          go_wp2
          go_ret
          refine ⟨_, rfl, ?_, bel_var HB2.out hg (Nat.le_refl _) (by omega)⟩
          unfold IS
          have h1 : (lowL zs).length = k := by rw [HN.out]; simp [lowL, tab_len]
          rw [h1]
          exact hrow
theorem specLeastCoefficients_any (w : World) (B : Nat) (v : Value) (zs : List Int) (h : IS w B v zs) : Calls Try.prog 33 #[v] w fun e w' => GivesIB (poB zs) (lwR zs) w e w' := by
  cases hz : poB zs
  · have HQ := Lib.hid hz
    go_enter Try.func33, Try.ntmps33
    go_wp2_with fail
    refine (poGood_any _ B _ zs h).mono ?_
    rintro e w' ⟨rfl, rfl⟩
    rw [HQ.out]
    go_wp2
    go_ret2
    exact givesIB_nil rfl (lwR_no HQ.out) (Below.refl _ _)
  · have HQ := Lib.hid hz
    go_enter Try.func33, Try.ntmps33
    go_wp2_with fail
    refine (poGood_any _ B _ zs h).mono ?_
    rintro e w' ⟨rfl, rfl⟩
    rw [HQ.out]
    go_wp2_with fail
    refine (rtLeast_any _ B _ zs h HQ.out).mono ?_
    rintro e w1 ⟨r, rfl, hr, b1⟩
    go_wp2
    go_ret2
    exact givesIB_yes rfl (by rw [lwR_yes HQ.out]; exact hr) b1
set_option maxRecDepth 100000 in
theorem slicesClone_any (w : World) (B : Nat) (v : Value) (zs : List Int) (h : IS w B v zs) (hl : zs.length ≤ 1048576) : Calls Try.prog 63 #[v] w fun e w' => GivesI zs w e w' := by
  obtain ⟨i0, hi, hz0, hz1, hz2⟩ := info_parts infoInt
  have q22 : ∀ (w : World) (a : Option Addr) (n c n' c' : Nat), (binOp .eql 22 (.slice a n c) (.slice none n' c')).run Try.prog w = .ok (.bool a.isNone) w := fun w a n c n' c' => Lib.run_eql_slice_nil w _ _ a n c n' c' Try.underlying22
  rcases h.2 with ⟨rfl, h0⟩ | ⟨g, cap, cur, rfl, hB, -, -⟩
  · have hnil : zs = [] := List.eq_nil_of_length_eq_zero h0
    subst hnil
    go_enter Try.func63, Try.ntmps63
    go_wp2
    go_ret
    exact ⟨_, rfl, IS.nil_ _ _, Below.refl _ _⟩
  · have hp : ∀ j u, (ints zs)[j]? = some u → w.cell? ⟨g, j, none⟩ = some u := fun j u hu => by
      have hj : j < zs.length := by have := (List.getElem?_eq_some_iff.1 hu).1; simpa [ints] using this
      rw [World.ownsRow.cellAt h j (by omega)]; exact hu
    have HP := Lib.hid hp
    have hgl := (World.ownsRow.lt h g rfl).2
    obtain ⟨n, hn⟩ : ∃ n, n = zs.length := ⟨_, rfl⟩
    rw [← hn] at hl ⊢
    have HN := Lib.hid hn
    clear hp h hn
    go_enter Try.func63, Try.ntmps63
    go_wp2_with (at_builtin; refine wpList_append_own _ rfl _ _ 22 rfl w.heap.size 3 i0 (.int .i64 0) 1 8 Try.underlying22 hi hz0 hz1 hz2 rfl (by decide) _ _ _ rfl (World.ownsRow_made w #[] 0 (Nat.le_refl _) (Nat.zero_le _) rfl) ⟨g, 0, none⟩ n cap (ints zs) rfl ?qc1 ?qc2 ?qc3 ?qc4 ?qc5 ?qc6 ?_)
    case qc1 => rw [HN.out]; simp [ints]
    case qc2 =>
      intro j u hj
      have h0 : (⟨g, 0, none⟩ : Addr).add j = ⟨g, j, none⟩ := by simp [Addr.add]; try omega
      rw [h0, World.cell?_alloc_past _ _ _ hgl]
      exact HP.out j u hj
    case qc3 => intro u hu; obtain ⟨x, _, rfl⟩ := List.mem_map.1 hu; rfl
    case qc4 => unfold maxLen; omega
    case qc5 => omega
    case qc6 => simp
    intro v' w1 hown hgrow hnil
    go_wp2
    go_ret
    refine ⟨v', rfl, ?_, ((Below.refl _ w).alloc (Nat.le_refl _) _).grown hgrow (by simp) (by intro k hk; simp [Value.ownBlock] at hk; omega)⟩
    unfold IS
    rw [← HN.out]
    simpa using hown
theorem slicesEqual_any (w : World) (B B' : Nat) (v v' : Value) (zs ys : List Int) (h : IS w B v zs) (h' : IS w B' v' ys) : Calls Try.prog 66 #[v, v'] w fun e w' => SaysB (decide (zs = ys)) w e w' := by
  obtain ⟨A, cap, rfl, hm, hp⟩ := h.parts
  obtain ⟨A', cap', rfl, hm', hp'⟩ := h'.parts
  unfold maxLen at hm hm'
  have HP := Lib.hid hp
  have HP' := Lib.hid hp'
  clear hp hp' h h'
  cases hl : (zs.length : Int) != (ys.length : Int)
  · have hle : zs.length = ys.length := by simp at hl; omega
    have HL := Lib.hid hle
    have hl1 : zs.length ≤ ys.length := by omega
    have hl2 : ys.length ≤ zs.length := by omega
    clear hle
    go_enter Try.func66, Try.ntmps66
    go_wp2
    clear hl
    go_loopw [13] (fun i wr => ∃ k : Nat, k ≤ zs.length ∧ i = .int .i64 k ∧ Hid (zs.take k = ys.take k) ∧ ∃ n, wr = w.drewN n) (fun i _ => zs.length - (intOf i).toNat)
    case atStart => exact ⟨0, by omega, rfl, Lib.hid rfl, 0, rfl⟩
    case round =>
      obtain ⟨k, hk, rfl, heq, n, rfl⟩ := hrel
      by_cases hlt : k < zs.length
      · obtain ⟨g, rfl, hc⟩ := HP.out k hlt
        obtain ⟨g', rfl, hc'⟩ := HP'.out k (by omega)
        have hlt' : k < ys.length := by omega
        cases hne : gd zs k != gd ys k
        · go_wp2
          go_quiet (fail)
          go_wp2
          go_roundw
          case rel => exact ⟨k + 1, by omega, by go_num, Lib.hid (eq_next zs ys k hlt hlt' heq.out (by simpa using hne)), _, rfl⟩
          case measure => simp [intOf]; omega
        · go_wp2
          go_quiet (fail)
          go_wp2
          go_ret
          exact ⟨ret_bool (by symm; simp only [decide_eq_false_iff_not]; exact eq_bad zs ys k (by simpa using hne)), _, World.drewN_drewN _ _ _⟩
      · go_wp2
        go_ret
        have := heq.out
        rw [show k = zs.length by omega] at this
        exact ⟨ret_bool (by simp [eq_end zs ys HL.out this]), n, rfl⟩
  · go_enter Try.func66, Try.ntmps66
    go_wp2
    go_ret
    exact ⟨ret_bool (by symm; simp at hl ⊢; rintro rfl; exact hl rfl), 0, rfl⟩
theorem l1Same_any (w : World) (B B' : Nat) (v v' : Value) (zs ys : List Int) (h : IS w B v zs) (h' : IS w B' v' ys) : Calls Try.prog 65 #[v, v'] w fun e w' => SaysB (decide (zs = ys)) w e w' := by
  obtain ⟨A, cap, rfl, hm, hp⟩ := h.parts
  obtain ⟨A', cap', rfl, hm', hp'⟩ := h'.parts
  unfold maxLen at hm hm'
  have HP := Lib.hid hp
  have HP' := Lib.hid hp'
  clear hp hp' h h'
  cases hl : (zs.length : Int) != (ys.length : Int)
  · have hle : zs.length = ys.length := by simp at hl; omega
    have HL := Lib.hid hle
    have hl1 : zs.length ≤ ys.length := by omega
    have hl2 : ys.length ≤ zs.length := by omega
    clear hle
    go_enter Try.func65, Try.ntmps65
    go_wp2
    clear hl
    go_loopw [13] (fun i wr => ∃ k : Nat, k ≤ zs.length ∧ i = .int .i64 k ∧ Hid (zs.take k = ys.take k) ∧ ∃ n, wr = w.drewN n) (fun i _ => zs.length - (intOf i).toNat)
    case atStart => exact ⟨0, by omega, rfl, Lib.hid rfl, 0, rfl⟩
    case round =>
      obtain ⟨k, hk, rfl, heq, n, rfl⟩ := hrel
      by_cases hlt : k < zs.length
      · obtain ⟨g, rfl, hc⟩ := HP.out k hlt
        obtain ⟨g', rfl, hc'⟩ := HP'.out k (by omega)
        have hlt' : k < ys.length := by omega
        cases hne : gd zs k != gd ys k
        · go_wp2
          go_quiet (fail)
          go_wp2
          go_roundw
          case rel => exact ⟨k + 1, by omega, by go_num, Lib.hid (eq_next zs ys k hlt hlt' heq.out (by simpa using hne)), _, rfl⟩
          case measure => simp [intOf]; omega
        · go_wp2
          go_quiet (fail)
          go_wp2
          go_ret
          exact ⟨ret_bool (by symm; simp only [decide_eq_false_iff_not]; exact eq_bad zs ys k (by simpa using hne)), _, World.drewN_drewN _ _ _⟩
      · go_wp2
        go_ret
        have := heq.out
        rw [show k = zs.length by omega] at this
        exact ⟨ret_bool (by simp [eq_end zs ys HL.out this]), n, rfl⟩
  · go_enter Try.func65, Try.ntmps65
    go_wp2
    go_ret
    exact ⟨ret_bool (by symm; simp at hl ⊢; rintro rfl; exact hl rfl), 0, rfl⟩
end Go.Proofs.Ytinijfkidjakpaa

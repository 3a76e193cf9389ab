/-
  DualPolygon of the model: what the call returns.
  Condition: the slice reads as the list that is named.
-/
import Derived.Test.YthegkifhbgopoaaDuT
namespace Go.Proofs.Ythegkifhbgopoaa
set_option linter.unusedSimpArgs false
set_option linter.unusedVariables false
open Go.ChangeShapes Go.WideShapes Go.ChangeAt Go.RowKit
open Go.Sort (grow)

set_option maxHeartbeats 1000000 in
set_option maxRecDepth 100000 in
theorem specDualPolygon_any (w : World) (B : Nat) (v : Value) (l : List Tm) (h : RyS w B v l) : Calls Try.prog 44 #[v] w fun e w' => GivesPtB (duB l) (duR l) w e w' := by
  have HI := Lib.hid (stGood_any w B v l h)
  cases hl : ryB l
  · have HN := Lib.hid (du_no1 (l := l) (by unfold baB; rw [hl]; rfl))
    rw [hl] at HI
    clear hl h
    go_enter Try.func44, Try.ntmps44
    go_wp2_with fail
    refine HI.out.mono ?_
    rintro e w1 ⟨rfl, b1⟩
    go_wp2
    go_ret2
    exact givesPtB_nil HN.out (du_no HN.out) b1
  · rw [hl] at HI
    have HBL := Lib.hid (fun W (hW : RyS W B v l) => stBalanced_any W B v l hW hl)
    have HH := Lib.hid h
    rcases Nat.eq_zero_or_pos l.length with h0 | h0
    · have HN := Lib.hid (du_no2 h0)
      obtain ⟨A, cap, rfl, -, -⟩ := RyS.parts h
      rw [h0] at HI ⊢
      clear h hl
      go_enter Try.func44, Try.ntmps44
      go_wp2_with fail
      refine HI.out.mono ?_
      rintro e w1 ⟨rfl, b1⟩
      go_wp2
      go_ret2
      exact givesPtB_nil HN.out (du_no HN.out) b1
    · have HSD := Lib.hid (fun W (hW : RyS W B v l) => stDual_any W B v l hW hl h0)
      obtain ⟨A, cap, rfl, -, -⟩ := RyS.parts h
      cases hb : baB l
      · have HN := Lib.hid (du_no1 hb)
        rw [hb] at HBL
        obtain ⟨n, hn⟩ : ∃ n, n = l.length := ⟨_, rfl⟩
        have hnz : ((n : Int) == 0) = false := by simp; omega
        rw [← hn] at HI HBL HH ⊢
        clear h hl hb HSD hn
        go_enter Try.func44, Try.ntmps44
        go_wp2_with fail
        refine HI.out.mono ?_
        rintro e w1 ⟨rfl, b1⟩
        go_wp2_with fail
        refine (HBL.out _ (HH.out.below b1)).mono ?_
        rintro e w2 ⟨rfl, b2⟩
        go_wp2
        go_ret2
        exact givesPtB_nil HN.out (du_no HN.out) (bel2 b1 b2)
      · have HDU := Lib.hid (du_is hb h0)
        have HCS := Lib.hid (du_corners hl h0 hb)
        have HLN := Lib.hid (show (corI (duI l)).length = l.length by rw [corI_len, duI_len])
        rw [hb] at HBL
        obtain ⟨n, hn⟩ : ∃ n, n = l.length := ⟨_, rfl⟩
        have hnz : ((n : Int) == 0) = false := by simp; omega
        have hle := ryB_le hl
        rw [← hn] at HI HBL HH HSD HLN hle ⊢
        clear h hl hb hn
        go_enter Try.func44, Try.ntmps44
        go_wp2_with fail
        refine HI.out.mono ?_
        rintro e w1 ⟨rfl, b1⟩
        go_wp2_with fail
        refine (HBL.out _ (HH.out.below b1)).mono ?_
        rintro e w2 ⟨rfl, b2⟩
        have B2 := bel2 b1 b2
        go_wp2_with fail
        refine (HSD.out _ (HH.out.below B2)).mono ?_
        rintro e w3 ⟨r, rfl, hr, b3⟩
        rw [HCS.out] at hr
        have HB3 := Lib.hid (bel2 B2 b3)
        have HR := Lib.hid (FS.base hr B2.size)
        obtain ⟨A3, cap3, rfl, hm3, hp3⟩ := PtS.parts hr
        have HP := Lib.hid hp3
        have HT := Lib.hid (fun t W => pyOne_any t W)
        rw [HLN.out] at hm3 ⊢
        obtain ⟨C, hC⟩ : ∃ C, C = corI (duI l) := ⟨_, rfl⟩
        have HCE := Lib.hid hC
        rw [← hC] at HDU HP HR HLN
        unfold maxLen at hm3
        clear hr hp3 b1 b2 b3 B2 hC
        go_wp2
        go_loopw [24] (fun i wr => ∃ k : Nat, k ≤ n ∧ i = .int .i64 k ∧ Hid (∀ z, z < k → ptG (pd C z) = true) ∧ Below w3.heap.size w3 wr) (fun i _ => n - (intOf i).toNat)
        case atStart => exact ⟨0, by omega, rfl, Lib.hid (fun z hz => by omega), Below.refl _ _⟩
        case round =>
          obtain ⟨k, hk, rfl, hall, hbw⟩ := hrel
          by_cases hlt : k < n
          · have hkl : k < C.length := by rw [HLN.out]; exact hlt
            obtain ⟨g, rfl, hx0⟩ := HP.out k hkl
            have hx1 := X2.below hx0 hbw
            have hbA := hbw.alloc hbw.size (.cells #[.int .i64 (pd C k).1, .int .i64 (pd C k).2] 108)
            obtain ⟨c0, c1⟩ := hx1
            have hgl := cell_lt c0
            clear hx0
            go_wp2_with fail
            refine (HT.out (pd C k) _).mono ?_
            rintro e w4 ⟨rfl, b4⟩
            have hb4 := bel2 hbA b4.below
            cases hg : ptG (pd C k)
            · have HNO := Lib.hid (show duB l = false by
                rw [HDU.out, ← Bool.not_eq_true, List.all_eq_true]
                intro ha
                have := ha _ (List.getElem_mem hkl)
                rw [← pd_eq C k hkl, hg] at this; cases this)
              go_wp2
              go_ret2
              exact givesPtB_nil HNO.out (du_no HNO.out) (bel2 HB3.out hb4)
            · have HA2 := Lib.hid (show ∀ z, z < k + 1 → ptG (pd C z) = true from fun z hz => by
                by_cases e : z = k
                · subst e; exact hg
                · exact hall.out z (by omega))
              clear hg c0 c1 hbA b4
              go_wp2
              go_roundw
              case rel => exact ⟨k + 1, by omega, by go_num, HA2, hb4⟩
              case measure => simp [intOf]; omega
          · obtain rfl : k = n := by omega
            have HALL := Lib.hid (show duB l = true by
              rw [HDU.out, List.all_eq_true]
              intro x hx
              obtain ⟨z, hz, rfl⟩ := List.mem_iff_getElem.1 hx
              rw [← pd_eq C z hz]
              exact hall.out z (by rw [← HLN.out]; exact hz))
            have HE := Lib.hid (show duR l = C by unfold duR; rw [if_pos HALL.out, HCE.out])
            go_wp2
            go_ret2
            refine givesPtB_yes HALL.out ?_ (bel2 HB3.out hbw)
            rw [HE.out]
            have := HR.out.below hbw
            unfold PtS
            rw [HLN.out] at this ⊢
            exact this
end Go.Proofs.Ythegkifhbgopoaa

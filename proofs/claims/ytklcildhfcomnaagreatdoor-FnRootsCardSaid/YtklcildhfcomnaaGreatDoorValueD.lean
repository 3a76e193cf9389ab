/-
  Values by roots in the model: what each call returns.
  Conditions: the slice reads as the list that is named, a polynomial where it says so.
-/
import Derived.Test.YtklcildhfcomnaaGreatDoorValueB
import Derived.Test.YtklcildhfcomnaaGreatDoorValueC
namespace Go.Proofs.YtklcildhfcomnaaGreatDoor
set_option linter.unusedSimpArgs false
set_option linter.unusedVariables false
open Go.ChangeShapes Go.WideShapes Go.ChangeAt Go.RowKit

/-- Two cells of one block, and one of another. -/
abbrev SC (w' : World) (g i k : Nat) (a b : Int) (h j : Nat) (c : Int) : Prop := w'.cell? ⟨g, i, none⟩ = some (.int .i64 a) ∧ w'.cell? ⟨g, k, none⟩ = some (.int .i64 b) ∧ w'.cell? ⟨h, j, none⟩ = some (.int .i64 c)
section
variable {w w' : World} {g i k : Nat} {a b : Int} {h j : Nat} {c : Int}
theorem SC.drew (H : SC w g i k a b h j c) : SC w.drew g i k a b h j c := H
theorem SC.drewN (H : SC w g i k a b h j c) (n : Nat) : SC (w.drewN n) g i k a b h j c := H
theorem SC.below (H : SC w g i k a b h j c) (hb : Below w.heap.size w w') : SC w' g i k a b h j c := by
  obtain ⟨h1, h2, h3⟩ := H
  exact ⟨(cellAt hb g i (cell_lt h1)).trans h1, (cellAt hb g k (cell_lt h2)).trans h2, (cellAt hb h j (cell_lt h3)).trans h3⟩
theorem SC.alloc (H : SC w g i k a b h j c) (o : Obj) : SC (w.alloc o) g i k a b h j c := H.below ((Below.refl _ _).alloc (Nat.le_refl _) o)
theorem SC.setN (H : SC w g i k a b h j c) (z : Nat) (hg : g < z) (hh : h < z) (q : Nat) (u : Value) : SC (w.setCell ⟨z, q, none⟩ u) g i k a b h j c := by
  obtain ⟨k1, k2, k3⟩ := H
  have far : ∀ (y : Addr), y.block < z → (w.setCell ⟨z, q, none⟩ u).cell? y = w.cell? y := fun y hy => World.cell?_setCell_other _ _ _ _ (fun e => by rw [← e] at hy; exact Nat.lt_irrefl _ hy)
  exact ⟨(far ⟨g, i, none⟩ hg).trans k1, (far ⟨g, k, none⟩ hg).trans k2, (far ⟨h, j, none⟩ hh).trans k3⟩
theorem SC.setAt {w1 : World} (H : SC w g i k a b h j c) (H1 : SC w1 g i k a b h j c) (q : Nat) (u : Value) : SC (w.setCell ⟨w1.heap.size, q, none⟩ u) g i k a b h j c :=
  H.setN _ (cell_lt H1.1) (cell_lt H1.2.2) q u
end
set_option maxHeartbeats 4000000 in
set_option maxRecDepth 100000 in
theorem specValueByRoots_any (w : World) (B : Nat) (v : Value) (zs : List Int) (x : Int) (h : IS w B v zs) : Calls Tryz.prog 19 #[v, .int .i64 x] w fun e w' => GivesF (vrR zs x).2.1 (vrR zs x).2.2 (vrR zs x).1 w e w' := by
  have hI : IS (w.alloc (.cells #[.int .i64 0, .int .i64 0] 35)) B v zs := h.alloc _
  have b00 : Below w.heap.size w (w.alloc (.cells #[.int .i64 0, .int .i64 0] 35)) := (Below.refl _ _).alloc (Nat.le_refl _) _
  have H := Lib.hid (And.intro hI (F2.new w 0 0))
  have HP := Lib.hid h.parts
  have HL := Lib.hid (show ∀ g, v.ownBlock = some g → g < w.heap.size from fun g hg => (h.lt g hg).2)
  clear hI h
  obtain ⟨A, cap, hv, -, hp⟩ := HP.out
  subst hv
  have HP := Lib.hid hp
  clear hp
  cases hz : poB zs
  · have HQ := Lib.hid (vrR_no (vr_no1 (x := x) hz))
    have HZ := Lib.hid hz
    go_enter Tryz.func19, Tryz.ntmps19
    go_wp2_with fail
    refine (poGood_any _ B _ zs H.out.1).mono ?_
    rintro e w' ⟨rfl, rfl⟩
    rw [HZ.out]
    go_wp2
    go_returns
    exact givesF_eq HQ.out b00
  · cases hf : finB x
    · have HQ := Lib.hid (vrR_no (vr_no2 (zs := zs) hf))
      have HZ := Lib.hid hz
      have HF := Lib.hid hf
      go_enter Tryz.func19, Tryz.ntmps19
      go_wp2_with fail
      refine (poGood_any _ B _ zs H.out.1).mono ?_
      rintro e w' ⟨rfl, rfl⟩
      rw [HZ.out]
      go_wp2_with fail
      refine (poFinite_any _ _).mono ?_
      rintro e w' ⟨rfl, rfl⟩
      rw [HF.out]
      go_wp2
      go_returns
      exact givesF_eq HQ.out b00
    · have HB := vr_yes hz hf
      have HQ := Lib.hid (vrR_yes HB)
      obtain ⟨v1, v2, x1, x2⟩ := vr0_bd HB
      have hl := (po_parts hz).2.2.1
      have hl1 := (po_parts hz).2.1
      have hc := corL_ok hz
      have hc0 := hc.pt 0 hc.pos
      have hcp := hc.pos
      have hcl := hc.le
      have hcla := hc.last
      have HZ := Lib.hid hz
      have HF := Lib.hid hf
      have HRO := Lib.hid (roots_ok hz)
      have hrl := rootsL_len hz
      obtain ⟨C, hC⟩ : ∃ C : Nat, gd (corL zs) 0 = C := ⟨(gd (corL zs) 0).toNat, by omega⟩
      obtain ⟨y, hy⟩ : ∃ y, y = pv zs (zs.length - 1) := ⟨_, rfl⟩
      have hy2 : y = gd zs (zs.length - 1) := by rw [hy]; unfold pv; congr 1; omega
      obtain ⟨V0, hV0⟩ : ∃ V0, V0 = vr0 zs x := ⟨_, rfl⟩
      have hv0 : V0 = y + C * x := by rw [hV0]; unfold vr0; rw [hC, hy]
      rw [← hy] at v2
      rw [hC] at v1 hc0
      have hV0b : -1000000000 ≤ V0 ∧ V0 ≤ 1000000000 := by omega
      have HV := Lib.hid (show vrR zs x = vbF x (rootsL zs) V0 1 by rw [HQ.out, hV0])
      have HC := Lib.hid hC
      have HCL := Lib.hid hcla
      obtain ⟨Z, hZ⟩ : ∃ Z, Z = (C : Int) * x := ⟨_, rfl⟩
      rw [← hZ] at v1 hv0
      have q1 : IntKind.i64.wrap ((C : Int) * x) = Z := by rw [hZ]; exact IntWalk.i64_in _ (by omega)
      have q2 : IntKind.i64.wrap (y + Z) = V0 := by rw [hv0]; exact IntWalk.i64_in _ (by omega)
      obtain ⟨L, hL⟩ : ∃ L, L = (corL zs).length := ⟨_, rfl⟩
      rw [← hL] at hcp hcl
      have HLL := Lib.hid hL
      have q3 : IntKind.i64.wrap ((L : Int) - 1) = ((L - 1 : Nat) : Int) := by rw [IntWalk.i64_in _ (by omega)]; omega
      have Q123 := Lib.hid (And.intro q1 (And.intro q2 q3))
      have HY := Lib.hid hy2
      clear hz hf hc HB hC hy hV0 hv0 HQ hcla hZ hL hy2 q1 q2 q3
      go_enter Tryz.func19, Tryz.ntmps19
      go_wp2_with fail
      refine (poGood_any _ B _ zs H.out.1).mono ?_
      rintro e w' ⟨rfl, rfl⟩
      rw [HZ.out]
      go_wp2_with fail
      refine (poFinite_any _ _).mono ?_
      rintro e w' ⟨rfl, rfl⟩
      rw [HF.out]
      go_wp2_with fail
      refine (rtCorners_any _ B _ zs H.out.1 HZ.out).mono ?_
      rintro e W ⟨r, rfl, hr, b1⟩
      have BW := bel2 b00 b1
      have HI := Lib.hid (H.out.1.below b1)
      have H4 := Lib.hid (H.out.2.below b1)
      have s1 : w.heap.size < W.heap.size := by have := b1.size; simp at this; omega
      obtain ⟨A2, cap2, rfl, -, hp2⟩ := hr.parts
      rw [← HLL.out] at hp2 ⊢
      obtain ⟨g2, rfl, cf⟩ := hp2 0 (by omega)
      obtain ⟨g3, hg3, cl⟩ := hp2 (L - 1) (by omega)
      cases hg3
      rw [HC.out] at cf
      rw [HLL.out, HCL.out, ← HLL.out, show (zs.length : Int) - 1 = ((zs.length - 1 : Nat) : Int) by omega] at cl
      obtain ⟨g, rfl, ce0⟩ := HP.out (zs.length - 1) (by omega)
      have hgw := HL.out g rfl
      have ce := (BW.cell hgw).trans ce0
      rw [← HY.out] at ce
      have hS : SC W g2 (L - 1) 0 ((zs.length - 1 : Nat) : Int) C g (zs.length - 1) y := ⟨cl, cf, ce⟩
      have l1 := cell_lt cl
      have l2 := cell_lt ce
      have z1 : ((zs.length - 1 : Nat) : Int) < (zs.length : Int) := by omega
      have z2 : (0 : Int) ≤ ((zs.length - 1 : Nat) : Int) := by omega
      have z3 : ((L - 1 : Nat) : Int) < (L : Int) := by omega
      have z4 : (0 : Int) ≤ ((L - 1 : Nat) : Int) := by omega
      have z5 : 0 < L := by omega
      obtain ⟨q1, q2, q3⟩ := Q123.out
      clear ce0 ce cl cf hp2 hr b1
      go_upto_region 4 with fail
      go_cut [7] (fun p wx => ∃ h, p = .pointer (some ⟨h, 0, none⟩) ∧ W.heap.size ≤ h ∧ F2 wx h V0 1 ∧ Below W.heap.size W wx)
      case first =>
        go_region_held3 (fun w' => w'.cell? ⟨g2, L - 1, none⟩ = some (.int .i64 ((zs.length - 1 : Nat) : Int)) ∧ w'.cell? ⟨g2, 0, none⟩ = some (.int .i64 (C : Int)) ∧ w'.cell? ⟨g, zs.length - 1, none⟩ = some (.int .i64 y)) (repeat' (first | with_reducible assumption | with_reducible refine SC.below ?_ b1 | with_reducible refine SC.drew ?_ | with_reducible refine SC.drewN ?_ _ | with_reducible refine SC.setN ?_ _ (by first | omega | (simp; omega)) (by first | omega | (simp; omega)) _ _ | with_reducible refine SC.setAt ?_ ?_ _ _ | with_reducible refine SC.alloc ?_ _)) (first | (go_at_call 48; refine (frInt_any _ _).mono ?_; rintro y x1 ⟨rfl, b1⟩; have k1 := cellAt b1; have k2 := frozenAt b1))
        all_goals clear q1 q2 q3
        all_goals go_wp2_with fail
        all_goals go_meet
        all_goals
          have hs1 : W.heap.size ≤ x1.heap.size := by have := b1.size; simp at this; omega
          first
          | exact ⟨_, rfl, Nat.le_refl _, ((F2.new W 0 0).drew.below b1).store _ _, ((bel2 (((Below.refl W.heap.size W).alloc (Nat.le_refl _) _).drew) b1).setCell (Nat.le_refl _) _).setCell (Nat.le_refl _) _⟩
          | exact ⟨_, rfl, hs1, F2.new _ _ _, (bel2 (Below.refl W.heap.size W).drew b1).alloc hs1 _⟩
      case rest =>
        clear q1 q2 q3 hS
        obtain ⟨g7, rfl, hg7, H7, b0⟩ := hcut
        have l7 : g7 < wc.heap.size := cell_lt H7.1
        go_wp2_with fail
        refine (rtRoots_any _ B _ zs (HI.out.below b0) HZ.out).mono ?_
        rintro e w3 ⟨r, rfl, hrs, b3⟩
        have hlr := hrs.lt
        obtain ⟨rs, hrse⟩ : ∃ rs, rs = rootsL zs := ⟨_, rfl⟩
        rw [← hrse] at hrs HRO hrl HV
        obtain ⟨Ar, capr, rfl, -, hp⟩ := RS.parts hrs
        have HRP := Lib.hid hp
        have HLR := Lib.hid (show ∀ g', Ar = some ⟨g', 0, none⟩ → wc.heap.size ≤ g' from fun g' hg' => by subst hg'; exact (hlr g' rfl).1)
        have HBC := Lib.hid (bel2 (bel2 BW b0) b3)
        have H73 := H7.below b3
        have HFS := Lib.hid ((H4.out.below b0).below b3)
        have s4 := b0.size
        have s5 := b3.size
        have hf12 : frB V0 1 = true := frB_one hV0b
        obtain ⟨n, hn⟩ : ∃ n, n = rs.length := ⟨_, rfl⟩
        have HN := Lib.hid hn
        rw [← hn] at hrl ⊢
        clear hrs hlr hrse hp hn b0 b3 BW H7
        go_wp2
        go_loopw [45] (fun i wr => ∃ (k : Nat) (s t : Int), k ≤ n ∧ i = .int .i64 k ∧ F2 wr g7 s t ∧ frB s t = true ∧ Hid (vbF x (rs.drop k) s t = vrR zs x) ∧ w3.grownBy wr (some g7)) (fun i _ => n - (intOf i).toNat)
        case atStart => exact ⟨0, V0, 1, by omega, rfl, H73, hf12, Lib.hid (by rw [HV.out]; rfl), World.grownBy.refl _ _⟩
        case round =>
          obtain ⟨k, s, t, hk, rfl, h7, hst, hvb, hg⟩ := hrel
          clear H73 hf12
          have s6 := hg.size
          have h4 : F2 wr w.heap.size 0 0 := HFS.out.grown hg (some_ne (by omega))
          by_cases hlt : k < n
          · obtain ⟨gr, rfl, e0, e1, e2⟩ := HRP.out k (by rw [← HN.out]; exact hlt)
            have hgr := HLR.out gr rfl
            have c0 := hg.cell e0 (some_ne (by show gr ≠ g7; omega))
            have c1 := hg.cell e1 (some_ne (by show gr ≠ g7; omega))
            have c2 := hg.cell e2 (some_ne (by show gr ≠ g7; omega))
            have hok := HRO.out (rd rs k) (rd_mem (by rw [← HN.out]; exact hlt))
            obtain ⟨N, D, T, hrd⟩ : ∃ N D T, rd rs k = (N, D, T) := ⟨_, _, _, rfl⟩
            have hbad : adB s t T (lsN (N, D, T) x) (lsD (N, D, T) x) = false → vrR zs x = (false, 0, 0) := fun hm => by rw [← hvb.out]; exact vb_bad (by rw [← HN.out]; exact hlt) (by rw [hrd]; exact hm)
            have hmore : adB s t T (lsN (N, D, T) x) (lsD (N, D, T) x) = true → frB (adN s t T (lsN (N, D, T) x) (lsD (N, D, T) x)) (adD s t T (lsN (N, D, T) x) (lsD (N, D, T) x)) = true ∧ vbF x (rs.drop (k + 1)) (adN s t T (lsN (N, D, T) x) (lsD (N, D, T) x)) (adD s t T (lsN (N, D, T) x) (lsD (N, D, T) x)) = vrR zs x := fun hm =>
              ⟨(ad_parts hm).2.2.2, by have := vb_more (x := x) (rs := rs) (k := k) (s := s) (t := t) (by rw [← HN.out]; exact hlt) (by rw [hrd]; exact hm); rw [← hvb.out, this, hrd]⟩
            rw [hrd] at c0 c1 c2 hok
            have HCM : Hid (∀ W, Calls Tryz.prog 49 #[fracV x 1, fracV N D] W fun e w' => e = .returned (.int .i64 (cmpI (x * D) (N * 1))) ∧ Below W.heap.size W w') := Lib.hid (fun W => frCmp_any x 1 N D W (frB_one (by omega)) hok.fr)
            clear e0 e1 e2 hrd
            obtain ⟨W2, hW2⟩ : ∃ W2, W2 = (wr.alloc (.cells #[.int .i64 N, .int .i64 D, .int .i64 T] 37)).alloc (.cells #[.int .i64 N, .int .i64 D] 35) := ⟨_, rfl⟩
            have bw2 : Below wr.heap.size wr W2 := by rw [hW2]; exact ((Below.refl _ _).alloc (Nat.le_refl _) _).alloc (by simp) _
            have hr9 : R3 W2 wr.heap.size N D T := by rw [hW2]; exact (R3.new _ _ _ _ _).old _
            have h10 : F2 W2 (wr.heap.size + 1) N D := by rw [hW2]; exact F2.new_ _ _ (World.size_alloc _ _)
            have hS9 : SP W2 (wr.heap.size + 1) 0 1 N D := ⟨h10.1, h10.2.1⟩
            have HW2 := Lib.hid hW2
            clear hW2
            obtain ⟨P, hPe⟩ : ∃ P, P = lsN (N, D, T) x := ⟨_, rfl⟩
            obtain ⟨Q, hQe⟩ : ∃ P, P = lsD (N, D, T) x := ⟨_, rfl⟩
            have hcs : (cmpI (x * D) (N * 1) < 0 ∧ P = x ∧ Q = 1) ∨ (0 ≤ cmpI (x * D) (N * 1) ∧ P = N ∧ Q = D) := by
              by_cases key : x * D < N
              · have hcn := cmp_neg (a := x * D) (b := N * 1) (by omega)
                exact .inl ⟨hcn, by rw [hPe]; exact if_neg (by dsimp only; omega), by rw [hQe]; exact if_neg (by dsimp only; omega)⟩
              · have hcn := cmp_nneg (a := x * D) (b := N * 1) (by omega)
                exact .inr ⟨by omega, by rw [hPe]; exact if_pos (by dsimp only; omega), by rw [hQe]; exact if_pos (by dsimp only; omega)⟩
            have hpq : frB P Q = true := by rw [hPe, hQe]; exact ls_ok hok ⟨x1, x2⟩
            obtain ⟨c, hce⟩ : ∃ c, c = cmpI (x * D) (N * 1) := ⟨_, rfl⟩
            rw [← hce] at HCM hcs
            have HCS := Lib.hid hcs
            have HPE := Lib.hid hPe
            have HQE := Lib.hid hQe
            have hr9x := Lib.hid hr9
            have h10x := Lib.hid h10
            clear hce hPe hQe hcs
            go_upto_region 9 with fail
            rw [← HW2.out]
            go_cut [55] (fun q wx => q = .bool (decide (c < 0)) ∧ Below W2.heap.size W2 wx)
            case first =>
              go_region_held3 (fun w' => w'.cell? ⟨wr.heap.size + 1, 0, none⟩ = some (.int .i64 N) ∧ w'.cell? ⟨wr.heap.size + 1, 1, none⟩ = some (.int .i64 D)) (repeat' (first | with_reducible assumption | with_reducible refine SP.below ?_ b2 | with_reducible refine SP.below ?_ b1 | with_reducible refine SP.drew ?_ | with_reducible refine SP.drewN ?_ _ | with_reducible refine SP.setAt ?_ ?_ _ _ | with_reducible refine SP.alloc ?_ _ | with_reducible refine SP.setN ?_ _ (by first | omega | (simp; omega)) _ _)) (first | (go_at_call 48; refine (frInt_any _ _).mono ?_; rintro y x1 ⟨rfl, b1⟩; have k1 := cellAt b1; have k2 := frozenAt b1) | (go_at_call 49; refine (HCM.out _).mono ?_; rintro y x2 ⟨rfl, b2⟩; have k3 := cellAt b2; have k4 := frozenAt b2))
              all_goals go_wp2_with fail
              all_goals go_meet
              all_goals exact ⟨rfl, bel2 (bel2 (Below.refl W2.heap.size W2).drew b1) b2⟩
            case rest =>
              obtain ⟨rfl, b9⟩ := hcut
              have hr9a := hr9x.out.below b9
              have h10a := h10x.out.below b9
              have bw3 := bel2 bw2 b9
              have l10 : wr.heap.size + 1 < wc.heap.size := cell_lt h10a.1
              have HR9 := Lib.hid hr9a
              have H10 := Lib.hid h10a
              clear hS9 hr9 h10 c0 c1 c2 hr9a h10a b9
              go_upto_if 55 with fail
              go_cut [57] (fun _ wx => R3 wx wr.heap.size N D T ∧ F2 wx (wr.heap.size + 1) P Q ∧ Below wr.heap.size wr wx)
              case first =>
                rcases HCS.out with ⟨hd, hp1, hq1⟩ | ⟨hd, hp1, hq1⟩
                · have HP1 := Lib.hid hp1
                  have HQ1 := Lib.hid hq1
                  clear hp1 hq1
                  go_wp2_with fail
                  refine (frInt_any _ _).mono ?_
                  rintro e w6 ⟨rfl, b6⟩
                  obtain ⟨c0, c1, f0, f1⟩ := H10.out.below b6
                  have l11 : wr.heap.size + 1 < w6.heap.size := cell_lt c0
                  go_wp2
                  go_meet
                  rw [HP1.out, HQ1.out]
                  exact ⟨((HR9.out.below b6).far (by omega)).far (by omega), F2.store ⟨c0, c1, f0, f1⟩ _ _, ((bel2 bw3 b6).setCell (show wr.heap.size ≤ wr.heap.size + 1 by omega) _).setCell (show wr.heap.size ≤ wr.heap.size + 1 by omega) _⟩
                · have HP1 := Lib.hid hp1
                  have HQ1 := Lib.hid hq1
                  clear hp1 hq1
                  go_wp2
                  go_meet
                  rw [HP1.out, HQ1.out]
                  exact ⟨HR9.out, H10.out, bw3⟩
              case rest =>
                obtain ⟨hr9c, h10c, bw7⟩ := hcut
                clear HR9 H10 HCS bw3 l10
                obtain ⟨W3, hW3⟩ : ∃ W3, W3 = wc := ⟨_, rfl⟩
                try rw [← hW3]
                have hr3 : R3 W3 wr.heap.size N D T := by rw [hW3]; exact hr9c
                have hf10 : F2 W3 (wr.heap.size + 1) P Q := by rw [hW3]; exact h10c
                have b3 : Below wr.heap.size wr W3 := by rw [hW3]; exact bw7
                have hbad2 : adB s t T P Q = false → vrR zs x = (false, 0, 0) := by rw [HPE.out, HQE.out]; exact hbad
                have hmore2 : adB s t T P Q = true → frB (adN s t T P Q) (adD s t T P Q) = true ∧ vbF x (rs.drop (k + 1)) (adN s t T P Q) (adD s t T P Q) = vrR zs x := by rw [HPE.out, HQE.out]; exact hmore
                have hMu : ∀ W, Calls Tryz.prog 50 #[fracV T 1, fracV P Q] W fun y w' => GivesF (mkN (T * P) (1 * Q)) (mkD (T * P) (1 * Q)) (mkB (T * P) (1 * Q)) W y w' :=
                  fun W => frMul_any T 1 P Q W (frB_one (by have h := hok.times; dsimp only at h; omega)) hpq
                have hAd : ∀ W, Calls Tryz.prog 51 #[fracV s t, fracV (mkN (T * P) (1 * Q)) (mkD (T * P) (1 * Q))] W fun y w' => GivesF (mkN (s * mkD (T * P) (1 * Q) + mkN (T * P) (1 * Q) * t) (t * mkD (T * P) (1 * Q))) (mkD (s * mkD (T * P) (1 * Q) + mkN (T * P) (1 * Q) * t) (t * mkD (T * P) (1 * Q))) (mkB (s * mkD (T * P) (1 * Q) + mkN (T * P) (1 * Q) * t) (t * mkD (T * P) (1 * Q))) W y w' :=
                  fun W => frAdd_lim s t _ _ W (frB_lim hst).1 (frB_lim hst).2 (mk_lim _ _).1 (mk_lim _ _).2
                have hmm : mkB (T * P) (1 * Q) = false → adB s t T P Q = false := fun hm => by unfold adB; rw [hm]; rfl
                have hmt : mkB (T * P) (1 * Q) = true → mkN (s * mkD (T * P) (1 * Q) + mkN (T * P) (1 * Q) * t) (t * mkD (T * P) (1 * Q)) = adN s t T P Q ∧ mkD (s * mkD (T * P) (1 * Q) + mkN (T * P) (1 * Q) * t) (t * mkD (T * P) (1 * Q)) = adD s t T P Q ∧ mkB (s * mkD (T * P) (1 * Q) + mkN (T * P) (1 * Q) * t) (t * mkD (T * P) (1 * Q)) = adB s t T P Q := fun hm => by
                  unfold adN adD adB okF; rw [hm]; exact ⟨rfl, rfl, rfl⟩
                obtain ⟨X, hX⟩ : ∃ X, X = mkN (T * P) (1 * Q) := ⟨_, rfl⟩
                obtain ⟨Y, hY⟩ : ∃ Y, Y = mkD (T * P) (1 * Q) := ⟨_, rfl⟩
                obtain ⟨mm, hM⟩ : ∃ m, m = mkB (T * P) (1 * Q) := ⟨_, rfl⟩
                rw [← hX, ← hY, ← hM] at hMu
                rw [← hX, ← hY] at hAd
                rw [← hM] at hmm hmt
                rw [← hX, ← hY] at hmt
                obtain ⟨N2, hN2⟩ : ∃ z, z = mkN (s * Y + X * t) (t * Y) := ⟨_, rfl⟩
                obtain ⟨D2, hD2⟩ : ∃ z, z = mkD (s * Y + X * t) (t * Y) := ⟨_, rfl⟩
                obtain ⟨m2, hm2⟩ : ∃ z, z = mkB (s * Y + X * t) (t * Y) := ⟨_, rfl⟩
                rw [← hN2, ← hD2, ← hm2] at hAd hmt
                obtain ⟨N3, hN3⟩ : ∃ z, z = adN s t T P Q := ⟨_, rfl⟩
                obtain ⟨D3, hD3⟩ : ∃ z, z = adD s t T P Q := ⟨_, rfl⟩
                obtain ⟨m3, hm3⟩ : ∃ z, z = adB s t T P Q := ⟨_, rfl⟩
                rw [← hN3, ← hD3, ← hm3] at hmore2 hmt
                rw [← hm3] at hbad2 hmm
                have HMU := Lib.hid hMu
                have HAD := Lib.hid hAd
                have HMM := Lib.hid (And.intro hmm hmt)
                have HX := Lib.hid (And.intro hbad2 hmore2)
                have H7W := Lib.hid (h7.below b3)
                have H4W := Lib.hid (h4.below b3)
                have HGW := Lib.hid (Lib.grownBy_trans hg (grown_bel b3 (some g7)))
                have hS11 : ST W3 wr.heap.size 2 T (wr.heap.size + 1) P Q := ⟨hr3.2.2.1, hf10.1, hf10.2.1⟩
                have s8 := b3.size
                have s9 : wr.heap.size + 1 < W3.heap.size := cell_lt hf10.1
                have HW3 := Lib.hid hW3
                clear hW3 hMu hAd hmm hmt hX hY hM hN2 hD2 hm2 hN3 hD3 hm3 hbad hmore hbad2 hmore2 hok hst hvb hg h4 h7 b3 hr3 hf10 hpq hr9c h10c bw7
                go_upto_region 11 with fail
                go_cut [11, 12] (fun p q wx => ∃ h, p = .pointer (some ⟨h, 0, none⟩) ∧ W3.heap.size ≤ h ∧ q = .bool mm ∧ F2 wx h X Y ∧ Below W3.heap.size W3 wx)
                case first =>
                  go_region_held3 (fun w' => w'.cell? ⟨wr.heap.size, 2, none⟩ = some (.int .i64 T) ∧ w'.cell? ⟨wr.heap.size + 1, 0, none⟩ = some (.int .i64 P) ∧ w'.cell? ⟨wr.heap.size + 1, 1, none⟩ = some (.int .i64 Q)) (repeat' (first | with_reducible assumption | with_reducible refine ST.below ?_ b2 | with_reducible refine ST.below ?_ b1 | with_reducible refine ST.drew ?_ | with_reducible refine ST.drewN ?_ _ | with_reducible refine ST.setAt ?_ ?_ _ _ | with_reducible refine ST.alloc ?_ _ | with_reducible refine ST.setN ?_ _ (by first | omega | (simp; omega)) (by first | omega | (simp; omega)) _ _)) (first | (go_at_call 48; refine (frInt_any _ _).mono ?_; rintro y x1 ⟨rfl, b1⟩; have k1 := cellAt b1; have k2 := frozenAt b1; first | have z1 : W3.heap.size < x1.heap.size := (by have := b1.size; simp at this; omega) | skip) | (go_at_call 50; refine (HMU.out _).mono ?_; rintro y x2 ⟨rfl, b2⟩; have k3 := cellAt b2; have k4 := frozenAt b2))
                  all_goals go_wp2_with fail
                  all_goals go_meet
                  all_goals
                    have hs1 : W3.heap.size ≤ x1.heap.size := by have := b1.size; simp at this; omega
                    have hs2 : W3.heap.size ≤ x2.heap.size := by have := b2.size; (try simp at this); omega
                    first
                    | exact ⟨_, rfl, Nat.le_refl _, rfl, (((F2.new W3 0 0).drew.below b1).below b2).store _ _, ((bel2 (bel2 (((Below.refl W3.heap.size W3).alloc (Nat.le_refl _) _).drew) b1) b2).setCell (Nat.le_refl _) _).setCell (Nat.le_refl _) _⟩
                    | exact ⟨_, rfl, hs1, rfl, ((F2.new x1 0 0).below b2).store _ _, ((bel2 ((bel2 (Below.refl W3.heap.size W3).drew b1).alloc hs1 _) b2).setCell hs1 _).setCell hs1 _⟩
                    | exact ⟨_, rfl, hs2, rfl, F2.new _ _ _, (bel2 (bel2 (Below.refl W3.heap.size W3).drew b1) b2).alloc hs2 _⟩

                case rest =>
                  obtain ⟨h, rfl, hh, rfl, H11, b0⟩ := hcut
                  have H4X := Lib.hid (H4W.out.below b0)
                  have H7X := Lib.hid (H7W.out.below b0)
                  have HGX := Lib.hid (Lib.grownBy_trans HGW.out (grown_bel b0 (some g7)))
                  have sc := b0.size
                  obtain ⟨d0, d1, -, -⟩ := H11
                  obtain ⟨c0, c1, -, -⟩ := H7X.out
                  clear hS11
                  go_wp2_with fail
                  refine (HAD.out _).mono ?_
                  rintro y w5 ⟨rfl, b5⟩
                  have HGY := Lib.hid (Lib.grownBy_trans HGX.out (grown_bel ((bel2 (Below.refl _ _) b5).alloc b5.size (.cells #[.int .i64 N2, .int .i64 D2] 35)) (some g7)))
                  have H4Y := H4X.out.below b5
                  have H7Y := H7X.out.below b5
                  have s10 := b5.size
                  clear d0 d1 c0 c1
                  cases mm
                  · have HV0 := Lib.hid (HX.out.1 (HMM.out.1 rfl))
                    obtain ⟨c0, c1, f0, f1⟩ := H4Y.old (.cells #[.int .i64 N2, .int .i64 D2] 35)
                    clear H4Y H7Y
                    go_wp2_with fail
                    refine bodyPost_ret ((F2.store ⟨c0, c1, f0, f1⟩ _ _).results rfl rfl rfl) rfl ?_
                    exact givesF_eq HV0.out (((bel_var HBC.out HGY.out (by omega) (by omega)).setCell (by simp) _).setCell (by simp) _)
                  · obtain ⟨rfl, rfl, rfl⟩ := HMM.out.2 rfl
                    cases m2
                    · have HV0 := Lib.hid (HX.out.1 rfl)
                      obtain ⟨c0, c1, f0, f1⟩ := H4Y.old (.cells #[.int .i64 N2, .int .i64 D2] 35)
                      clear H4Y H7Y
                      go_wp2_with fail
                      refine bodyPost_ret ((F2.store ⟨c0, c1, f0, f1⟩ _ _).results rfl rfl rfl) rfl ?_
                      exact givesF_eq HV0.out (((bel_var HBC.out HGY.out (by omega) (by omega)).setCell (by simp) _).setCell (by simp) _)
                    · have HM := Lib.hid (HX.out.2 rfl)
                      obtain ⟨c0, c1, f0, f1⟩ := H7Y
                      have l7 : g7 < w5.heap.size := cell_lt c0
                      have HF7 := Lib.hid (show F2 w5 g7 s t from ⟨c0, c1, f0, f1⟩)
                      have HG5 := Lib.hid (Lib.grownBy_trans HGX.out (grown_bel b5 (some g7)))
                      clear H4Y
                      go_wp2
                      go_roundw
                      case rel => exact ⟨k + 1, N2, D2, by omega, by go_num, (HF7.out.store _ _).old _, HM.out.1, Lib.hid HM.out.2, Lib.grownBy_trans (grown_two HG5.out _ _) (World.grownBy_alloc _ _ _)⟩
                      case measure => simp [intOf]; omega
          · obtain rfl : k = n := by omega
            obtain ⟨c0, c1, f0, f1⟩ := h4
            obtain ⟨d0, d1, -, -⟩ := h7
            have hV := hvb.out
            rw [vb_end _ _ _ (by rw [← HN.out]; omega)] at hV
            have HV3 := Lib.hid hV
            have HG3 := Lib.hid hg
            clear hV hvb hg
            go_wp2_with fail
            refine bodyPost_ret ((F2.store ⟨c0, c1, f0, f1⟩ _ _).results rfl rfl rfl) rfl ?_
            exact givesF_eq HV3.out.symm (((bel_var HBC.out HG3.out (by omega) (by omega)).setCell (by simp) _).setCell (by simp) _)
end Go.Proofs.YtklcildhfcomnaaGreatDoor

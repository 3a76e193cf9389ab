/-
  Values by roots in the program: what each call returns.
  Conditions: the slice reads as the list that is named, a polynomial where it says so.
-/
import Derived.Test.YtklcildhfcomnaaGreatDoorValue
import Derived.Test.YtklcildhfcomnaaGreatDoorPolyE
import Derived.Deep.RegionWith
namespace Go.Proofs.YtklcildhfcomnaaGreatDoor
set_option linter.unusedSimpArgs false
set_option linter.unusedVariables false
open Go.ChangeShapes Go.WideShapes Go.ChangeAt Go.RowKit

theorem low_corner {zs : List Int} (h : poB zs = true) : (lowN zs : Int) = gd (corL zs) 0 := by
  have hc := corL_ok h
  have h0 := hc.pt 0 hc.pos
  have hl := low_at zs (gd (corL zs) 0).toNat (fun i hi => by have := hc.first i (by omega) (by omega); simpa [pv] using this) (by omega) (by have := h0.2.2; unfold pv at this; omega)
  omega
theorem vr_no1 {zs : List Int} {x : Int} (h : poB zs = false) : vrB zs x = false := by simp [vrB, h]
theorem vr_no2 {zs : List Int} {x : Int} (h : finB x = false) : vrB zs x = false := by simp [vrB, h]
theorem vr_yes {zs : List Int} {x : Int} (h : poB zs = true) (h' : finB x = true) : vrB zs x = true := by simp [vrB, h, h']
/-- A root's box, and the box of x. -/
abbrev SV (w' : World) (g : Nat) (N D T : Int) (h : Nat) (x y : Int) : Prop := w'.cell? ⟨g, 0, none⟩ = some (.int .i64 N) ∧ w'.cell? ⟨g, 1, none⟩ = some (.int .i64 D) ∧ w'.cell? ⟨g, 2, none⟩ = some (.int .i64 T) ∧ w'.cell? ⟨h, 0, none⟩ = some (.int .i64 x) ∧ w'.cell? ⟨h, 1, none⟩ = some (.int .i64 y)
section
variable {w w' : World} {g : Nat} {N D T : Int} {h : Nat} {x y : Int}
theorem SV.drew (H : SV w g N D T h x y) : SV w.drew g N D T h x y := H
theorem SV.drewN (H : SV w g N D T h x y) (n : Nat) : SV (w.drewN n) g N D T h x y := H
theorem SV.below (H : SV w g N D T h x y) (hb : Below w.heap.size w w') : SV w' g N D T h x y := by
  obtain ⟨h1, h2, h3, h4, h5⟩ := H
  exact ⟨(cellAt hb g 0 (cell_lt h1)).trans h1, (cellAt hb g 1 (cell_lt h2)).trans h2, (cellAt hb g 2 (cell_lt h3)).trans h3, (cellAt hb h 0 (cell_lt h4)).trans h4, (cellAt hb h 1 (cell_lt h5)).trans h5⟩
theorem SV.far (H : SV w g N D T h x y) (k : Nat) (h1 : g ≠ k) (h2 : h ≠ k) (i : Nat) (u : Value) : SV (w.setCell ⟨k, i, none⟩ u) g N D T h x y := by
  obtain ⟨a1, a2, a3, a4, a5⟩ := H
  have f1 : ∀ j, (w.setCell ⟨k, i, none⟩ u).cell? ⟨g, j, none⟩ = w.cell? ⟨g, j, none⟩ := fun j => World.cell?_setCell_other _ _ _ _ (by simp [Ne.symm h1])
  have f2 : ∀ j, (w.setCell ⟨k, i, none⟩ u).cell? ⟨h, j, none⟩ = w.cell? ⟨h, j, none⟩ := fun j => World.cell?_setCell_other _ _ _ _ (by simp [Ne.symm h2])
  exact ⟨(f1 0).trans a1, (f1 1).trans a2, (f1 2).trans a3, (f2 0).trans a4, (f2 1).trans a5⟩
end
set_option maxHeartbeats 8000000 in
set_option maxRecDepth 100000 in
theorem implValueByRoots_any (w : World) (B : Nat) (v : Value) (zs : List Int) (x : Int) (h : IS w B v zs) : Calls Tryz.prog 18 #[v, .int .i64 x] w fun e w' => GivesF (vrR zs x).2.1 (vrR zs x).2.2 (vrR zs x).1 w e w' := by
  have hI : IS (w.alloc (.cells #[.int .i64 0, .int .i64 0] 35)) B v zs := h.alloc _
  have b00 : Below w.heap.size w (w.alloc (.cells #[.int .i64 0, .int .i64 0] 35)) := (Below.refl _ _).alloc (Nat.le_refl _) _
  have H := Lib.hid (And.intro hI (F2.new w 0 0))
  have HP := Lib.hid h.parts
  have HL := Lib.hid (show ∀ g, v.ownBlock = some g → g < w.heap.size from fun g hg => (h.lt g hg).2)
  clear hI h
  obtain ⟨A, cap, hv, -, hp⟩ := HP.out
  subst hv
  have HP := Lib.hid hp
  clear hp
  cases hz : poB zs
  · have HQ := Lib.hid (vrR_no (vr_no1 (x := x) hz))
    have HZ := Lib.hid hz
    go_enter Tryz.func18, Tryz.ntmps18
    go_wp2_with fail
    refine (implRootsOf_any _ B _ zs H.out.1).mono ?_
    rintro e w1 ⟨r, rfl, -, b1⟩
    rw [HZ.out]
    obtain ⟨c0, c1, f0, f1⟩ := H.out.2.below b1
    go_wp2_with fail
    refine bodyPost_ret ((F2.store ⟨c0, c1, f0, f1⟩ _ _).results rfl rfl rfl) rfl ?_
    exact givesF_eq HQ.out (((bel2 b00 b1).setCell (by simp) _).setCell (by simp) _)
  · cases hf : finB x
    · have HQ := Lib.hid (vrR_no (vr_no2 (zs := zs) hf))
      have HZ := Lib.hid hz
      have HF := Lib.hid hf
      go_enter Tryz.func18, Tryz.ntmps18
      go_wp2_with fail
      refine (implRootsOf_any _ B _ zs H.out.1).mono ?_
      rintro e w1 ⟨r, rfl, -, b1⟩
      rw [HZ.out]
      obtain ⟨c0, c1, f0, f1⟩ := H.out.2.below b1
      go_wp2_with fail
      refine (isFin_any _ _).mono ?_
      rintro e w' ⟨rfl, rfl⟩
      rw [HF.out]
      go_wp2_with fail
      refine bodyPost_ret ((F2.store ⟨c0, c1, f0, f1⟩ _ _).results rfl rfl rfl) rfl ?_
      exact givesF_eq HQ.out (((bel2 b00 b1).setCell (by simp) _).setCell (by simp) _)
    · have HB := vr_yes hz hf
      have HQ := Lib.hid (vrR_yes HB)
      obtain ⟨v1, v2, x1, x2⟩ := vr0_bd HB
      have hl := (po_parts hz).2.2.1
      have hl1 := (po_parts hz).2.1
      have hc := corL_ok hz
      have hc0 := hc.pt 0 hc.pos
      have HLO := Lib.hid (show loV zs = gd (corL zs) 0 ∧ hiV zs = ((zs.length - 1 : Nat) : Int) by
        refine ⟨?_, ?_⟩
        · unfold loV; rw [if_pos hz]; exact low_corner hz
        · unfold hiV; rw [if_pos hz]; omega)
      have HZ := Lib.hid hz
      have HF := Lib.hid hf
      have HRO := Lib.hid (roots_ok hz)
      have hrl := rootsL_len hz
      obtain ⟨C, hC⟩ : ∃ C : Nat, gd (corL zs) 0 = C := ⟨(gd (corL zs) 0).toNat, by omega⟩
      obtain ⟨y, hy⟩ : ∃ y, y = pv zs (zs.length - 1) := ⟨_, rfl⟩
      have hy2 : y = gd zs (zs.length - 1) := by rw [hy]; unfold pv; congr 1; omega
      have hv0 : vr0 zs x = y + C * x := by unfold vr0; rw [hC, hy]
      rw [← hy] at v2
      rw [hC] at v1 hc0 HLO
      obtain ⟨a1, a2, a3⟩ := ad_whole (s := y) (k := (C : Int)) (a := x) (by omega) (by omega)
      obtain ⟨V0, hV0⟩ : ∃ V0, V0 = vr0 zs x := ⟨_, rfl⟩
      rw [← hv0, ← hV0] at a2
      have hV0b : -1000000000 ≤ V0 ∧ V0 ≤ 1000000000 := by rw [hV0, hv0]; omega
      have hAT : ∀ W, Calls Tryz.prog 45 #[fracV y 1, .int .i64 (C : Int), fracV x 1] W fun e w' => GivesF V0 1 true W e w' := fun W => by
        have := addTimes_any y 1 C x 1 W (frB_one (by omega)) (by unfold Lim; omega) (frB_one (by omega))
        rwa [a1, a2, a3] at this
      have HAT := Lib.hid hAT
      have HV := Lib.hid (show vrR zs x = vbF x (rootsL zs) V0 1 by rw [HQ.out, hV0])
      clear hz hf hc HB hC hy hv0 a1 a2 a3 hV0 hAT HQ
      have HY := Lib.hid hy2
      clear hy2
      go_enter Tryz.func18, Tryz.ntmps18
      go_wp2_with fail
      refine (implRootsOf_any _ B _ zs H.out.1).mono ?_
      rintro e w1 ⟨r, rfl, hr, b1⟩
      rw [rootsR_yes HZ.out] at hr
      rw [HZ.out]
      go_wp2_with fail
      refine (isFin_any _ _).mono ?_
      rintro e w' ⟨rfl, rfl⟩
      rw [HF.out]
      have hI1 := H.out.1.below b1
      go_wp2_with fail
      refine (implEndTerms_any _ B _ zs hI1).mono ?_
      rintro e w' ⟨rfl, rfl⟩
      rw [HLO.out.1, HLO.out.2, HZ.out]
      go_wp2_with fail
      refine (wholeFrac_any _ _).mono ?_
      rintro e w2 ⟨rfl, b2⟩
      have s1 : w.heap.size < w1.heap.size := by have := b1.size; simp at this; omega
      have s2 := b2.size
      obtain ⟨W, hW⟩ : ∃ W, W = w2.alloc (.cells #[.int .i64 x, .int .i64 1] 35) := ⟨_, rfl⟩
      have B1 := bel2 b00 b1
      have B2 := bel2 B1 b2
      have BW : Below w.heap.size w W := by rw [hW]; exact B2.alloc B2.size _
      have h11 : F2 W w2.heap.size x 1 := by rw [hW]; exact F2.new _ _ _
      have h4 : F2 W w.heap.size 0 0 := by rw [hW]; exact ((H.out.2.below b1).below b2).old _
      have hrW : RS W w.heap.size r (rootsL zs) := by
        have hbb : Below w2.heap.size w2 W := by rw [hW]; exact (Below.refl _ _).alloc (Nat.le_refl _) _
        exact FS.base (FS.below (FS.below hr b2) hbb) (by simp)
      have s3 : w2.heap.size < W.heap.size := cell_lt h11.1
      have HW := Lib.hid hW
      clear hW hr B1 B2 b1 b2 hI1
      obtain ⟨g, rfl, ce0⟩ := HP.out (zs.length - 1) (by omega)
      have hgw := HL.out g rfl
      have ce := (BW.cell hgw).trans ce0
      rw [← HY.out] at ce
      have hS : ST W g (zs.length - 1) y w2.heap.size x 1 := ⟨ce, h11.1, h11.2.1⟩
      have z1 : ((zs.length - 1 : Nat) : Int) < (zs.length : Int) := by omega
      have z2 : (0 : Int) ≤ ((zs.length - 1 : Nat) : Int) := by omega
      have HH := Lib.hid (And.intro h11 h4)
      have HRW := Lib.hid hrW
      clear ce0 ce h11 h4 hrW
      go_upto_region 6 with fail
      rw [← HW.out]
      go_cut [12, 7] (fun p q wx => ∃ h, p = .pointer (some ⟨h, 0, none⟩) ∧ W.heap.size ≤ h ∧ q = .bool true ∧ F2 wx h V0 1 ∧ Below W.heap.size W wx)
      case first =>
        go_region_held3 (fun w' => w'.cell? ⟨g, zs.length - 1, none⟩ = some (.int .i64 y) ∧ w'.cell? ⟨w2.heap.size, 0, none⟩ = some (.int .i64 x) ∧ w'.cell? ⟨w2.heap.size, 1, none⟩ = some (.int .i64 1)) (repeat' (first | with_reducible assumption | with_reducible refine ST.below ?_ b2 | with_reducible refine ST.below ?_ b1 | with_reducible refine ST.drew ?_ | with_reducible refine ST.drewN ?_ _ | with_reducible refine ST.setAt ?_ ?_ _ _ | with_reducible refine ST.alloc ?_ _ | with_reducible refine ST.setN ?_ _ (by first | omega | (simp; omega)) (by first | omega | (simp; omega)) _ _)) (first | (go_at_call 44; refine (wholeFrac_any _ _).mono ?_; rintro y x1 ⟨rfl, b1⟩; have k1 := cellAt b1; have k2 := frozenAt b1; first | have z1 : W.heap.size < x1.heap.size := (by have := b1.size; simp at this; omega) | skip) | (go_at_call 45; refine (HAT.out _).mono ?_; rintro y x2 ⟨rfl, b2⟩; have k3 := cellAt b2; have k4 := frozenAt b2))
        all_goals go_wp2_with fail
        all_goals go_meet
        all_goals
          have hs1 : W.heap.size ≤ x1.heap.size := by have := b1.size; simp at this; omega
          have hs2 : W.heap.size ≤ x2.heap.size := by have := b2.size; (try simp at this); omega
          first
          | exact ⟨_, rfl, Nat.le_refl _, rfl, (((F2.new W 0 0).drew.below b1).below b2).store _ _, ((bel2 (bel2 (((Below.refl W.heap.size W).alloc (Nat.le_refl _) _).drew) b1) b2).setCell (Nat.le_refl _) _).setCell (Nat.le_refl _) _⟩
          | exact ⟨_, rfl, hs1, rfl, ((F2.new x1 0 0).below b2).store _ _, ((bel2 ((bel2 (Below.refl W.heap.size W).drew b1).alloc hs1 _) b2).setCell hs1 _).setCell hs1 _⟩
          | exact ⟨_, rfl, hs2, rfl, F2.new _ _ _, (bel2 (bel2 (Below.refl W.heap.size W).drew b1) b2).alloc hs2 _⟩

      case rest =>
        obtain ⟨g12, rfl, hg12, rfl, H12, b0⟩ := hcut
        have hrs := FS.below HRW.out b0
        have hlr := HRW.out.lt
        obtain ⟨rs, hrse⟩ : ∃ rs, rs = rootsL zs := ⟨_, rfl⟩
        rw [← hrse] at hrs HRO hrl HV
        obtain ⟨Ar, capr, rfl, -, hp⟩ := RS.parts hrs
        have HRP := Lib.hid hp
        have HLR := Lib.hid (show ∀ g', Ar = some ⟨g', 0, none⟩ → g' < W.heap.size from fun g' hg' => by subst hg'; exact (hlr g' rfl).2)
        have HBC := Lib.hid (bel2 BW b0)
        have HFS := Lib.hid (And.intro (HH.out.1.below b0) (HH.out.2.below b0))
        have s4 := b0.size
        have s5 : g12 < wc.heap.size := cell_lt H12.1
        have hf12 : frB V0 1 = true := frB_one hV0b
        have hw := BW.size
        obtain ⟨n, hn⟩ : ∃ n, n = rs.length := ⟨_, rfl⟩
        have HN := Lib.hid hn
        rw [← hn] at hrl ⊢
        clear hrs hlr hrse hp hn b0 BW hS
        go_wp2
        go_loopw [52] (fun i wr => ∃ (k : Nat) (s t : Int), k ≤ n ∧ i = .int .i64 k ∧ F2 wr g12 s t ∧ frB s t = true ∧ Hid (vbF x (rs.drop k) s t = vrR zs x) ∧ wc.grownBy wr (some g12)) (fun i _ => n - (intOf i).toNat)
        case atStart => exact ⟨0, V0, 1, by omega, rfl, H12, hf12, Lib.hid (by rw [HV.out]; rfl), World.grownBy.refl _ _⟩
        case round =>
          obtain ⟨k, s, t, hk, rfl, h12, hst, hvb, hg⟩ := hrel
          clear H12 hf12
          have s6 := hg.size
          have h4 : F2 wr w.heap.size 0 0 := HFS.out.2.grown hg (some_ne (by omega))
          by_cases hlt : k < n
          · obtain ⟨gr, rfl, e0, e1, e2⟩ := HRP.out k (by rw [← HN.out]; exact hlt)
            have hgr := HLR.out gr rfl
            have c0 := hg.cell e0 (some_ne (by show gr ≠ g12; omega))
            have c1 := hg.cell e1 (some_ne (by show gr ≠ g12; omega))
            have c2 := hg.cell e2 (some_ne (by show gr ≠ g12; omega))
            have hok := HRO.out (rd rs k) (rd_mem (by rw [← HN.out]; exact hlt))
            obtain ⟨N, D, T, hrd⟩ : ∃ N D T, rd rs k = (N, D, T) := ⟨_, _, _, rfl⟩
            have hbad : adB s t T (lsN (N, D, T) x) (lsD (N, D, T) x) = false → vrR zs x = (false, 0, 0) := fun hm => by rw [← hvb.out]; exact vb_bad (by rw [← HN.out]; exact hlt) (by rw [hrd]; exact hm)
            have hmore : adB s t T (lsN (N, D, T) x) (lsD (N, D, T) x) = true → frB (adN s t T (lsN (N, D, T) x) (lsD (N, D, T) x)) (adD s t T (lsN (N, D, T) x) (lsD (N, D, T) x)) = true ∧ vbF x (rs.drop (k + 1)) (adN s t T (lsN (N, D, T) x) (lsD (N, D, T) x)) (adD s t T (lsN (N, D, T) x) (lsD (N, D, T) x)) = vrR zs x := fun hm =>
              ⟨(ad_parts hm).2.2.2, by have := vb_more (x := x) (rs := rs) (k := k) (s := s) (t := t) (by rw [← HN.out]; exact hlt) (by rw [hrd]; exact hm); rw [← hvb.out, this, hrd]⟩
            rw [hrd] at c0 c1 c2 hok
            have hls := ls_ok hok ⟨x1, x2⟩
            have hL : ∀ W, Calls Tryz.prog 46 #[fracV N D, fracV x 1] W fun e w' => e = .returned (fracV (lsN (N, D, T) x) (lsD (N, D, T) x)) ∧ Below W.heap.size W w' := fun W => by
              have := lessFrac_any N D x 1 W hok.fr (frB_one (by omega))
              unfold mnN mnD at this
              rw [Int.mul_one] at this
              exact this
            have hA : ∀ W, Calls Tryz.prog 45 #[fracV s t, .int .i64 T, fracV (lsN (N, D, T) x) (lsD (N, D, T) x)] W fun e w' => GivesF (adN s t T (lsN (N, D, T) x) (lsD (N, D, T) x)) (adD s t T (lsN (N, D, T) x) (lsD (N, D, T) x)) (adB s t T (lsN (N, D, T) x) (lsD (N, D, T) x)) W e w' :=
              fun W => addTimes_any s t T _ _ W hst (by have h := hok.times; dsimp only at h; unfold Lim; omega) hls
            obtain ⟨P, hP⟩ : ∃ P, P = lsN (N, D, T) x := ⟨_, rfl⟩
            obtain ⟨Q, hQ⟩ : ∃ P, P = lsD (N, D, T) x := ⟨_, rfl⟩
            rw [← hP, ← hQ] at hbad hmore hL hA
            obtain ⟨N2, hN2⟩ : ∃ z, z = adN s t T P Q := ⟨_, rfl⟩
            obtain ⟨D2, hD2⟩ : ∃ z, z = adD s t T P Q := ⟨_, rfl⟩
            obtain ⟨m2, hm2⟩ : ∃ z, z = adB s t T P Q := ⟨_, rfl⟩
            rw [← hN2, ← hD2, ← hm2] at hmore hA
            rw [← hm2] at hbad
            have HLL := Lib.hid hL
            have HAA := Lib.hid hA
            have HX := Lib.hid (And.intro hbad hmore)
            obtain ⟨W2, hW2⟩ : ∃ W2, W2 = wr.alloc (.cells #[.int .i64 N, .int .i64 D, .int .i64 T] 37) := ⟨_, rfl⟩
            have bw2 : Below wr.heap.size wr W2 := by rw [hW2]; exact (Below.refl _ _).alloc (Nat.le_refl _) _
            have hsv : SV W2 wr.heap.size N D T w2.heap.size x 1 := by
              have r3 : R3 W2 wr.heap.size N D T := by rw [hW2]; exact R3.new _ _ _ _ _
              have f11 := (HFS.out.1.grown hg (some_ne (by omega))).below bw2
              exact ⟨r3.1, r3.2.1, r3.2.2.1, f11.1, f11.2.1⟩
            have h12w := h12.below bw2
            have H12W := Lib.hid h12w
            have H4W := Lib.hid (h4.below bw2)
            have HG2 := Lib.hid (Lib.grownBy_trans hg (grown_bel bw2 (some g12)))
            have s7 : wr.heap.size < W2.heap.size := cell_lt hsv.1
            have l12 : g12 < W2.heap.size := cell_lt h12w.1
            have HW2 := Lib.hid hW2
            obtain ⟨d0, d1, f0, f1⟩ := h12w
            clear hW2 hP hQ hN2 hD2 hm2 hL hA hbad hmore hrd hok hls e0 e1 e2 h12 h4 hst hvb hg bw2
            go_upto_region 12 with fail
            rw [← HW2.out]
            go_cut [7] (fun q wx => q = .bool m2 ∧ F2 wx g12 N2 D2 ∧ W2.grownBy wx (some g12))
            case first =>
              have HSV := Lib.hid hsv
              obtain ⟨v0, v1, v2, v3, v4⟩ := hsv
              have l9 := s7
              have l11 : w2.heap.size < W2.heap.size := cell_lt v3
              go_region_with (first | (go_at_call 46; refine (HLL.out _).mono ?_; rintro y x1 ⟨rfl, b1⟩; have k1 := cellAt b1; have k2 := frozenAt b1; have z12 : g12 < x1.heap.size := (by have := b1.size; (try simp at this); omega); obtain ⟨d0a, d1a, f0a, f1a⟩ := H12W.out.drew.below b1; obtain ⟨e0a, e1a, e2a, e3a, e4a⟩ := (HSV.out.drew).below b1) | (go_at_call 45; refine (HAA.out _).mono ?_; rintro y x2 ⟨rfl, b2⟩; have k3 := cellAt b2; have k4 := frozenAt b2; obtain ⟨d0b, d1b, f0b, f1b⟩ := F2.below (w := x1) ⟨d0a, d1a, f0a, f1a⟩ b2))
              all_goals go_wp2_with fail
              all_goals go_meet
              all_goals exact ⟨rfl, ((F2.drew H12W.out |>.below b1).below b2).store _ _, grown_two (grown_bel (bel2 (bel2 (Below.refl _ _).drew b1) b2) (some g12)) _ _⟩
            case rest =>
              obtain ⟨rfl, hF, hgx⟩ := hcut
              have HGX := Lib.hid (Lib.grownBy_trans HG2.out hgx)
              have h4 := H4W.out.grown hgx (some_ne (by omega))
              clear hsv d0 d1 f0 f1 hgx c0 c1 c2
              cases m2
              · have HV0 := Lib.hid (HX.out.1 rfl)
                obtain ⟨c0, c1, f0, f1⟩ := h4
                clear hF
                go_wp2_with fail
                refine bodyPost_ret ((F2.store ⟨c0, c1, f0, f1⟩ _ _).results rfl rfl rfl) rfl ?_
                exact givesF_eq HV0.out (((bel_var HBC.out HGX.out (by omega) (by omega)).setCell (by simp) _).setCell (by simp) _)
              · have HM := Lib.hid (HX.out.2 rfl)
                go_wp2
                go_roundw
                case rel => exact ⟨k + 1, N2, D2, by omega, by go_num, hF, HM.out.1, Lib.hid HM.out.2, HGX.out⟩
                case measure => simp [intOf]; omega
          · obtain rfl : k = n := by omega
            obtain ⟨c0, c1, f0, f1⟩ := h4
            obtain ⟨d0, d1, -, -⟩ := h12
            have hV := hvb.out
            rw [vb_end _ _ _ (by rw [← HN.out]; omega)] at hV
            have HV3 := Lib.hid hV
            have HG3 := Lib.hid hg
            clear hV hvb hg
            go_wp2_with fail
            refine bodyPost_ret ((F2.store ⟨c0, c1, f0, f1⟩ _ _).results rfl rfl rfl) rfl ?_
            exact givesF_eq HV3.out.symm (((bel_var HBC.out HG3.out (by omega) (by omega)).setCell (by simp) _).setCell (by simp) _)
end Go.Proofs.YtklcildhfcomnaaGreatDoor

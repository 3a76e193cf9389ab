/-
  Needless terms, in the program and in the model: what each call returns.
  Condition: the slice reads as the list that is named.
-/
import Derived.Test.YtinijfkidjakpaaHeight
namespace Go.Proofs.Ytinijfkidjakpaa
set_option linter.unusedSimpArgs false
set_option linter.unusedVariables false
open Go.ChangeShapes Go.WideShapes Go.ChangeAt Go.RowKit

abbrev ST' (w' : World) (g e : Nat) (x : Int) (h : Nat) (a b : Int) : Prop := w'.cell? ⟨g, e, none⟩ = some (.int .i64 x) ∧ w'.cell? ⟨h, 0, none⟩ = some (.int .i64 a) ∧ w'.cell? ⟨h, 1, none⟩ = some (.int .i64 b)
theorem ST'.drew {w : World} {g e : Nat} {x : Int} {h : Nat} {a b : Int} (H : ST' w g e x h a b) : ST' w.drew g e x h a b := H
theorem ST'.drewN {w : World} {g e : Nat} {x : Int} {h : Nat} {a b : Int} (H : ST' w g e x h a b) (n : Nat) : ST' (w.drewN n) g e x h a b := H
theorem ST'.below {w w' : World} {g e : Nat} {x : Int} {h : Nat} {a b : Int} (H : ST' w g e x h a b) (hb : Below w.heap.size w w') : ST' w' g e x h a b := by
  obtain ⟨h1, h2, h3⟩ := H
  exact ⟨(cellAt hb g e (cell_lt h1)).trans h1, (cellAt hb h 0 (cell_lt h2)).trans h2, (cellAt hb h 1 (cell_lt h3)).trans h3⟩
theorem pv_nat (zs : List Int) (n : Nat) : pv zs (n : Int) = gd zs n := by unfold pv; rw [Int.toNat_natCast]
theorem nd_next {zs C : List Int} {c : Int} {m : Nat} : ndL zs C c (m + 1) = ndL zs C c m ++ if ndB zs C (c + m) = true then [c + m] else [] := rfl
theorem nd_yes {zs C : List Int} {c : Int} {m : Nat} (h : ndB zs C (c + m) = true) : ndL zs C c (m + 1) = ndL zs C c m ++ [c + m] := by rw [nd_next, if_pos h]
theorem nd_no {zs C : List Int} {c : Int} {m : Nat} (h : ndB zs C (c + m) = false) : ndL zs C c (m + 1) = ndL zs C c m := by rw [nd_next, if_neg (by simp [h]), List.append_nil]
set_option maxHeartbeats 1000000 in
set_option maxRecDepth 100000 in
theorem implNeedlessTerms_any (w : World) (B : Nat) (v : Value) (zs : List Int) (h : IS w B v zs) : Calls Try.prog 32 #[v] w fun e w' => GivesIB (poB zs) (ndR zs) w e w' := by
  cases hz : poB zs
  · have HQ := Lib.hid hz
    go_enter Try.func32, Try.ntmps32
    go_wp2_with fail
    refine (implCornersOf_any _ B _ zs h).mono ?_
    rintro e w1 ⟨r, rfl, hr, b1⟩
    rw [HQ.out]
    go_wp2
    go_ret2
    exact givesIB_nil rfl (ndR_no HQ.out) b1
  · have hC := corL_ok hz
    have HZ := Lib.hid hz
    have H := Lib.hid h
    obtain ⟨A, cap, rfl, -, hp⟩ := h.parts
    have HP := Lib.hid hp
    clear hp h
    obtain ⟨hM1, hM2⟩ := hgM_le hz
    have hzl := hC.zl
    have hcp := hC.pos
    have p0 := hC.pt 0 hcp
    obtain ⟨C, hCe⟩ : ∃ C, C = corL zs := ⟨_, rfl⟩
    have HR := Lib.hid (show ndR zs = ndL zs C (gd C 0) (hgM zs C) by rw [ndR_yes HZ.out, hCe])
    rw [← hCe] at hC hM1 hM2 hcp p0
    have HCE := Lib.hid hCe
    have HC := Lib.hid hC
    obtain ⟨c0, hc0⟩ : ∃ c0 : Nat, gd C 0 = c0 := ⟨(gd C 0).toNat, by omega⟩
    rw [hc0] at hM2 p0 HR
    have HC0 := Lib.hid hc0
    obtain ⟨M, hM⟩ : ∃ M, M = hgM zs C := ⟨_, rfl⟩
    rw [← hM] at hM1 hM2 HR
    have HM := Lib.hid hM
    have HND := Lib.hid (show ∀ k : Nat, k < M → frB (hgN zs C ((c0 + k : Nat) : Int)) (hgD zs C ((c0 + k : Nat) : Int)) = true ∧ decide (0 < cmpI (gd zs (c0 + k) * hgD zs C ((c0 + k : Nat) : Int)) (hgN zs C ((c0 + k : Nat) : Int))) = ndB zs C ((c0 + k : Nat) : Int) ∧ Lim (gd zs (c0 + k)) from fun k hk => by
      have h1 : gd C 0 ≤ ((c0 + k : Nat) : Int) := by rw [hc0]; omega
      have h2 : ((c0 + k : Nat) : Int) < zs.length := by omega
      have h3 := hC.nd_cmp h1 h2
      rw [show pv zs ((c0 + k : Nat) : Int) = gd zs (c0 + k) by unfold pv; rw [Int.toNat_natCast]] at h3
      refine ⟨(hC.hg h1 h2).2, h3, ?_⟩
      have := numB_bd (po_num HZ.out (k := c0 + k) (by omega))
      unfold Lim; omega)
    obtain ⟨i0, hi, hz0, hz1, hz2⟩ := info_parts infoInt
    obtain ⟨hM3, hM4⟩ : (M : Int) ≤ zs.length - c0 ∧ (zs.length : Int) - c0 ≤ M := ⟨by omega, by omega⟩
    clear hz hC hCe hc0 hM hM2
    go_enter Try.func32, Try.ntmps32
    go_wp2_with fail
    refine (implCornersOf_any _ B _ zs H.out).mono ?_
    rintro e w1 ⟨r, rfl, hr, b1⟩
    rw [HZ.out]
    rw [coR_yes HZ.out, ← HCE.out] at hr
    go_wp2_with fail
    refine (heightsOf_any _ _ _ _ _ zs C (H.out.below b1) hr HC.out).mono ?_
    rintro e w2 ⟨r2, rfl, hr2, b2⟩
    rw [← HM.out] at hr2
    have B2 := bel2 b1 b2
    have hrC := hr.below b2
    obtain ⟨A2, cap2, rfl, -, hp2⟩ := hrC.parts
    obtain ⟨g2, rfl, d0⟩ := hp2 0 (by omega)
    rw [HC0.out] at d0
    obtain ⟨A3, cap3, rfl, -, hp3⟩ := FS.parts hr2
    have HP3 := Lib.hid hp3
    have HD0 := Lib.hid d0
    obtain ⟨L, hL⟩ : ∃ L, L = C.length := ⟨_, rfl⟩
    rw [← hL] at hcp ⊢
    have HBB := Lib.hid B2
    have s2 := B2.size
    clear hr hrC hp2 hp3 hr2 b1 b2 B2 hL d0
    go_wp2
    go_loopw [6, 21] (fun o i wr => ∃ k : Nat, k ≤ M ∧ i = .int .i64 k ∧ IS wr w2.heap.size o (ndL zs C c0 k) ∧ Below w2.heap.size w2 wr) (fun _ i _ => M - (intOf i).toNat)
    case atStart => exact ⟨0, by omega, rfl, IS.nil_ _ _, Below.refl _ _⟩
    case round =>
      obtain ⟨k, hk, rfl, ho, hb⟩ := hrel
      by_cases hlt : k < M
      · obtain ⟨hfr, hnd, hlim⟩ := HND.out k hlt
        obtain ⟨e, he⟩ : ∃ e, e = c0 + k := ⟨_, rfl⟩
        rw [← he] at hfr hnd hlim
        obtain ⟨g3, rfl, f0⟩ := HP3.out (k * 2) (by omega)
        obtain ⟨g4, hg4, f1⟩ := HP3.out (k * 2 + 1) (by omega)
        cases hg4
        obtain ⟨E0, E1⟩ := hgt_gd (zs := zs) (C := C) hlt
        rw [HC0.out, show (c0 : Int) + (k : Int) = ((e : Nat) : Int) by omega] at E0 E1
        rw [E0] at f0
        rw [E1] at f1
        obtain ⟨g, rfl, ce⟩ := HP.out e (by omega)
        have ce1 := ((bel2 HBB.out hb).cell (cell_lt ce)).trans ce
        have f0' := (hb.cell (cell_lt f0)).trans f0
        have f1' := (hb.cell (cell_lt f1)).trans f1
        have d0 := (hb.cell (cell_lt HD0.out)).trans HD0.out
        obtain ⟨X, hX⟩ : ∃ X, X = hgN zs C (e : Int) := ⟨_, rfl⟩
        obtain ⟨Y, hY⟩ : ∃ X, X = hgD zs C (e : Int) := ⟨_, rfl⟩
        obtain ⟨x, hx⟩ : ∃ x, x = gd zs e := ⟨_, rfl⟩
        rw [← hX] at hfr hnd f0'
        rw [← hY] at hfr hnd f1'
        rw [← hx] at hnd hlim ce1
        obtain ⟨c, hc⟩ : ∃ c, c = cmpI (x * Y) X := ⟨_, rfl⟩
        rw [← hc] at hnd
        have HCC := Lib.hid hc
        have HFR := Lib.hid (And.intro hlim hfr)
        have HND2 := Lib.hid hnd
        have HE := Lib.hid he
        have hek : (c0 : Int) + (k : Int) = (e : Int) := by omega
        have hel : e < zs.length := by omega
        have z1 : (e : Int) < (zs.length : Int) := by omega
        have z2 : (0 : Int) ≤ (e : Int) := by omega
        have z3 : 0 < L := by omega
        have z4 : (0 : Int) < (L : Int) := by omega
        have q1 : IntKind.i64.wrap ((c0 : Int) + (k : Int)) = (e : Int) := by rw [hek]; exact IntWalk.i64_in _ (by omega)
        obtain ⟨W, hW⟩ : ∃ W, W = wr.alloc (.cells #[.int .i64 X, .int .i64 Y] 38) := ⟨_, rfl⟩
        have bW : Below wr.heap.size wr W := by rw [hW]; exact (Below.refl _ _).alloc (Nat.le_refl _) _
        have hS : ST' W g e x wr.heap.size X Y := by
          have hf : F2 W wr.heap.size X Y := by rw [hW]; exact F2.new _ _ _
          exact ⟨(bW.cell (cell_lt ce1)).trans ce1, hf.1, hf.2.1⟩
        have HW := Lib.hid hW
        clear f0 f1 ce E0 E1 hX hY hx hc hfr hnd hlim he hek hW ce1
        have l2 : g2 < wr.heap.size := cell_lt d0
        go_upto_region 9 with fail
        rw [← HW.out]
        clear f0' f1' d0 q1
        go_cut [37] (fun q wx => q = .bool (ndB zs C (e : Int)) ∧ Below W.heap.size W wx)
        case first =>
          go_region_held3 (fun w' => w'.cell? ⟨g, e, none⟩ = some (.int .i64 x) ∧ w'.cell? ⟨wr.heap.size, 0, none⟩ = some (.int .i64 X) ∧ w'.cell? ⟨wr.heap.size, 1, none⟩ = some (.int .i64 Y)) (repeat' (first | with_reducible assumption | with_reducible refine ST'.below ?_ b1 | with_reducible refine ST'.drew ?_ | with_reducible refine ST'.drewN ?_ _)) (first | (go_at_call 61; refine (compareWhole_any _ _ _ _ HFR.out.1 HFR.out.2).mono ?_; rw [← HCC.out]; rintro y x1 ⟨rfl, b1⟩; have k1 := cellAt b1))
          all_goals go_wp2_with fail
          all_goals go_meet
          all_goals exact ⟨by rw [← HND2.out], bel2 (Below.refl W.heap.size W).drew b1⟩
        case rest =>
          obtain ⟨rfl, b9⟩ := hcut
          have hbx := bel2 (bel2 hb bW) b9
          have hox := ho.below (bel2 bW b9)
          have hsx := hbx.size
          clear hS ho hb bW b9
          cases hn : ndB zs C (e : Int)
          · have HNN := Lib.hid (show ndL zs C c0 (k + 1) = ndL zs C c0 k from nd_no (by rw [show (c0 : Int) + (k : Int) = (e : Int) by have := HE.out; omega]; exact hn))
            go_wp2
            go_roundw
            case rel => exact ⟨k + 1, by omega, by go_num, by rw [HNN.out]; exact hox, hbx⟩
            case measure => simp [intOf]; omega
          · have HNN := Lib.hid (show ndL zs C c0 (k + 1) = ndL zs C c0 k ++ [(e : Int)] by rw [nd_yes (by rw [show (c0 : Int) + (k : Int) = (e : Int) by have := HE.out; omega]; exact hn), show (c0 : Int) + (k : Int) = (e : Int) by have := HE.out; omega])
            obtain ⟨u, hu⟩ : ∃ u, u = (ndL zs C c0 k).length := ⟨_, rfl⟩
            have hul : u ≤ 13 := by have := ndL_len zs C c0 k; omega
            have ho' : wc.ownsRow w2.heap.size 3 1 u6 u (ints (ndL zs C c0 k)) := by have := hox; unfold IS at this; rwa [← hu] at this
            go_wp2_with (at_builtin; refine wpList_append_own _ rfl _ _ 22 rfl w2.heap.size 3 i0 (.int .i64 0) 1 8 Try.underlying22 hi hz0 hz1 hz2 rfl (by decide) _ _ _ rfl (ho'.alloc _) ⟨wc.heap.size, 0, none⟩ 1 1 [.int .i64 (e : Int)] rfl rfl (one_new _ _) (by simp [Value.oneCell']) (by unfold maxLen; omega) (by omega) (by simp; omega) ?_; intro v' w3 hown' hgrow hnil)
            have hb6 : Below w2.heap.size w2 w3 := (hbx.alloc hsx _).grown hgrow (by simp; omega) (fun g' hg' => (World.ownsRow.lt ho' g' hg').1)
            have hrow := IS.snoc hu hown'
            rw [← HNN.out] at hrow
            go_wp2
            go_roundw
            case rel => exact ⟨k + 1, by omega, by go_num, hrow, hb6⟩
            case measure => simp [intOf]; omega
      · obtain rfl : k = M := by omega
        go_wp2
        go_ret2
        exact givesIB_yes rfl (by rw [HR.out]; exact ho.base s2) (bel2 HBB.out hb)
set_option maxHeartbeats 2000000 in
set_option maxRecDepth 100000 in
theorem specNeedlessTerms_any (w : World) (B : Nat) (v : Value) (zs : List Int) (h : IS w B v zs) : Calls Try.prog 31 #[v] w fun e w' => GivesIB (poB zs) (ndR zs) w e w' := by
  cases hz : poB zs
  · have HQ := Lib.hid hz
    go_enter Try.func31, Try.ntmps31
    go_wp2_with fail
    refine (poGood_any _ B _ zs h).mono ?_
    rintro e w' ⟨rfl, rfl⟩
    rw [HQ.out]
    go_wp2
    go_ret2
    exact givesIB_nil rfl (ndR_no HQ.out) (Below.refl _ _)
  · have hC := corL_ok hz
    have HZ := Lib.hid hz
    have H := Lib.hid h
    obtain ⟨A, cap, rfl, -, hp⟩ := h.parts
    have HP := Lib.hid hp
    clear hp h
    obtain ⟨hM1, hM2⟩ := hgM_le hz
    have hzl := hC.zl
    have hcp := hC.pos
    have hcl := hC.le
    have hlast := hC.last
    have p0 := hC.pt 0 hcp
    obtain ⟨C, hCe⟩ : ∃ C, C = corL zs := ⟨_, rfl⟩
    have HR := Lib.hid (show ndR zs = ndL zs C (gd C 0) (hgM zs C) by rw [ndR_yes HZ.out, hCe])
    rw [← hCe] at hC hM1 hM2 hcp p0 hcl hlast
    have HCE := Lib.hid hCe
    have HC := Lib.hid hC
    obtain ⟨c0, hc0⟩ : ∃ c0 : Nat, gd C 0 = c0 := ⟨(gd C 0).toNat, by omega⟩
    rw [hc0] at hM2 p0 HR
    have HC0 := Lib.hid hc0
    have HCN := Lib.hid (show ∀ n k : Nat, n < C.length → gd C n = k → c0 ≤ k ∧ ndL zs C c0 (k + 1 - c0) = ndL zs C c0 (k - c0) from fun n k hn hk => by
      have h1 := up_le hC.up (n := 0) (m := n) (by omega) hn
      rw [hc0, hk] at h1
      have h2 := hC.nd_corner hn
      rw [hk] at h2
      refine ⟨by omega, ?_⟩
      rw [show k + 1 - c0 = (k - c0) + 1 by omega]
      exact nd_no (by rw [show (c0 : Int) + ((k - c0 : Nat) : Int) = k by omega]; exact h2))
    have HEND := Lib.hid (show ∀ k : Nat, gd C (C.length - 1) = k → ndL zs C c0 (k - c0) = ndR zs from fun k hk => by
      have h1 := (HCN.out (C.length - 1) k (by omega) hk).2
      rw [← h1, HR.out]
      congr 1
      rw [hlast] at hk
      omega)
    obtain ⟨i0, hi, hz0, hz1, hz2⟩ := info_parts infoInt
    obtain ⟨L, hL⟩ : ∃ L, L = C.length := ⟨_, rfl⟩
    rw [← hL] at hcp hcl
    have HL := Lib.hid hL
    clear hz hC hCe hc0 hM1 hM2 hL hlast
    go_enter Try.func31, Try.ntmps31
    go_wp2_with fail
    refine (poGood_any _ B _ zs H.out).mono ?_
    rintro e w' ⟨rfl, rfl⟩
    rw [HZ.out]
    go_wp2_with fail
    refine (rtCorners_any _ B _ zs H.out HZ.out).mono ?_
    rintro e w1 ⟨r, rfl, hr, b1⟩
    rw [← HCE.out] at hr
    obtain ⟨A2, cap2, rfl, -, hp2⟩ := hr.parts
    rw [← HL.out]
    have HP2 := Lib.hid hp2
    have HB1 := Lib.hid b1
    have s1 := b1.size
    clear hr hp2 b1
    go_wp2
    go_loopw [4, 6] (fun o i wr => ∃ n k : Nat, 1 ≤ n ∧ n ≤ L ∧ i = .int .i64 n ∧ gd C (n - 1) = k ∧ IS wr w1.heap.size o (ndL zs C c0 (k - c0)) ∧ Below w1.heap.size w1 wr) (fun _ i _ => L - (intOf i).toNat)
    case atStart => exact ⟨1, c0, by omega, by omega, rfl, HC0.out, by rw [Nat.sub_self]; exact IS.nil_ _ _, Below.refl _ _⟩
    case round =>
      obtain ⟨n, i, hn1, hn, rfl, hi', ho, hb⟩ := hrel
      have HI := Lib.hid hi'
      clear hi'
      by_cases hlt : n < L
      · have hu := HC.out.up (n - 1) (by rw [← HL.out]; omega)
        have hpi := HC.out.pt (n - 1) (by rw [← HL.out]; omega)
        have hpk := HC.out.pt n (by rw [← HL.out]; exact hlt)
        rw [show n - 1 + 1 = n by omega] at hu
        obtain ⟨k, hk⟩ : ∃ k : Nat, gd C n = k := ⟨(gd C n).toNat, by omega⟩
        have HRAW := Lib.hid (show ∀ j : Nat, i < j → j ≤ k → (ndB zs C (j : Int) = true ↔ gd zs i * ((k : Int) - j) + gd zs k * ((j : Int) - i) < gd zs j * ((k : Int) - i)) from fun j h1 h2 => by
          have := raw_at zs C (n - 1) HC.out.up (by rw [← HL.out]; omega) (j := (j : Int)) (by rw [HI.out]; omega) (by rw [show n - 1 + 1 = n by omega, hk]; omega)
          rw [show n - 1 + 1 = n by omega, HI.out, hk] at this
          unfold ndB
          rw [decide_eq_true_iff, this.1, this.2, pv_nat, pv_nat, pv_nat])
        have HCI := Lib.hid (HCN.out (n - 1) i (by rw [← HL.out]; omega) HI.out)
        have HK := Lib.hid hk
        rw [HI.out] at hu hpi
        rw [hk] at hu hpk
        obtain ⟨g2, rfl, cu0⟩ := HP2.out (n - 1) (by rw [← HL.out]; omega)
        obtain ⟨g3, hg3, cm0⟩ := HP2.out n (by rw [← HL.out]; exact hlt)
        cases hg3
        rw [HI.out] at cu0
        rw [hk] at cm0
        have cu := (hb.cell (cell_lt cu0)).trans cu0
        have cm := (hb.cell (cell_lt cm0)).trans cm0
        have hci := HCI.out.1
        simp only [pv, Int.toNat_natCast] at hpi hpk
        obtain ⟨i1, i2, i3, i4⟩ := hpi
        obtain ⟨k1, k2, k3, k4⟩ := hpk
        have HBD := Lib.hid (And.intro (And.intro i3 i4) (And.intro k3 k4))
        have q7 : IntKind.i64.wrap ((n : Int) - 1) = ((n - 1 : Nat) : Int) := by rw [IntWalk.i64_in _ (by omega)]; omega
        have l1 : n - 1 < L := by omega
        clear hk cu0 cm0
        go_wp2
        go_quiet (fail)
        clear q7
        have hb' : Below w1.heap.size w1 (wr.drewN nq) := belN hb nq
        have ho'' : IS (wr.drewN nq) w1.heap.size u4 (ndL zs C c0 (i + 1 - c0)) := by rw [HCI.out.2]; exact ho
        clear ho hb cu cm
        go_wp2
        go_loopw [4, 9] (fun o x wr2 => ∃ j : Nat, i + 1 ≤ j ∧ j ≤ k ∧ x = .int .i64 j ∧ IS wr2 w1.heap.size o (ndL zs C c0 (j - c0)) ∧ Below w1.heap.size w1 wr2) (fun _ x _ => k - (intOf x).toNat)
        case atStart => exact ⟨i + 1, by omega, by omega, by go_num, ho'', hb'⟩
        case round =>
          obtain ⟨j, hj1, hj2, rfl, ho, hb⟩ := hrel
          clear ho'' hb'
          by_cases hjk : j < k
          · have hnd := HRAW.out j (by omega) (by omega)
            obtain ⟨gp, rfl, pj0⟩ := HP.out j (by omega)
            obtain ⟨gp', hgp, pi0⟩ := HP.out i (by omega)
            cases hgp
            obtain ⟨gp', hgp, pk0⟩ := HP.out k (by omega)
            cases hgp
            have B2 := bel2 HB1.out hb
            have pj := (B2.cell (cell_lt pj0)).trans pj0
            have pi := (B2.cell (cell_lt pi0)).trans pi0
            have pk := (B2.cell (cell_lt pk0)).trans pk0
            clear pj0 pi0 pk0
            have hbj := numB_bd (po_num HZ.out (k := j) (by omega))
            obtain ⟨x, hx⟩ : ∃ x, x = gd zs j := ⟨_, rfl⟩
            obtain ⟨y, hy⟩ : ∃ x, x = gd zs i := ⟨_, rfl⟩
            obtain ⟨z, hz'⟩ : ∃ x, x = gd zs k := ⟨_, rfl⟩
            have hyb := HBD.out.1
            have hzb := HBD.out.2
            rw [← hx] at hnd pj hbj
            rw [← hy] at hnd pi hyb
            rw [← hz'] at hnd pk hzb
            have HJ := Lib.hid (show ndL zs C c0 (j + 1 - c0) = ndL zs C c0 (j - c0) ++ if ndB zs C (j : Int) = true then [(j : Int)] else [] by
              rw [show j + 1 - c0 = (j - c0) + 1 by omega, nd_next, show (c0 : Int) + ((j - c0 : Nat) : Int) = j by omega])
            have z1 : (j : Int) < (zs.length : Int) := by omega
            have z2 : (i : Int) < (zs.length : Int) := by omega
            have z3 : (k : Int) < (zs.length : Int) := by omega
            obtain ⟨u, hu2⟩ : ∃ u, u = (ndL zs C c0 (j - c0)).length := ⟨_, rfl⟩
            have hul : u ≤ 13 := by have := ndL_len zs C c0 (j - c0); omega
            have hs1 := hb.size
            have ho' : wr.ownsRow w1.heap.size 3 1 u4 u (ints (ndL zs C c0 (j - c0))) := by have := ho; unfold IS at this; rwa [← hu2] at this
            have HU := Lib.hid hu2
            have m1 := mul12 (a := y) (d := (k : Int) - j) (M := 1000000) hyb (by omega) (by omega)
            have m2 := mul12 (a := z) (d := (j : Int) - i) (M := 1000000) hzb (by omega) (by omega)
            have m3 := mul12 (a := x) (d := (k : Int) - i) (M := 1000000000) (by omega) (by omega) (by omega)
            obtain ⟨X, hX⟩ : ∃ X, X = y * ((k : Int) - j) := ⟨_, rfl⟩
            obtain ⟨Y, hY⟩ : ∃ X, X = z * ((j : Int) - i) := ⟨_, rfl⟩
            obtain ⟨Z, hZ⟩ : ∃ X, X = x * ((k : Int) - i) := ⟨_, rfl⟩
            rw [← hX] at m1 hnd
            rw [← hY] at m2 hnd
            rw [← hZ] at m3 hnd
            have q1 : IntKind.i64.wrap ((k : Int) - i) = (k : Int) - i := IntWalk.i64_in _ (by omega)
            have q2 : IntKind.i64.wrap (x * ((k : Int) - i)) = Z := by rw [← hZ]; exact IntWalk.i64_in _ (by omega)
            have q3 : IntKind.i64.wrap ((k : Int) - j) = (k : Int) - j := IntWalk.i64_in _ (by omega)
            have q4 : IntKind.i64.wrap (y * ((k : Int) - j)) = X := by rw [← hX]; exact IntWalk.i64_in _ (by omega)
            have q5 : IntKind.i64.wrap ((j : Int) - i) = (j : Int) - i := IntWalk.i64_in _ (by omega)
            have q6 : IntKind.i64.wrap (z * ((j : Int) - i)) = Y := by rw [← hY]; exact IntWalk.i64_in _ (by omega)
            have q8 : IntKind.i64.wrap (X + Y) = X + Y := IntWalk.i64_in _ (by omega)
            have hinf : x = 1000000000 → X + Y < Z := fun e => by
              rw [hX, hY, hZ, e]
              have : (1 : Int) ≤ (k : Int) - i := by omega
              omega
            have HNT := Lib.hid (show X + Y < Z → ndL zs C c0 (j + 1 - c0) = ndL zs C c0 (j - c0) ++ [(j : Int)] from fun h => by rw [HJ.out, if_pos (hnd.2 h)])
            have HNF := Lib.hid (show ¬ X + Y < Z → ndL zs C c0 (j + 1 - c0) = ndL zs C c0 (j - c0) from fun h => by rw [HJ.out, if_neg (fun e => h (hnd.1 e)), List.append_nil])
            clear hX hY hZ hx hy hz' hu2 hnd
            by_cases hxi : x = 1000000000
            · have HN2 := Lib.hid (HNT.out (hinf hxi))
              have he : (x == 1000000000) = true := by simpa using hxi
              subst hxi
              go_wp2
              go_quiet (fail)
              clear q1 q2 q3 q4 q5 q6 q8
              go_wp2_with (at_builtin; refine wpList_append_own _ rfl _ _ 22 rfl w1.heap.size 3 i0 (.int .i64 0) 1 8 Try.underlying22 hi hz0 hz1 hz2 rfl (by decide) _ _ _ rfl (ho'.alloc _) ⟨wr.heap.size, 0, none⟩ 1 1 [.int .i64 (j : Int)] rfl rfl (one_new _ _) (by simp [Value.oneCell']) (by unfold maxLen; omega) (by omega) (by simp; omega) ?_; intro v' w3 hown' hgrow hnil)
              have hb6 : Below w1.heap.size w1 w3 := ((belN hb _).alloc hs1 _).grown hgrow (by simp; omega) (fun g' hg' => (World.ownsRow.lt ho' g' hg').1)
              have hrow := IS.snoc HU.out hown'
              rw [← HN2.out] at hrow
              go_wp2
              go_roundw
              case rel => exact ⟨j + 1, by omega, by omega, by go_num, hrow, hb6⟩
              case measure => simp [intOf]; omega
            · have he : (x == 1000000000) = false := by simpa using hxi
              by_cases key : X + Y < Z
              · have HN2 := Lib.hid (HNT.out key)
                go_wp2
                go_quiet (fail)
                clear q1 q2 q3 q4 q5 q6 q8
                go_wp2_with (at_builtin; refine wpList_append_own _ rfl _ _ 22 rfl w1.heap.size 3 i0 (.int .i64 0) 1 8 Try.underlying22 hi hz0 hz1 hz2 rfl (by decide) _ _ _ rfl (ho'.alloc _) ⟨wr.heap.size, 0, none⟩ 1 1 [.int .i64 (j : Int)] rfl rfl (one_new _ _) (by simp [Value.oneCell']) (by unfold maxLen; omega) (by omega) (by simp; omega) ?_; intro v' w3 hown' hgrow hnil)
                have hb6 : Below w1.heap.size w1 w3 := ((belN hb _).alloc hs1 _).grown hgrow (by simp; omega) (fun g' hg' => (World.ownsRow.lt ho' g' hg').1)
                have hrow := IS.snoc HU.out hown'
                rw [← HN2.out] at hrow
                go_wp2
                go_roundw
                case rel => exact ⟨j + 1, by omega, by omega, by go_num, hrow, hb6⟩
                case measure => simp [intOf]; omega
              · have HN2 := Lib.hid (HNF.out key)
                go_wp2
                go_quiet (fail)
                clear q1 q2 q3 q4 q5 q6 q8
                go_wp2
                go_roundw
                case rel => exact ⟨j + 1, by omega, by omega, by go_num, by rw [HN2.out]; exact ho, belN hb _⟩
                case measure => simp [intOf]; omega
          · obtain rfl : j = k := by omega
            go_wp2
            go_roundw
            case rel => exact ⟨n + 1, j, by omega, by omega, by go_num, by rw [Nat.add_sub_cancel]; exact HK.out, ho, hb⟩
            case measure => simp [intOf]; omega
      · obtain rfl : n = L := by omega
        go_wp2
        go_ret2
        refine givesIB_yes rfl ?_ (bel2 HB1.out hb)
        rw [← HEND.out i (by rw [← HL.out]; exact HI.out)]
        exact ho.base s1
end Go.Proofs.Ytinijfkidjakpaa

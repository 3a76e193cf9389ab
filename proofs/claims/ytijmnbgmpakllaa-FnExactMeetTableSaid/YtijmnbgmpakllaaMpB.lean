import Derived.Test.YtijmnbgmpakllaaMpA
import Derived.Test.YtijmnbgmpakllaaMeC
/-
  The pairs of rays that meet and the sums of their multiplicities, in the program.
  Condition: the slices read as the lists that are named.
-/
namespace Go.Proofs.Ytijmnbgmpakllaa
set_option linter.unusedSimpArgs false
set_option linter.unusedVariables false
open Go.ChangeShapes Go.WideShapes Go.ChangeAt Go.RowKit
open Go.Sort (grow)

/-- A point's box. -/
def BkP (w : World) (g : Nat) (p : Pt) : Prop := w.heap[g]? = some (.cells #[.int .i64 p.1, .int .i64 p.2] 62 (0, 0))
theorem BkP.new (w : World) (p : Pt) : BkP (w.alloc (.cells #[.int .i64 p.1, .int .i64 p.2] 62)) w.heap.size p := heap_alloc_new w _
theorem BkP.below {w w' : World} {g : Nat} {p : Pt} (h : BkP w g p) (hb : Below w.heap.size w w') : BkP w' g p := (hb.block g (Array.getElem?_eq_some_iff.1 h).1).trans h
theorem BkP.p2 {w : World} {g : Nat} {p : Pt} (h : BkP w g p) : P2 w g p := by
  unfold BkP at h
  refine ⟨?_, ?_⟩ <;> simp [World.cell?, h]
theorem BkP.lt {w : World} {g : Nat} {p : Pt} (h : BkP w g p) : g < w.heap.size := (Array.getElem?_eq_some_iff.1 h).1
theorem BkP.grown {w w' : World} {g B n : Nat} {p : Pt} {o : Value} {xs : List Value} (h : BkP w g p) (hr : w.ownsRow B 71 1 o n xs) (hg : w.grownBy w' o.ownBlock) : BkP w' g p := by
  refine (hg.block g h.lt fun e => ?_).trans h
  rcases hr.2 with ⟨rfl, -⟩ | ⟨g', cap', cur, rfl, hB, hh, -⟩
  · cases e
  · have e1 : g = g' := by simpa [Value.ownBlock] using e
    subst e1
    unfold BkP at h
    rw [hh] at h
    simp at h
theorem frL1_bad {l : List Tm} {x y : Int} (h : frL1 l x y = true) {j : Nat} (hj : j < l.length) : mvX x y (td l j) ≠ 0 := of_decide_eq_true (List.all_eq_true.1 h _ (td_mem hj))
set_option maxHeartbeats 1000000 in
set_option maxRecDepth 100000 in
theorem isAlong_any (w : World) (B : Nat) (v0 : Value) (l : List Tm) (p : Pt) (h : RyS w B v0 l) (hl : ryB l = true) (hm : mvM p.1 p.2 = true) : Calls Try.prog 62 #[ptV p, v0] w fun e w' => e = .returned (.bool (!frL1 l p.1 p.2)) ∧ Below w.heap.size w w' := by
  obtain ⟨A, cap, rfl, hmx, hp⟩ := RyS.parts h
  have HP := Lib.hid hp
  obtain ⟨n, hn⟩ : ∃ n, n = l.length := ⟨_, rfl⟩
  have HN := Lib.hid hn
  have hle := ryB_le hl
  have HL := Lib.hid hl
  have HM := Lib.hid ((mvM_iff p.1 p.2).1 hm)
  rw [← hn] at hmx hle ⊢
  have HBX := Lib.hid (BkP.new w p)
  have HBW := Lib.hid ((Below.refl w.heap.size w).alloc (Nat.le_refl _) (.cells #[.int .i64 p.1, .int .i64 p.2] 62))
  clear hp h hn hmx hl hm
  go_enter Try.func62, Try.ntmps62
  go_wp2
  obtain ⟨WB, hWB⟩ : ∃ W, W = w.alloc (.cells #[.int .i64 p.1, .int .i64 p.2] 62) := ⟨_, rfl⟩
  rw [← hWB] at HBX HBW ⊢
  clear hWB
  go_loopw [9] (fun i wr => ∃ k : Nat, k ≤ n ∧ i = .int .i64 k ∧ Hid (∀ j, j < k → mvX p.1 p.2 (td l j) ≠ 0) ∧ Hid (Below WB.heap.size WB wr)) (fun i _ => n - (intOf i).toNat)
  case atStart => exact ⟨0, by omega, rfl, Lib.hid fun j hj => by omega, Lib.hid (Below.refl _ _)⟩
  case round =>
    obtain ⟨k, hk, rfl, hst, hb⟩ := hrel
    by_cases hlt : k < n
    · have hkl : k < l.length := by rw [← HN.out]; exact hlt
      obtain ⟨g, rfl, hc0⟩ := HP.out k hkl
      have hc := X3.below hc0 (bel2 HBW.out hb.out)
      have ht := ryB_at HL.out hkl
      obtain ⟨s1, s2, -⟩ := mv_bd ht HM.out.1 HM.out.2.1
      have HT := Lib.hid (show mvX p.1 p.2 (td l k) ≠ 0 → ∀ j, j < k + 1 → mvX p.1 p.2 (td l j) ≠ 0 from fun h0 j hj => by
        rcases Nat.lt_or_ge j k with q | q
        · exact hst.out j q
        · obtain rfl : j = k := by omega
          exact h0)
      have HF := Lib.hid (show mvX p.1 p.2 (td l k) = 0 → frL1 l p.1 p.2 = false from fun h0 => frL1_no hkl h0)
      generalize td l k = t at hc s1 s2 HT HF ht
      have HS := Lib.hid (fun W => stepsOf_any t W)
      have HA := Lib.hid (fun W => show Calls Try.prog 53 #[ptV p, ptV (soP t)] W fun e w' => e = .returned (.bool (decide (mvX p.1 p.2 t = 0))) ∧ Gr W w' from areAlong_any p (soP t) W (by unfold soP; dsimp only; omega) (by unfold soP; dsimp only; omega))
      clear s1 s2 ht
      generalize mvX p.1 p.2 t = m at HT HF HA
      generalize soP t = sp at HS HA
      have hbA : Below wr.heap.size wr (wr.alloc (.cells #[.int .i64 t.1, .int .i64 t.2.1, .int .i64 t.2.2] 26)) := (Below.refl _ _).alloc (Nat.le_refl _) _
      have hBW := Lib.hid (bel2 hb.out hbA)
      have hn3 := T3.new wr t 26
      have hpb := (HBX.out.below (bel2 hb.out hbA)).p2
      obtain ⟨c0, c1, c2⟩ := hc
      have hgl : g < wr.heap.size := cell_lt c0
      clear hc0 hbA hst hb
      by_cases h0 : m = 0
      · have hf := HF.out h0
        rw [decide_eq_true h0] at HA
        clear h0 HT HF
        go_upto_region 4 with fail
        generalize wr.alloc (.cells #[.int .i64 t.1, .int .i64 t.2.1, .int .i64 t.2.2] 26) = W0 at hBW hn3 hpb ⊢
        obtain ⟨n0, n1, n2⟩ := T3.grown hn3
        obtain ⟨p0, p1⟩ := P2.grown hpb
        have hnl := cell_lt hn3.1
        have hpl := cell_lt hpb.1
        go_wp2
        refine wp_region_quiet_grown (by kernel_rfl) (by kernel_rfl) ?_
        repeat (go_big_quiet_step ((first | (with_reducible exact Calls.grown_of (HS.out _)) | (with_reducible exact Calls.grown_of (HA.out _)))))
        refine wpQuiet_nil ?_
        intro _ hw'
        obtain ⟨⟨nq, osq⟩, hw''⟩ := hw'
        subst hw''
        have hE := bel2 HBW.out (bel2 hBW.out (grB nq osq))
        go_wp2
        go_ret
        exact ⟨ret_bool (by rw [hf]; rfl), hE⟩
      · have hf := Lib.hid (HT.out h0)
        rw [decide_eq_false h0] at HA
        clear h0 HT HF
        go_upto_region 4 with fail
        generalize wr.alloc (.cells #[.int .i64 t.1, .int .i64 t.2.1, .int .i64 t.2.2] 26) = W0 at hBW hn3 hpb ⊢
        obtain ⟨n0, n1, n2⟩ := T3.grown hn3
        obtain ⟨p0, p1⟩ := P2.grown hpb
        have hnl := cell_lt hn3.1
        have hpl := cell_lt hpb.1
        go_wp2
        refine wp_region_quiet_grown (by kernel_rfl) (by kernel_rfl) ?_
        repeat (go_big_quiet_step ((first | (with_reducible exact Calls.grown_of (HS.out _)) | (with_reducible exact Calls.grown_of (HA.out _)))))
        refine wpQuiet_nil ?_
        intro _ hw'
        obtain ⟨⟨nq, osq⟩, hw''⟩ := hw'
        subst hw''
        have hE := Lib.hid (bel2 hBW.out (grB nq osq))
        go_wp2
        go_roundw
        case rel => exact ⟨k + 1, by omega, by go_num, hf, hE⟩
        case measure => simp [intOf]; omega
    · obtain rfl : k = n := by omega
      have hf := frL1_yes (l := l) (x := p.1) (y := p.2) (fun j hj => hst.out j (by rw [HN.out]; exact hj))
      have hE := bel2 HBW.out hb.out
      go_wp2
      go_ret
      exact ⟨ret_bool (by rw [hf]; rfl), hE⟩
set_option maxHeartbeats 4000000 in
set_option maxRecDepth 100000 in
theorem implMeetingPairs_any (w : World) (B1 B2 : Nat) (v1 v2 : Value) (a b : List Tm) (x y : Int) (h1 : RyS w B1 v1 a) (h2 : RyS w B2 v2 b) : Calls Try.prog 24 #[v1, v2, .int .i64 x, .int .i64 y] w fun e w' => GivesLB (asB a b x y) (mpR a b x y) w e w' := by
  have H1 := Lib.hid h1
  have H2 := Lib.hid h2
  obtain ⟨A1, c1, rfl, -, hp1⟩ := RyS.parts h1
  obtain ⟨A2, c2, rfl, -, hp2⟩ := RyS.parts h2
  have HP1 := Lib.hid hp1
  have HP2 := Lib.hid hp2
  clear h1 h2 hp1 hp2
  cases g0 : ryB a
  · have G0 := Lib.hid g0
    clear g0
    go_enter Try.func24, Try.ntmps24
    go_wp2_with fail
    refine (isStar_any _ B1 _ a (FS.below H1.out (Below.refl _ _))).mono ?_
    rintro e w1 ⟨rfl, bw1⟩
    have bb := bw1
    rw [G0.out]
    go_wp2
    go_ret2
    exact givesLB_nil (asB_no (.inl G0.out)) (mpR_no (asB_no (.inl G0.out))) bb
  · have G0 := Lib.hid g0
    clear g0
    cases g1 : ryB b
    · have G1 := Lib.hid g1
      clear g1
      go_enter Try.func24, Try.ntmps24
      go_wp2_with fail
      refine (isStar_any _ B1 _ a (FS.below H1.out (Below.refl _ _))).mono ?_
      rintro e w1 ⟨rfl, bw1⟩
      have bb := bw1
      rw [G0.out]
      go_wp2_with fail
      refine (isStar_any _ B2 _ b (FS.below H2.out bb)).mono ?_
      rintro e w2 ⟨rfl, bw2⟩
      replace bb := bel2 bb bw2
      rw [G1.out]
      go_wp2
      go_ret2
      exact givesLB_nil (asB_no (.inr (.inl G1.out))) (mpR_no (asB_no (.inr (.inl G1.out)))) bb
    · have G1 := Lib.hid g1
      clear g1
      cases g2 : mvM x y
      · have G2 := Lib.hid g2
        clear g2
        go_enter Try.func24, Try.ntmps24
        go_wp2_with fail
        refine (isStar_any _ B1 _ a (FS.below H1.out (Below.refl _ _))).mono ?_
        rintro e w1 ⟨rfl, bw1⟩
        have bb := bw1
        rw [G0.out]
        go_wp2_with fail
        refine (isStar_any _ B2 _ b (FS.below H2.out bb)).mono ?_
        rintro e w2 ⟨rfl, bw2⟩
        replace bb := bel2 bb bw2
        rw [G1.out]
        go_wp2_with fail
        refine (isMove_any x y _).mono ?_
        rintro e w9 ⟨rfl, rfl⟩
        rw [G2.out]
        go_wp2
        go_ret2
        exact givesLB_nil (asB_no (.inr (.inr (.inl G2.out)))) (mpR_no (asB_no (.inr (.inr (.inl G2.out))))) bb
      · have G2 := Lib.hid g2
        clear g2
        cases g3 : frL1 a x y
        · have G3 := Lib.hid g3
          clear g3
          go_enter Try.func24, Try.ntmps24
          go_wp2_with fail
          refine (isStar_any _ B1 _ a (FS.below H1.out (Below.refl _ _))).mono ?_
          rintro e w1 ⟨rfl, bw1⟩
          have bb := bw1
          rw [G0.out]
          go_wp2_with fail
          refine (isStar_any _ B2 _ b (FS.below H2.out bb)).mono ?_
          rintro e w2 ⟨rfl, bw2⟩
          replace bb := bel2 bb bw2
          rw [G1.out]
          go_wp2_with fail
          refine (isMove_any x y _).mono ?_
          rintro e w9 ⟨rfl, rfl⟩
          rw [G2.out]
          have hBX := BkP.new w2 (x, y)
          have hBA : Below w2.heap.size w2 (w2.alloc (.cells #[.int .i64 x, .int .i64 y] 62)) := (Below.refl _ _).alloc (Nat.le_refl _) _
          have HBX := Lib.hid hBX
          have HBA := Lib.hid hBA
          have hp0 := hBX.p2.1
          have hp1 := hBX.p2.2
          have hpl := hBX.lt
          dsimp only at hp0 hp1
          replace bb := bel2 bb hBA
          clear hBX hBA
          go_wp2_with fail
          refine (isAlong_any _ B1 _ a (x, y) (FS.below H1.out bb) G0.out G2.out).mono ?_
          rintro e w3 ⟨rfl, bw3⟩
          replace bb := bel2 bb bw3
          clear hp0 hp1 hpl
          rw [G3.out]
          go_wp2
          go_ret2
          exact givesLB_nil (asB_no (.inr (.inr (.inr (.inl G3.out))))) (mpR_no (asB_no (.inr (.inr (.inr (.inl G3.out)))))) bb
        · have G3 := Lib.hid g3
          clear g3
          cases g4 : frL1 b x y
          · have G4 := Lib.hid g4
            clear g4
            go_enter Try.func24, Try.ntmps24
            go_wp2_with fail
            refine (isStar_any _ B1 _ a (FS.below H1.out (Below.refl _ _))).mono ?_
            rintro e w1 ⟨rfl, bw1⟩
            have bb := bw1
            rw [G0.out]
            go_wp2_with fail
            refine (isStar_any _ B2 _ b (FS.below H2.out bb)).mono ?_
            rintro e w2 ⟨rfl, bw2⟩
            replace bb := bel2 bb bw2
            rw [G1.out]
            go_wp2_with fail
            refine (isMove_any x y _).mono ?_
            rintro e w9 ⟨rfl, rfl⟩
            rw [G2.out]
            have hBX := BkP.new w2 (x, y)
            have hBA : Below w2.heap.size w2 (w2.alloc (.cells #[.int .i64 x, .int .i64 y] 62)) := (Below.refl _ _).alloc (Nat.le_refl _) _
            have HBX := Lib.hid hBX
            have HBA := Lib.hid hBA
            have hp0 := hBX.p2.1
            have hp1 := hBX.p2.2
            have hpl := hBX.lt
            dsimp only at hp0 hp1
            replace bb := bel2 bb hBA
            clear hBX hBA
            go_wp2_with fail
            refine (isAlong_any _ B1 _ a (x, y) (FS.below H1.out bb) G0.out G2.out).mono ?_
            rintro e w3 ⟨rfl, bw3⟩
            replace bb := bel2 bb bw3
            clear hp0 hp1 hpl
            rw [G3.out]
            have hBX := HBX.out.below bw3
            have hp0 := hBX.p2.1
            have hp1 := hBX.p2.2
            have hpl := hBX.lt
            dsimp only at hp0 hp1
            have HBX := Lib.hid hBX
            clear hBX
            go_wp2_with fail
            refine (isAlong_any _ B2 _ b (x, y) (FS.below H2.out bb) G1.out G2.out).mono ?_
            rintro e w4 ⟨rfl, bw4⟩
            replace bb := bel2 bb bw4
            clear hp0 hp1 hpl
            rw [G4.out]
            go_wp2
            go_ret2
            exact givesLB_nil (asB_no (.inr (.inr (.inr (.inr G4.out))))) (mpR_no (asB_no (.inr (.inr (.inr (.inr G4.out)))))) bb
          · have G4 := Lib.hid g4
            clear g4
            go_enter Try.func24, Try.ntmps24
            go_wp2_with fail
            refine (isStar_any _ B1 _ a (FS.below H1.out (Below.refl _ _))).mono ?_
            rintro e w1 ⟨rfl, bw1⟩
            have bb := bw1
            rw [G0.out]
            go_wp2_with fail
            refine (isStar_any _ B2 _ b (FS.below H2.out bb)).mono ?_
            rintro e w2 ⟨rfl, bw2⟩
            replace bb := bel2 bb bw2
            rw [G1.out]
            go_wp2_with fail
            refine (isMove_any x y _).mono ?_
            rintro e w9 ⟨rfl, rfl⟩
            rw [G2.out]
            have hBX := BkP.new w2 (x, y)
            have hBA : Below w2.heap.size w2 (w2.alloc (.cells #[.int .i64 x, .int .i64 y] 62)) := (Below.refl _ _).alloc (Nat.le_refl _) _
            have HBX := Lib.hid hBX
            have HBA := Lib.hid hBA
            have hp0 := hBX.p2.1
            have hp1 := hBX.p2.2
            have hpl := hBX.lt
            dsimp only at hp0 hp1
            replace bb := bel2 bb hBA
            clear hBX hBA
            go_wp2_with fail
            refine (isAlong_any _ B1 _ a (x, y) (FS.below H1.out bb) G0.out G2.out).mono ?_
            rintro e w3 ⟨rfl, bw3⟩
            replace bb := bel2 bb bw3
            clear hp0 hp1 hpl
            rw [G3.out]
            have hBX := HBX.out.below bw3
            have hp0 := hBX.p2.1
            have hp1 := hBX.p2.2
            have hpl := hBX.lt
            dsimp only at hp0 hp1
            have HBX := Lib.hid hBX
            clear hBX
            go_wp2_with fail
            refine (isAlong_any _ B2 _ b (x, y) (FS.below H2.out bb) G1.out G2.out).mono ?_
            rintro e w4 ⟨rfl, bw4⟩
            replace bb := bel2 bb bw4
            clear hp0 hp1 hpl
            rw [G4.out]
            have hBX := HBX.out.below bw4
            have HBX := Lib.hid hBX
            have HBB := Lib.hid bb
            clear hBX bb bw1 bw2 bw3 bw4
            obtain ⟨NB, hNB⟩ : ∃ N, N = w2.heap.size := ⟨_, rfl⟩
            rw [← hNB] at HBX ⊢
            have HNB := Lib.hid hNB
            clear hNB
            obtain ⟨n, hn⟩ : ∃ n, n = a.length := ⟨_, rfl⟩
            obtain ⟨m, hmm⟩ : ∃ m, m = b.length := ⟨_, rfl⟩
            have HN := Lib.hid hn
            have HM := Lib.hid hmm
            have hn10 := ryB_le G0.out
            have hm10 := ryB_le G1.out
            rw [← hn] at hn10 ⊢
            rw [← hmm] at hm10 ⊢
            obtain ⟨j0, hj0, hy0, hy1, hy2⟩ := info_parts infoSl
            clear hn hmm
            go_wp2
            go_loopw [11, 43] (fun o i wr => ∃ (c : Nat) (P : VL), c ≤ n ∧ i = .int .i64 c ∧ Hid (LS wr w4.heap.size o P ∧ lls P = p2L (pmN a b x y c)) ∧ Hid (BkP wr NB (x, y)) ∧ Hid (Below w4.heap.size w4 wr)) (fun _ i _ => n - (intOf i).toNat)
            case atStart => exact ⟨0, [], by omega, rfl, Lib.hid ⟨LS.nil_ _ _, by rw [pmN_zero]; rfl⟩, HBX, Lib.hid (Below.refl _ _)⟩
            case round =>
              clear HBX
              obtain ⟨c, P, hc, rfl, hst, hbp, hb⟩ := hrel
              by_cases hlt : c < n
              · obtain ⟨wO, hwO⟩ : ∃ wO, wO = wr := ⟨_, rfl⟩
                rw [← hwO] at hst hb hbp ⊢
                clear hwO wr
                have hca : c < a.length := by rw [← HN.out]; exact hlt
                obtain ⟨g, rfl, hc0⟩ := HP1.out c hca
                have hx3 := X3.below hc0 (bel2 HBB.out hb.out)
                have hs := ryB_at G0.out hca
                obtain ⟨s, hse⟩ : ∃ s, s = td a c := ⟨_, rfl⟩
                rw [← hse] at hx3 hs
                have HSE := Lib.hid hse
                have HSR := Lib.hid hs
                have HK := Lib.hid (BkR.new wO s)
                have bA : Below wO.heap.size wO (wO.alloc (.cells #[.int .i64 s.1, .int .i64 s.2.1, .int .i64 s.2.2] 26)) := (Below.refl _ _).alloc (Nat.le_refl _) _
                have HS0 := Lib.hid (And.intro (hst.out.1.below bA) (show lls P = p2L (pmN a b x y c ++ pmJ a b x y c 0) by rw [pmJ_zero, List.append_nil]; exact hst.out.2))
                have HB0 := Lib.hid (bel2 hb.out bA)
                have HP0 := Lib.hid (hbp.out.below bA)
                obtain ⟨c0, c1', c2'⟩ := hx3
                have hgl : g < wO.heap.size := cell_lt c0
                clear hc0 hst hse hs bA hb hbp
                go_wp2
                go_loopw [11, 50] (fun o i wr => ∃ (k : Nat) (Q : VL), k ≤ m ∧ i = .int .i64 k ∧ Hid (LS wr w4.heap.size o Q ∧ lls Q = p2L (pmN a b x y c ++ pmJ a b x y c k)) ∧ Hid (BkR wr wO.heap.size s) ∧ Hid (BkP wr NB (x, y)) ∧ Hid (Below w4.heap.size w4 wr)) (fun _ i _ => m - (intOf i).toNat)
                case atStart => exact ⟨0, P, by omega, rfl, HS0, HK, HP0, HB0⟩
                case round =>
                  clear HS0 HK HB0 HP0 c0 c1' c2' hgl
                  obtain ⟨k, Q, hk, rfl, hst, hbk, hbp, hb⟩ := hrel
                  by_cases hltk : k < m
                  · have hkb : k < b.length := by rw [← HM.out]; exact hltk
                    obtain ⟨g2, rfl, hd0⟩ := HP2.out k hkb
                    have hx3 := X3.below hd0 (bel2 HBB.out hb.out)
                    have ht := ryB_at G1.out hkb
                    have HNX := Lib.hid (pmJ_next a b x y c k)
                    rw [← HSE.out] at HNX
                    obtain ⟨t, hte⟩ : ∃ t, t = td b k := ⟨_, rfl⟩
                    rw [← hte] at hx3 ht HNX
                    obtain ⟨wO', hwO'⟩ : ∃ wO', wO' = wr := ⟨_, rfl⟩
                    rw [← hwO'] at hst hb hbk hbp hx3 ⊢
                    clear hwO' wr
                    have bA : Below wO'.heap.size wO' (wO'.alloc (.cells #[.int .i64 t.1, .int .i64 t.2.1, .int .i64 t.2.2] 26)) := (Below.refl _ _).alloc (Nat.le_refl _) _
                    have HBA := Lib.hid bA
                    have HB := hb
                    have HST := Lib.hid hst.out
                    have HBK := Lib.hid hbk.out
                    have HBP := Lib.hid hbp.out
                    have HMT := Lib.hid (fun W => doMeet_any s t (x, y) W HSR.out ht G2.out)
                    obtain ⟨u, hu⟩ : ∃ u, u = meB s t x y := ⟨_, rfl⟩
                    have HMT := Lib.hid (fun W => show Calls Try.prog 58 #[tmV s, tmV t, ptV (x, y)] W fun e w' => e = .returned (.bool u) ∧ Gr W w' by rw [hu]; exact HMT.out W)
                    rw [← hu] at HNX
                    have tk := (hbk.out.below bA).t3
                    obtain ⟨a1, a2, a3⟩ := tk
                    have tn := (BkR.new wO' t).t3
                    obtain ⟨a4, a5, a6⟩ := tn
                    have tp := (hbp.out.below bA).p2
                    obtain ⟨a7, a8⟩ := tp
                    obtain ⟨d0, d1, d2⟩ := hx3
                    have hg2 : g2 < wO'.heap.size := cell_lt d0
                    have hg3 := cell_lt a1
                    have hg4 := cell_lt a4
                    have hg5 := cell_lt a7
                    have hszA : wO'.heap.size ≤ (wO'.alloc (.cells #[.int .i64 t.1, .int .i64 t.2.1, .int .i64 t.2.2] 26)).heap.size := bA.size
                    obtain ⟨t1, t2, t3⟩ := t
                    obtain ⟨s1, s2, s3⟩ := s
                    clear hd0 ht hte hu bA hst hbk hbp hb
                    dsimp only at a1 a2 a3 a4 a5 a6 a7 a8 d0 d1 d2 HMT HBK HBA hg3 hg4 hg5 hszA
                    go_wp2_with fail
                    refine (HMT.out _).mono ?_
                    rintro e w5 ⟨rfl, g5⟩
                    have b5 := bel2 HBA.out g5.below
                    have HB5 := Lib.hid (bel2 HB.out b5)
                    have HBK5 := Lib.hid (HBK.out.below b5)
                    have HBP5 := Lib.hid (HBP.out.below b5)
                    have hLS5 := HST.out.1.below b5
                    have hs5 := b5.size
                    clear a1 a2 a3 a4 a5 a6 a7 a8 d0 d1 d2 hg2 hg3 hg4 hg5 hszA g5 HMT HBA
                    cases u
                    · have HS7 := Lib.hid (And.intro hLS5 (show lls Q = p2L (pmN a b x y c ++ pmJ a b x y c (k + 1)) by rw [HNX.out, if_neg (by simp), List.append_nil]; exact HST.out.2))
                      clear hLS5 b5 hs5 HST
                      go_wp2
                      go_roundw
                      case rel => exact ⟨k + 1, Q, by omega, by go_num, HS7, HBK5, HBP5, HB5⟩
                      case measure => simp [intOf]; omega
                    · obtain ⟨nq, hnq⟩ : ∃ nq, nq = Q.length := ⟨_, rfl⟩
                      have HNQ := Lib.hid hnq
                      have hnq2 : nq ≤ 200 := by
                        have q1 := pmN_len (a := a) (b := b) x y c
                        have q2 := pmJ_len a b x y c k
                        have q3 := Nat.mul_le_mul (show c ≤ 10 by omega) (show b.length ≤ 10 by rw [← HM.out]; exact hm10)
                        rw [hnq, ← lls_len, HST.out.2, p2L_len, List.length_append]; omega
                      have hI := two_newM w5 (c : Int) (k : Int)
                      have bI : Below w5.heap.size w5 (w5.alloc (.cells #[.int .i64 (c : Int), .int .i64 (k : Int)] 3)) := (Below.refl _ _).alloc (Nat.le_refl _) _
                      obtain ⟨w6, hw6⟩ : ∃ w6, w6 = w5.alloc (.cells #[.int .i64 (c : Int), .int .i64 (k : Int)] 3) := ⟨_, rfl⟩
                      rw [← hw6] at hI bI
                      have bJ : Below w6.heap.size w6 (w6.alloc (.cells #[.slice (some ⟨w5.heap.size, 0, none⟩) 2 2] 71)) := (Below.refl _ _).alloc (Nat.le_refl _) _
                      have HW6 := Lib.hid hw6
                      have HX6 := Lib.hid ((hI.base hs5).below bJ)
                      have HB6 := Lib.hid (bel2 (bel2 b5 bI) bJ)
                      have HNW := Lib.hid (oneS_news (litS_new2 w5 (.cells #[.int .i64 (c : Int), .int .i64 (k : Int)] 3) (.slice (some ⟨w5.heap.size, 0, none⟩) 2 2)))
                      have hrow6 := (HST.out.1.below HB6.out).1
                      have hbk6 := HBK.out.below HB6.out
                      have hbp6 := HBP.out.below HB6.out
                      have hbk7 := Lib.hid (fun (w7 : World) (hg : _) => BkR.grown (w' := w7) hbk6 hrow6 hg)
                      have hbp7 := Lib.hid (fun (w7 : World) (hg : _) => BkP.grown (w' := w7) hbp6 hrow6 hg)
                      rw [← hnq] at hrow6
                      have hs6 := Nat.le_trans HB.out.size HB6.out.size
                      rw [hw6] at hrow6 hs6
                      clear hI bI bJ hbk6 hbp6 hLS5 b5 hs5 hnq hw6
                      go_wp2_with (at_builtin; refine wpList_append_own _ rfl _ _ 35 rfl w4.heap.size 71 j0 (.slice none 0 0) 1 24 Try.underlying35 hj0 hy0 hy1 hy2 rfl (by decide) _ nq _ rfl hrow6 ⟨w5.heap.size + 1, 0, none⟩ 1 1 [.slice (some ⟨w5.heap.size, 0, none⟩) 2 2] rfl rfl HNW.out (by simp [Value.oneCell']) (by unfold maxLen; omega) (by omega) hs6 ?_; intro v7 w7 hown7 hgrow7 hnil7)
                      rw [← HW6.out] at hgrow7
                      have hLS7 := ls_push HST.out.1 HB6.out HB.out.size HX6.out (by rw [← HNQ.out]; exact hown7) hgrow7
                      have HL7 := Lib.hid (And.intro hLS7 (show lls (Q ++ [(.slice (some ⟨w5.heap.size, 0, none⟩) 2 2, [(c : Int), (k : Int)])]) = p2L (pmN a b x y c ++ pmJ a b x y c (k + 1)) by
                        rw [HNX.out, if_pos trivial, ← List.append_assoc, p2L_app, ← HST.out.2]; simp [lls, p2L]))
                      have HK7 := Lib.hid (hbk7.out w7 hgrow7)
                      have HP7 := Lib.hid (hbp7.out w7 hgrow7)
                      have hb7 := Lib.hid (show Below w4.heap.size w4 w7 from (bel2 HB.out HB6.out).grown hgrow7 (bel2 HB.out HB6.out).size (fun q hq => (World.ownsRow.lt HST.out.1.1 q hq).1))
                      clear hown7 hgrow7 hnil7 hLS7 hrow6
                      go_wp2
                      go_roundw
                      case rel => exact ⟨k + 1, _, by omega, by go_num, HL7, HK7, HP7, hb7⟩
                      case measure => simp [intOf]; omega
                  · obtain rfl : k = m := by omega
                    have HS7 := Lib.hid (And.intro hst.out.1 (show lls Q = p2L (pmN a b x y (c + 1)) by rw [hst.out.2, pmN_next, HM.out, pmJ_all]))
                    clear hst
                    go_wp2
                    go_roundw
                    case rel => exact ⟨c + 1, Q, by omega, by go_num, HS7, hbp, hb⟩
                    case measure => simp [intOf]; omega
              · obtain rfl : c = n := by omega
                have HA := Lib.hid (asB_yes G0.out G1.out G2.out G3.out G4.out)
                have hL := hst.out.1.base HBB.out.size
                have hE := bel2 HBB.out hb.out
                have hl := hst.out.2
                rw [HN.out] at hl
                go_wp2
                go_ret2
                rw [HA.out]
                exact ⟨_, P, rfl, hL, by rw [mpR_yes HA.out]; exact hl, hE⟩
end Go.Proofs.Ytijmnbgmpakllaa

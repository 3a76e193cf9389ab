import Derived.Test.YtijmnbgmpakllaaMeS
import Derived.Test.YtijmnbgmpakllaaSl
/-
  The pairs of rays that meet, the sums of their multiplicities, counts and degrees of stars, in the model.
  Condition: the slices read as the lists that are named.
-/
namespace Go.Proofs.Ytijmnbgmpakllaa
set_option linter.unusedSimpArgs false
set_option linter.unusedVariables false
open Go.ChangeShapes Go.WideShapes Go.ChangeAt Go.RowKit
open Go.Sort (grow)

/-- Pairs of places as lists. -/
def p2L (L : List (Nat × Nat)) : List (List Int) := L.map fun p => [(p.1 : Int), (p.2 : Int)]
theorem p2L_app (L M : List (Nat × Nat)) : p2L (L ++ M) = p2L L ++ p2L M := by simp [p2L]
theorem p2L_len (L : List (Nat × Nat)) : (p2L L).length = L.length := by simp [p2L]
/-- A ray's box. -/
def BkR (w : World) (g : Nat) (t : Tm) : Prop := w.heap[g]? = some (.cells #[.int .i64 t.1, .int .i64 t.2.1, .int .i64 t.2.2] 26 (0, 0))
theorem BkR.new (w : World) (t : Tm) : BkR (w.alloc (.cells #[.int .i64 t.1, .int .i64 t.2.1, .int .i64 t.2.2] 26)) w.heap.size t := heap_alloc_new w _
theorem BkR.below {w w' : World} {g : Nat} {t : Tm} (h : BkR w g t) (hb : Below w.heap.size w w') : BkR w' g t := (hb.block g (Array.getElem?_eq_some_iff.1 h).1).trans h
theorem BkR.t3 {w : World} {g : Nat} {t : Tm} (h : BkR w g t) : T3 w g t := by
  unfold BkR at h
  refine ⟨?_, ?_, ?_⟩ <;> simp [World.cell?, h]
theorem BkR.lt {w : World} {g : Nat} {t : Tm} (h : BkR w g t) : g < w.heap.size := (Array.getElem?_eq_some_iff.1 h).1
/-- A row of lists lies elsewhere. -/
theorem BkR.grown {w w' : World} {g B n : Nat} {t : Tm} {o : Value} {xs : List Value} (h : BkR w g t) (hr : w.ownsRow B 71 1 o n xs) (hg : w.grownBy w' o.ownBlock) : BkR w' g t := by
  refine (hg.block g h.lt fun e => ?_).trans h
  rcases hr.2 with ⟨rfl, -⟩ | ⟨g', cap', cur, rfl, hB, hh, -⟩
  · cases e
  · have e1 : g = g' := by simpa [Value.ownBlock] using e
    subst e1
    unfold BkR at h
    rw [hh] at h
    simp at h
theorem two_newM (w : World) (a b : Int) : IS (w.alloc (.cells #[.int .i64 a, .int .i64 b] 3)) w.heap.size (.slice (some ⟨w.heap.size, 0, none⟩) 2 2) [a, b] :=
  World.ownsRow_lit w #[.int .i64 a, .int .i64 b] 2 (Nat.le_refl _) (by decide) rfl
set_option maxHeartbeats 4000000 in
set_option maxRecDepth 100000 in
theorem mtPairs_any (w : World) (B1 B2 : Nat) (v1 v2 : Value) (a b : List Tm) (x y : Int) (h1 : RyS w B1 v1 a) (h2 : RyS w B2 v2 b) (ha : ryB a = true) (hb : ryB b = true) (hm : mvM x y = true) : Calls Try.prog 60 #[v1, v2, .int .i64 x, .int .i64 y] w fun e w' => GivesL (p2L (pmA a b x y)) w e w' := by
  obtain ⟨A1, c1, rfl, hm1, hp1⟩ := RyS.parts h1
  obtain ⟨A2, c2, rfl, hm2, hp2⟩ := RyS.parts h2
  have HP1 := Lib.hid hp1
  have HP2 := Lib.hid hp2
  obtain ⟨n, hn⟩ : ∃ n, n = a.length := ⟨_, rfl⟩
  obtain ⟨m, hmm⟩ : ∃ m, m = b.length := ⟨_, rfl⟩
  have HN := Lib.hid hn
  have HM := Lib.hid hmm
  have hn10 := ryB_le ha
  have hm10 := ryB_le hb
  have HA := Lib.hid ha
  have HBB := Lib.hid hb
  have HMV := Lib.hid hm
  rw [← hn] at hn10 ⊢
  rw [← hmm] at hm10 ⊢
  obtain ⟨j0, hj0, hy0, hy1, hy2⟩ := info_parts infoSl
  clear h1 h2 ha hb hm hp1 hp2 hn hmm hm1 hm2
  go_enter Try.func60, Try.ntmps60
  go_wp2
  go_loopw [9, 16] (fun o i wr => ∃ (c : Nat) (P : VL), c ≤ n ∧ i = .int .i64 c ∧ Hid (LS wr w.heap.size o P ∧ lls P = p2L (pmN a b x y c)) ∧ Below w.heap.size w wr) (fun _ i _ => n - (intOf i).toNat)
  case atStart => exact ⟨0, [], by omega, rfl, Lib.hid ⟨LS.nil_ _ _, by rw [pmN_zero]; rfl⟩, Below.refl _ _⟩
  case round =>
    obtain ⟨c, P, hc, rfl, hst, hb⟩ := hrel
    by_cases hlt : c < n
    · obtain ⟨wO, hwO⟩ : ∃ wO, wO = wr := ⟨_, rfl⟩
      rw [← hwO] at hst hb ⊢
      clear hwO wr
      have hca : c < a.length := by rw [← HN.out]; exact hlt
      obtain ⟨g, rfl, hc0⟩ := HP1.out c hca
      have hx3 := X3.below hc0 hb
      have hs := ryB_at HA.out hca
      obtain ⟨s, hse⟩ : ∃ s, s = td a c := ⟨_, rfl⟩
      rw [← hse] at hx3 hs
      have HSE := Lib.hid hse
      have HSR := Lib.hid hs
      have HK := Lib.hid (BkR.new wO s)
      have bA : Below wO.heap.size wO (wO.alloc (.cells #[.int .i64 s.1, .int .i64 s.2.1, .int .i64 s.2.2] 26)) := (Below.refl _ _).alloc (Nat.le_refl _) _
      have HS0 := Lib.hid (And.intro (hst.out.1.below bA) (show lls P = p2L (pmN a b x y c ++ pmJ a b x y c 0) by rw [pmJ_zero, List.append_nil]; exact hst.out.2))
      have HB0 := Lib.hid (bel2 hb bA)
      obtain ⟨c0, c1', c2'⟩ := hx3
      have hgl : g < wO.heap.size := cell_lt c0
      clear hc0 hst hse hs bA hb
      go_wp2
      go_loopw [9, 23] (fun o i wr => ∃ (k : Nat) (Q : VL), k ≤ m ∧ i = .int .i64 k ∧ Hid (LS wr w.heap.size o Q ∧ lls Q = p2L (pmN a b x y c ++ pmJ a b x y c k)) ∧ Hid (BkR wr wO.heap.size s) ∧ Below w.heap.size w wr) (fun _ i _ => m - (intOf i).toNat)
      case atStart => exact ⟨0, P, by omega, rfl, HS0, HK, HB0.out⟩
      case round =>
        clear HS0 HK HB0 c0 c1' c2' hgl
        obtain ⟨k, Q, hk, rfl, hst, hbk, hb⟩ := hrel
        by_cases hltk : k < m
        · have hkb : k < b.length := by rw [← HM.out]; exact hltk
          obtain ⟨g2, rfl, hd0⟩ := HP2.out k hkb
          have hx3 := X3.below hd0 hb
          have ht := ryB_at HBB.out hkb
          have HNX := Lib.hid (pmJ_next a b x y c k)
          rw [← HSE.out] at HNX
          obtain ⟨t, hte⟩ : ∃ t, t = td b k := ⟨_, rfl⟩
          rw [← hte] at hx3 ht HNX
          obtain ⟨wO', hwO'⟩ : ∃ wO', wO' = wr := ⟨_, rfl⟩
          rw [← hwO'] at hst hb hbk hx3 ⊢
          clear hwO' wr
          have bA : Below wO'.heap.size wO' (wO'.alloc (.cells #[.int .i64 t.1, .int .i64 t.2.1, .int .i64 t.2.2] 26)) := (Below.refl _ _).alloc (Nat.le_refl _) _
          have HBA := Lib.hid bA
          have HB := Lib.hid hb
          have HST := Lib.hid hst.out
          have HBK := Lib.hid hbk.out
          have HMT := Lib.hid (fun W => mtMeets_any s t x y W HSR.out ht HMV.out)
          obtain ⟨u, hu⟩ : ∃ u, u = meB s t x y := ⟨_, rfl⟩
          rw [← hu] at HMT HNX
          have tk := (hbk.out.below bA).t3
          obtain ⟨a1, a2, a3⟩ := tk
          have tn := (BkR.new wO' t).t3
          obtain ⟨a4, a5, a6⟩ := tn
          obtain ⟨d0, d1, d2⟩ := hx3
          have hg2 : g2 < wO'.heap.size := cell_lt d0
          have hg3 := cell_lt a1
          have hg4 := cell_lt a4
          have hszA : wO'.heap.size ≤ (wO'.alloc (.cells #[.int .i64 t.1, .int .i64 t.2.1, .int .i64 t.2.2] 26)).heap.size := bA.size
          obtain ⟨t1, t2, t3⟩ := t
          obtain ⟨s1, s2, s3⟩ := s
          clear hd0 ht hte hu bA hst hbk hb
          dsimp only at a1 a2 a3 a4 a5 a6 d0 d1 d2 HMT HBK HBA hg3 hg4 hszA
          go_wp2_with fail
          refine (HMT.out _).mono ?_
          rintro e w5 ⟨rfl, g5⟩
          have b5 := bel2 HBA.out g5.below
          have HB5 := Lib.hid (bel2 HB.out b5)
          have HBK5 := Lib.hid (HBK.out.below b5)
          have hLS5 := HST.out.1.below b5
          have hs5 := b5.size
          clear a1 a2 a3 a4 a5 a6 d0 d1 d2 hg2 hg3 hg4 hszA g5 HMT HBA
          cases u
          · have HS7 := Lib.hid (And.intro hLS5 (show lls Q = p2L (pmN a b x y c ++ pmJ a b x y c (k + 1)) by rw [HNX.out, if_neg (by simp), List.append_nil]; exact HST.out.2))
            have hb5 := HB5.out
            clear hLS5 b5 hs5 HST
            go_wp2
            go_roundw
            case rel => exact ⟨k + 1, Q, by omega, by go_num, HS7, HBK5, hb5⟩
            case measure => simp [intOf]; omega
          · obtain ⟨nq, hnq⟩ : ∃ nq, nq = Q.length := ⟨_, rfl⟩
            have HNQ := Lib.hid hnq
            have hnq2 : nq ≤ 200 := by
              have q1 := pmN_len (a := a) (b := b) x y c
              have q2 := pmJ_len a b x y c k
              have q3 := Nat.mul_le_mul (show c ≤ 10 by omega) (show b.length ≤ 10 by rw [← HM.out]; exact hm10)
              rw [hnq, ← lls_len, HST.out.2, p2L_len, List.length_append]; omega
            have hI := two_newM w5 (c : Int) (k : Int)
            have bI : Below w5.heap.size w5 (w5.alloc (.cells #[.int .i64 (c : Int), .int .i64 (k : Int)] 3)) := (Below.refl _ _).alloc (Nat.le_refl _) _
            obtain ⟨w6, hw6⟩ : ∃ w6, w6 = w5.alloc (.cells #[.int .i64 (c : Int), .int .i64 (k : Int)] 3) := ⟨_, rfl⟩
            rw [← hw6] at hI bI
            have bJ : Below w6.heap.size w6 (w6.alloc (.cells #[.slice (some ⟨w5.heap.size, 0, none⟩) 2 2] 71)) := (Below.refl _ _).alloc (Nat.le_refl _) _
            have HW6 := Lib.hid hw6
            have HX6 := Lib.hid ((hI.base hs5).below bJ)
            have HB6 := Lib.hid (bel2 (bel2 b5 bI) bJ)
            have HNW := Lib.hid (oneS_news (litS_new2 w5 (.cells #[.int .i64 (c : Int), .int .i64 (k : Int)] 3) (.slice (some ⟨w5.heap.size, 0, none⟩) 2 2)))
            have hrow6 := (HST.out.1.below HB6.out).1
            have hbk6 := HBK.out.below HB6.out
            have hbk7 := Lib.hid (fun (w7 : World) (hg : _) => BkR.grown (w' := w7) hbk6 hrow6 hg)
            rw [← hnq] at hrow6
            have hs6 := Nat.le_trans HB.out.size HB6.out.size
            rw [hw6] at hrow6 hs6
            clear hI bI bJ hbk6 hLS5 b5 hs5 hnq hw6
            go_wp2_with (at_builtin; refine wpList_append_own _ rfl _ _ 35 rfl w.heap.size 71 j0 (.slice none 0 0) 1 24 Try.underlying35 hj0 hy0 hy1 hy2 rfl (by decide) _ nq _ rfl hrow6 ⟨w5.heap.size + 1, 0, none⟩ 1 1 [.slice (some ⟨w5.heap.size, 0, none⟩) 2 2] rfl rfl HNW.out (by simp [Value.oneCell']) (by unfold maxLen; omega) (by omega) hs6 ?_; intro v7 w7 hown7 hgrow7 hnil7)
            rw [← HW6.out] at hgrow7
            have hLS7 := ls_push HST.out.1 HB6.out HB.out.size HX6.out (by rw [← HNQ.out]; exact hown7) hgrow7
            have HL7 := Lib.hid (And.intro hLS7 (show lls (Q ++ [(.slice (some ⟨w5.heap.size, 0, none⟩) 2 2, [(c : Int), (k : Int)])]) = p2L (pmN a b x y c ++ pmJ a b x y c (k + 1)) by
              rw [HNX.out, if_pos trivial, ← List.append_assoc, p2L_app, ← HST.out.2]; simp [lls, p2L]))
            have HK7 := Lib.hid (hbk7.out w7 hgrow7)
            have hb7 : Below w.heap.size w w7 := (bel2 HB.out HB6.out).grown hgrow7 (bel2 HB.out HB6.out).size (fun q hq => (World.ownsRow.lt HST.out.1.1 q hq).1)
            clear hown7 hgrow7 hnil7 hLS7 hrow6
            go_wp2
            go_roundw
            case rel => exact ⟨k + 1, _, by omega, by go_num, HL7, HK7, hb7⟩
            case measure => simp [intOf]; omega
        · obtain rfl : k = m := by omega
          have HS7 := Lib.hid (And.intro hst.out.1 (show lls Q = p2L (pmN a b x y (c + 1)) by rw [hst.out.2, pmN_next, HM.out, pmJ_all]))
          clear hst
          go_wp2
          go_roundw
          case rel => exact ⟨c + 1, Q, by omega, by go_num, HS7, hb⟩
          case measure => simp [intOf]; omega
    · obtain rfl : c = n := by omega
      go_wp2
      go_ret
      exact ⟨_, P, rfl, hst.out.1, by rw [hst.out.2, HN.out]; rfl, hb⟩
def mpR (a b : List Tm) (x y : Int) : List (List Int) := if asB a b x y = true then p2L (pmA a b x y) else []
theorem mpR_yes {a b : List Tm} {x y : Int} (h : asB a b x y = true) : mpR a b x y = p2L (pmA a b x y) := if_pos h
theorem mpR_no {a b : List Tm} {x y : Int} (h : asB a b x y = false) : mpR a b x y = [] := if_neg (by simp [h])
theorem specMeetingPairs_any (w : World) (B1 B2 : Nat) (v1 v2 : Value) (a b : List Tm) (x y : Int) (h1 : RyS w B1 v1 a) (h2 : RyS w B2 v2 b) : Calls Try.prog 22 #[v1, v2, .int .i64 x, .int .i64 y] w fun e w' => GivesLB (asB a b x y) (mpR a b x y) w e w' := by
  cases hl : asB a b x y
  · have HL := Lib.hid hl
    clear hl
    go_enter Try.func22, Try.ntmps22
    go_wp2_with fail
    refine (mtAsked_any _ B1 B2 _ _ a b x y h1 h2).mono ?_
    rintro e w1 ⟨rfl, b1⟩
    rw [HL.out]
    go_wp2
    go_ret2
    exact givesLB_nil rfl (mpR_no HL.out) b1
  · have HL := Lib.hid hl
    clear hl
    go_enter Try.func22, Try.ntmps22
    go_wp2_with fail
    refine (mtAsked_any _ B1 B2 _ _ a b x y h1 h2).mono ?_
    rintro e w1 ⟨rfl, b1⟩
    rw [HL.out]
    obtain ⟨q1, q2, q3, -, -⟩ := asB_parts HL.out
    go_wp2_with fail
    refine (mtPairs_any w1 B1 B2 _ _ a b x y (FS.below h1 b1) (FS.below h2 b1) q1 q2 q3).mono ?_
    rintro e w2 ⟨r, P, rfl, hP, eP, b2⟩
    have hP' := hP.base b1.size
    have hb := bel2 b1 b2
    have HE := Lib.hid (show lls P = mpR a b x y by rw [mpR_yes HL.out]; exact eP)
    clear q1 q2 q3 h1 h2 b1 b2 hP eP
    go_wp2
    go_ret2
    exact ⟨_, P, rfl, hP', HE.out, hb⟩
theorem suP_next {a b : List Tm} {L : List (Nat × Nat)} {j : Nat} (hj : j < L.length) : suP a b (L.take (j + 1)) = suP a b (L.take j) + muR (td a (L[j]).1) (td b (L[j]).2) := by
  rw [List.take_add_one, List.getElem?_eq_getElem hj, suP_app]
  simp [suP]
set_option maxHeartbeats 2000000 in
set_option maxRecDepth 100000 in
theorem mtSum_any (w : World) (B1 B2 : Nat) (v1 v2 : Value) (a b : List Tm) (x y : Int) (h1 : RyS w B1 v1 a) (h2 : RyS w B2 v2 b) (ha : ryB a = true) (hb : ryB b = true) (hm : mvM x y = true) : Calls Try.prog 67 #[v1, v2, .int .i64 x, .int .i64 y] w fun e w' => e = .returned (.int .i64 (meS a b x y)) ∧ Below w.heap.size w w' := by
  have HPR := Lib.hid (mtPairs_any w B1 B2 v1 v2 a b x y h1 h2 ha hb hm)
  obtain ⟨A1, c1, rfl, hm1, hp1⟩ := RyS.parts h1
  obtain ⟨A2, c2, rfl, hm2, hp2⟩ := RyS.parts h2
  have HP1 := Lib.hid hp1
  have HP2 := Lib.hid hp2
  obtain ⟨n, hn⟩ : ∃ n, n = a.length := ⟨_, rfl⟩
  obtain ⟨m, hmm⟩ : ∃ m, m = b.length := ⟨_, rfl⟩
  have HN := Lib.hid hn
  have HM := Lib.hid hmm
  have HA := Lib.hid ha
  have HBB := Lib.hid hb
  rw [← hn] at HPR hm1 ⊢
  rw [← hmm] at HPR hm2 ⊢
  have hn10 : n ≤ 10 := by rw [hn]; exact ryB_le ha
  have hm10 : m ≤ 10 := by rw [hmm]; exact ryB_le hb
  clear h1 h2 ha hb hm hp1 hp2 hn hmm hm1 hm2
  obtain ⟨L, hL⟩ : ∃ L, L = pmA a b x y := ⟨_, rfl⟩
  have HMEM := Lib.hid (show ∀ p ∈ L, p.1 < a.length ∧ p.2 < b.length from fun p hp => by
    rw [hL] at hp
    obtain ⟨q1, q2, -⟩ := pmN_mem.1 hp
    exact ⟨q1, q2⟩)
  have HLEN := Lib.hid (show L.length ≤ 100 from by
    rw [hL]
    exact Nat.le_trans (pmN_len x y a.length) (Nat.mul_le_mul (ryB_le HA.out) (ryB_le HBB.out)))
  unfold meS
  rw [← hL] at HPR ⊢
  clear hL
  go_enter Try.func67, Try.ntmps67
  go_wp2_with fail
  refine HPR.out.mono ?_
  rintro e w2 ⟨r, R, rfl, hR, eR, b2⟩
  obtain ⟨AR, capR, rfl, -, hpr⟩ := hR.parts
  have HPP := Lib.hid hpr
  have HV := Lib.hid hR.2
  have HER := Lib.hid eR
  have HB2 := Lib.hid b2
  obtain ⟨np, hnp⟩ : ∃ np, np = R.length := ⟨_, rfl⟩
  have hnl : np = L.length := by rw [hnp, ← lls_len, eR, p2L_len]
  have hnp100 : np ≤ 100 := by rw [hnl]; exact HLEN.out
  have HNP := Lib.hid hnp
  have HNL := Lib.hid hnl
  rw [← hnp]
  clear hR eR hpr b2 hnp hnl HPR
  go_wp2
  go_loopw [9, 18] (fun s i wr => ∃ j : Nat, j ≤ np ∧ s = .int .i64 (suP a b (L.take j)) ∧ i = .int .i64 j ∧ Below w2.heap.size w2 wr) (fun _ i _ => np - (intOf i).toNat)
  case atStart => exact ⟨0, by omega, rfl, rfl, Below.refl _ _⟩
  case round =>
    obtain ⟨j, hj, rfl, rfl, hb⟩ := hrel
    by_cases hlt : j < np
    · have hjl : j < L.length := by rw [← HNL.out]; exact hlt
      have hjr : j < R.length := by rw [← HNP.out]; exact hlt
      have HNX := Lib.hid (suP_next (a := a) (b := b) hjl)
      obtain ⟨p, hp⟩ : ∃ p, p = L[j] := ⟨_, rfl⟩
      have hpm : p ∈ L := by rw [hp]; exact List.getElem_mem hjl
      rw [← hp] at HNX
      have hpl : pll R j = [(p.1 : Int), (p.2 : Int)] := by
        have e1 : (lls R)[j]? = some (pll R j) := lls_at hjr
        rw [HER.out] at e1
        unfold p2L at e1
        rw [List.getElem?_map, List.getElem?_eq_getElem hjl, ← hp] at e1
        exact (Option.some.inj e1).symm
      obtain ⟨hp1, hp2⟩ := HMEM.out p hpm
      obtain ⟨s1, s2⟩ := suP_bd HA.out HBB.out (L.take j) fun q hq => HMEM.out q (List.mem_of_mem_take hq)
      have s3 : (L.take j).length ≤ 100 := Nat.le_trans (List.length_take_le _ _) (by omega)
      obtain ⟨-, m1, m2⟩ := mu_bd (ryB_at HA.out hp1) (ryB_at HBB.out hp2)
      have HT := Lib.hid (fun W => mtTwo_any (td a p.1) (td b p.2) W (ryB_at HA.out hp1) (ryB_at HBB.out hp2))
      obtain ⟨g1, rfl, hx1⟩ := HP1.out p.1 hp1
      obtain ⟨g2, rfl, hx2⟩ := HP2.out p.2 hp2
      have hbw := bel2 HB2.out hb
      have y1 := X3.below hx1 hbw
      have y2 := X3.below hx2 hbw
      obtain ⟨gR, rfl, hc0⟩ := HPP.out j hjr
      have hc1 := X3.below.box_old3 hc0 hb
      have his := (HV.out.at hjr).below hb
      rw [hpl] at his
      obtain ⟨sv, hsv⟩ : ∃ sv, sv = pvl R j := ⟨_, rfl⟩
      rw [← hsv] at hc1 his
      obtain ⟨As, cs, rfl, -, hps⟩ := his.parts
      obtain ⟨gs, rfl, z0⟩ := hps 0 (by simp)
      obtain ⟨gs', hgs, z1⟩ := hps 1 (by simp)
      cases hgs
      rw [show ([(p.1 : Int), (p.2 : Int)] : List Int).length = 2 from rfl] at hc1
      have d0 : wr.cell? ⟨gs, 0, none⟩ = some (.int .i64 (p.1 : Int)) := z0
      have d1 : wr.cell? ⟨gs, 1, none⟩ = some (.int .i64 (p.2 : Int)) := z1
      have hi1 : p.1 < n := by rw [HN.out]; exact hp1
      have hi2 : p.2 < m := by rw [HM.out]; exact hp2
      have hj1 : (p.1 : Int) < (n : Int) := by omega
      have hj2 : (p.2 : Int) < (m : Int) := by omega
      obtain ⟨S, hS⟩ : ∃ S, S = suP a b (L.take j) := ⟨_, rfl⟩
      obtain ⟨M, hM⟩ : ∃ M, M = muR (td a p.1) (td b p.2) := ⟨_, rfl⟩
      rw [← hS] at s1 s2 HNX ⊢
      rw [← hM] at m1 m2 HT HNX
      have q1 : IntKind.i64.wrap (S + M) = S + M := IntWalk.i64_in _ (by omega)
      obtain ⟨i1, i2⟩ := p
      dsimp only at *
      generalize td a i1 = t1 at y1 HT
      generalize td b i2 = t2 at y2 HT
      obtain ⟨u0, u1, u2⟩ := X3.grown y1
      obtain ⟨r0, r1, r2⟩ := X3.grown y2
      have k0 := cell_grown (cell_lt d0) d0
      have k1 := cell_grown (cell_lt d1) d1
      have hlR : gR < wr.heap.size := cell_lt hc1
      have hls : gs < wr.heap.size := cell_lt d0
      have hl1 : g1 < wr.heap.size := cell_lt y1.1
      have hl2 : g2 < wr.heap.size := cell_lt y2.1
      have HB := Lib.hid hb
      clear hx1 hx2 hbw hc0 his hsv hps z0 z1 hpl hpm hp hp1 hp2 s1 s2 s3 m1 m2 hS hM hb y1 y2
      go_wp2
      refine wp_region_quiet_grown (by kernel_rfl) (by kernel_rfl) ?_
      repeat (go_big_quiet_step ((go_at_call 49; refine Calls.grown_of (HT.out _))))
      refine wpQuiet_nil ?_
      intro _ hw'
      obtain ⟨⟨nq, osq⟩, hw''⟩ := hw'
      subst hw''
      have hbn := bel2 HB.out (grB nq osq)
      go_wp2
      go_roundw
      case rel => exact ⟨j + 1, by omega, by rw [HNX.out], by go_num, hbn⟩
      case measure => simp [intOf]; omega
    · obtain rfl : j = np := by omega
      have hall : L.take j = L := List.take_of_length_le (by rw [← HNL.out]; exact Nat.le_refl _)
      rw [hall]
      have hbz := bel2 HB2.out hb
      go_wp2
      go_ret
      exact ⟨rfl, hbz⟩
end Go.Proofs.Ytijmnbgmpakllaa

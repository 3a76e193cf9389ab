/-
  ParseStar of the model: what the call returns.
  Conditions: the text is shorter than a thousand million bytes.
-/
import Derived.Test.YthegkifhbgopoaaDoorStPI
import Derived.Test.YthegkifhbgopoaaDoorPlRd
namespace Go.Proofs.YthegkifhbgopoaaDoor
set_option linter.unusedSimpArgs false
set_option linter.unusedVariables false
open Go.ChangeShapes Go.WideShapes Go.ChangeAt Go.RowKit

theorem pc_no1 {l : List UInt8} (h : ¬ (pcW l).length = 2) : pcOk l = false := by unfold pcOk; simp [h]
theorem pc_no2 {l : List UInt8} (h : ¬ (pcU l).length = 2) : pcOk l = false := by unfold pcOk; simp [h]
theorem pc_no3 {l : List UInt8} (h : okPs ((pcU l).getD 0 []) = false) : pcOk l = false := by unfold pcOk; rw [h]; simp
theorem pc_no4 {l : List UInt8} (h : okPs ((pcU l).getD 1 []) = false) : pcOk l = false := by unfold pcOk; rw [h]; simp
set_option maxHeartbeats 1000000 in
set_option maxRecDepth 100000 in
theorem specParseStar_any (s : ByteArray) (w : World) (hs : s.size ≤ 1000000000) : Calls Tryd.prog 10 #[.string s] w fun e w' => GivesRyB (plpB s.data.toList) (plpR s.data.toList) w e w' := by
  obtain ⟨i0, hi, hz0, hz1, hz2⟩ := info_parts infoRay
  go_enter Tryd.func10, Tryd.ntmps10
  go_wp2_with fail
  refine (l1Split_any s 59 _ hs).mono ?_
  rintro e w1 ⟨v, ps, rfl, hts, hps, b1⟩
  have HB1 := Lib.hid b1
  have HSZ := Lib.hid (pc_sizes hps)
  have hlen : ps.length = (pieces9 s.data.toList).length := by have := congrArg List.length hps; rwa [List.length_map] at this
  obtain ⟨qs, q, h1, -⟩ := spB_back (b := 59) (i := 59) rfl s.data.toList []
  have hpq := hps.trans h1
  have hl2 := pc_len hpq
  have h9 : pcs s.data.toList = qs := by unfold pcs pieces9; rw [h1, List.dropLast_concat]
  obtain ⟨g, cap, rfl, hcap, -, hpt⟩ := TS.own hts (by omega)
  have HP := Lib.hid hpt
  have HAT := Lib.hid (show ∀ k (hk : k < qs.length) (hk' : k < ps.length), ps[k].data.toList = qs[k] from fun k hk hk' => pc_at hpq k hk hk')
  have HBAD := Lib.hid (show ∀ k (hk : k < qs.length), pcOk qs[k] = false → plpB s.data.toList = false from fun k hk ho => plp_pc (by rw [h9]; exact List.getElem_mem hk) ho)
  have HEND := Lib.hid (show plpB s.data.toList = (ryB (qs.map pcV) && decide (txA (qs.map pcV) = s.data.toList)) ∧ plpR s.data.toList = if plpB s.data.toList = true then qs.map pcV else [] from ⟨by unfold plpB; rw [h9], by unfold plpR; rw [h9]⟩)
  have HLONG := Lib.hid (show 11 < ps.length → plpB s.data.toList = false from fun h => plp_long (by omega))
  obtain ⟨m, hm⟩ : ∃ m, qs.length = m := ⟨_, rfl⟩
  obtain ⟨N, hN⟩ : ∃ N, ps.length = N := ⟨_, rfl⟩
  have HML := Lib.hid hm
  have HNL := Lib.hid hN
  rw [hN] at hcap ⊢
  have hNm : N = m + 1 := by omega
  clear hts hps hlen h1 hpq hl2 h9 hpt hm hN b1
  by_cases h13 : N ≤ 11
  · have q1 : IntKind.i64.wrap ((N : Int) - 1) = (m : Int) := by rw [IntWalk.i64_in _ (by omega)]; omega
    have l1 : m < N := by omega
    have z1 : (m : Int) < (N : Int) := by omega
    have z2 : (0 : Int) ≤ (m : Int) := by omega
    have z3 : (m : Int) ≤ (cap : Int) := by omega
    have l3 : m ≤ cap := by omega
    have l4 : ¬ cap = 0 := by omega
    have z5 : ¬ (11 : Int) < (N : Int) := by omega
    have HNM := Lib.hid hNm
    clear hNm
    go_wp2
    clear q1
    go_loopw [5, 25] (fun o i wr => ∃ k : Nat, k ≤ m ∧ i = .int .i64 k ∧ FS 37 3 wr w1.heap.size o k (flatT ((qs.map pcV).take k)) ∧ Below w1.heap.size w1 wr) (fun _ i _ => m - (intOf i).toNat)
    case atStart => exact ⟨0, by omega, rfl, FS.nil_ _ _ _ _, Below.refl _ _⟩
    case round =>
      obtain ⟨k, hk, rfl, ho, hb⟩ := hrel
      by_cases hlt : k < m
      · have hc0 := HP.out k (by rw [HNL.out]; omega)
        have hc := (hb.cell (p := ⟨g, k, none⟩) (cell_lt hc0)).trans hc0
        have hsz := HSZ.out _ (List.getElem_mem (l := ps) (n := k) (by rw [HNL.out]; omega))
        obtain ⟨p, hp⟩ : ∃ p, ps[k]'(by rw [HNL.out]; omega) = p := ⟨_, rfl⟩
        rw [hp] at hc hsz
        have hpq : p.data.toList = qs[k]'(by rw [HML.out]; exact hlt) := by rw [← hp]; exact HAT.out k (by rw [HML.out]; exact hlt) _
        have HPQ := Lib.hid hpq
        have HBK := Lib.hid (HBAD.out k (by rw [HML.out]; exact hlt))
        have HTD := Lib.hid (show td (qs.map pcV) k = pcV (qs[k]'(by rw [HML.out]; exact hlt)) by rw [td_eq _ _ (by rw [List.length_map, HML.out]; exact hlt), List.getElem_map])
        generalize qs[k]'(by rw [HML.out]; exact hlt) = Q at HPQ HBK HTD
        have hkN : k < N := by omega
        clear hc0 hp hpq
        go_wp2_with fail
        refine (l1Split_any p 42 _ (by omega)).mono ?_
        rintro e w2 ⟨v2, ws, rfl, hts2, hws, b2⟩
        have hsz2 := pc_sizes hws
        rw [HPQ.out] at hws
        have HWS := Lib.hid (show pcW Q = ws.map (fun p => p.data.toList) from hws.symm)
        have HB2 := Lib.hid (bel2 hb b2)
        have ho2 := FS.below ho b2
        have hs2 := (ho.lt)
        have hwr := b2.size
        have HO2 := Lib.hid ho2
        have HOL := Lib.hid (show ∀ g', u5.ownBlock = some g' → g' < w2.heap.size from fun g' hg' => Nat.lt_of_lt_of_le (hs2 g' hg').2 hwr)
        clear hws ho hb b2 hc ho2 hs2 hwr
        by_cases h2 : ws.length = 2
        · obtain ⟨a, b, rfl⟩ := two_of h2
          obtain ⟨g2, cap2, rfl, -, -, hcl⟩ := TS.own hts2 (by simp)
          have ca : w2.cell? ⟨g2, 0, none⟩ = some (.string a) := hcl 0 (by simp)
          have cb : w2.cell? ⟨g2, 1, none⟩ = some (.string b) := hcl 1 (by simp)
          have sa := hsz2 a (by simp)
          have sb := hsz2 b (by simp)
          rw [show [a, b].length = 2 from rfl]
          clear hcl hts2 hsz2 h2
          go_wp2_with fail
          refine (l1Split_any b 44 _ (by omega)).mono ?_
          rintro e w3 ⟨v3, us, rfl, hts3, hus, b3⟩
          have hsz3 := pc_sizes hus
          have HUS := Lib.hid (show pcU Q = us.map (fun p => p.data.toList) by unfold pcU; rw [HWS.out]; exact hus.symm)
          have HA := Lib.hid (show (pcW Q).getD 0 [] = a.data.toList by rw [HWS.out]; rfl)
          have ca3 := (b3.cell (p := ⟨g2, 0, none⟩) (cell_lt ca)).trans ca
          have HB3 := Lib.hid (bel2 HB2.out b3)
          have HO3 := Lib.hid (FS.below HO2.out b3)
          clear hus b3 ca cb
          by_cases h3 : us.length = 2
          · obtain ⟨x, y, rfl⟩ := two_of h3
            obtain ⟨g3, cap3, rfl, -, hg3, hcl3⟩ := TS.own hts3 (by simp)
            have cx : w3.cell? ⟨g3, 0, none⟩ = some (.string x) := hcl3 0 (by simp)
            have cy : w3.cell? ⟨g3, 1, none⟩ = some (.string y) := hcl3 1 (by simp)
            have sx : x.size ≤ 1000000000 := by have := hsz3 x (by simp); omega
            have sy : y.size ≤ 1000000000 := by have := hsz3 y (by simp); omega
            have HXE := Lib.hid (show (pcU Q).getD 0 [] = x.data.toList by rw [HUS.out]; rfl)
            have HYE := Lib.hid (show (pcU Q).getD 1 [] = y.data.toList by rw [HUS.out]; rfl)
            rw [show [x, y].length = 2 from rfl]
            clear hcl3 hts3 hsz3 h3 hg3
            go_wp2_with fail
            refine (nuParse_any x _ (by omega)).mono ?_
            rintro e w4 ⟨rfl, b4⟩
            have HB4 := Lib.hid (bel2 HB3.out b4)
            have HO4 := Lib.hid (FS.below HO3.out b4)
            have cy4 := (b4.cell (p := ⟨g3, 1, none⟩) (cell_lt cy)).trans cy
            have ca4 := (b4.cell (p := ⟨g2, 0, none⟩) (cell_lt ca3)).trans ca3
            clear b4 cx cy ca3
            go_wp2_with fail
            refine (nuParse_any y _ (by omega)).mono ?_
            rintro e w5 ⟨rfl, b5⟩
            have HB5 := Lib.hid (bel2 HB4.out b5)
            have HO5 := Lib.hid (FS.below HO4.out b5)
            have ca5 := (b5.cell (p := ⟨g2, 0, none⟩) (cell_lt ca4)).trans ca4
            clear b5 cy4 ca4
            cases hq : okPs x.data.toList
            · have HNO := Lib.hid (HBK.out (pc_no3 (by rw [HXE.out]; exact hq)))
              clear hq
              cases okPs y.data.toList
              all_goals
                go_wp2
                go_ret2
                exact givesRyB_nil HNO.out (plpR_no HNO.out) (bel2 HB1.out HB5.out)
            · cases hq2 : okPs y.data.toList
              · have HNO := Lib.hid (HBK.out (pc_no4 (by rw [HYE.out]; exact hq2)))
                clear hq hq2
                go_wp2
                go_ret2
                exact givesRyB_nil HNO.out (plpR_no HNO.out) (bel2 HB1.out HB5.out)
              · have HV := Lib.hid (show pcV Q = (pnV x.data.toList, pnV y.data.toList, l1V a.data.toList) by unfold pcV; rw [HXE.out, HYE.out, HA.out])
                have HSN := Lib.hid (show flatT ((qs.map pcV).take (k + 1)) = flatT ((qs.map pcV).take k) ++ encT (pcV Q) by rw [take_td _ k (by rw [List.length_map, HML.out]; exact hlt), flatT_snoc, HTD.out])
                clear hq hq2
                generalize pnV x.data.toList = X at HV ⊢
                generalize pnV y.data.toList = Y at HV ⊢
                have hs5 := HB5.out.size
                have ho5 := HO5.out
                have hb5 := HB5.out
                go_wp2_with fail
                refine (l1Read_any a _ (by omega)).mono ?_
                rintro e w6 ⟨rfl, rfl⟩
                have hnw := T3.new w5 (X, Y, l1V a.data.toList) 37
                go_wp2_with (at_builtin; refine wpList_append_own _ rfl _ _ 26 rfl w1.heap.size 37 i0 (.agg #[.int .i64 0, .int .i64 0, .int .i64 0]) 3 24 Tryd.underlying26 hi hz0 hz1 hz2 rfl (by decide) _ k _ rfl (World.ownsRow.alloc ho5 _) ⟨w5.heap.size, 0, none⟩ 1 1 [.int .i64 X, .int .i64 Y, .int .i64 (l1V a.data.toList)] rfl rfl (new_cells _ _ _) (by simp [Value.oneCell']) (by unfold maxLen; omega) (by omega) (by simp; omega) ?_; intro v' w6 hown' hgrow hnil)
                have hb6 : Below w1.heap.size w1 w6 := (hb5.alloc hs5 _).grown hgrow (by simp; omega) (fun g' hg' => (World.ownsRow.lt ho5 g' hg').1)
                have hrow : FS 37 3 w6 w1.heap.size v' (k + 1) (flatT ((qs.map pcV).take k) ++ encT (X, Y, l1V a.data.toList)) := FS.snoc hown'
                rw [← HV.out, ← HSN.out] at hrow
                go_wp2
                go_roundw
                case rel => exact ⟨k + 1, by omega, by go_num, hrow, hb6⟩
                case measure => simp [intOf]; omega
          · have HNO := Lib.hid (HBK.out (pc_no2 (by rw [HUS.out, List.length_map]; exact h3)))
            obtain ⟨A3, cap3, rfl, -⟩ := TS.parts hts3
            obtain ⟨n3, hn3⟩ : ∃ n, us.length = n := ⟨_, rfl⟩
            rw [hn3] at h3 ⊢
            have zn : ¬ (n3 : Int) = 2 := by omega
            clear hts3 hn3 hsz3
            go_wp2
            go_ret2
            exact givesRyB_nil HNO.out (plpR_no HNO.out) (bel2 HB1.out HB3.out)
        · have HNO := Lib.hid (HBK.out (pc_no1 (by rw [HWS.out, List.length_map]; exact h2)))
          obtain ⟨A2, cap2, rfl, -⟩ := TS.parts hts2
          obtain ⟨n2, hn2⟩ : ∃ n, ws.length = n := ⟨_, rfl⟩
          rw [hn2] at h2 ⊢
          have zn : ¬ (n2 : Int) = 2 := by omega
          clear hts2 hn2 hsz2
          go_wp2
          go_ret2
          exact givesRyB_nil HNO.out (plpR_no HNO.out) (bel2 HB1.out HB2.out)
      · obtain rfl : m = k := by omega
        have hLL : (qs.map pcV).length = m := by rw [List.length_map, HML.out]
        have hr : RyS wr w1.heap.size u5 (qs.map pcV) := by
          unfold RyS
          rw [hLL]
          have := ho
          rwa [List.take_of_length_le (by rw [hLL]; exact Nat.le_refl _)] at this
        have HE := HEND
        obtain ⟨L, hL⟩ : ∃ L, qs.map pcV = L := ⟨_, rfl⟩
        rw [hL] at HE hr hLL
        clear hL ho
        cases hz : ryB L
        · have HQ := Lib.hid hz
          have HB := Lib.hid (show plpB s.data.toList = false from HE.out.1.trans (by rw [hz]; rfl))
          clear hz
          go_wp2_with fail
          refine (stGood_any _ _ _ _ hr).mono ?_
          rintro e w4 ⟨rfl, b4⟩
          rw [HQ.out]
          go_wp2
          go_ret2
          exact givesRyB_nil HB.out (plpR_no HB.out) (bel2 HB1.out (bel2 hb b4))
        · have HQ := Lib.hid hz
          have HLB := Lib.hid ((ryB_iff L).1 hz)
          by_cases ht : txA L = s.data.toList
          · have HB := Lib.hid (show plpB s.data.toList = true from HE.out.1.trans (by rw [hz, ht]; simp))
            have HR := Lib.hid (show plpR s.data.toList = L from HE.out.2.trans (by rw [HB.out]; simp))
            have hst : ByteArray.mk (txT L L.length).toArray = s := by
              have : txT L L.length = s.data.toList := ht
              rw [this]
            have HST := Lib.hid hst
            clear hz ht hst
            go_wp2_with fail
            refine (stGood_any _ _ _ _ hr).mono ?_
            rintro e w4 ⟨rfl, b4⟩
            rw [HQ.out]
            have hr4 := FS.below hr b4
            go_wp2_with fail
            refine (stText_any _ _ _ _ hr4 HLB.out.1 HLB.out.2.1).mono ?_
            rintro e w5 ⟨rfl, b5⟩
            rw [HST.out]
            have hr5 := FS.below hr4 b5
            go_wp2
            go_ret2
            exact givesRyB_yes HB.out (by rw [HR.out]; exact FS.base hr5 HB1.out.size) (bel2 HB1.out (bel2 (bel2 hb b4) b5))
          · have HB := Lib.hid (show plpB s.data.toList = false from HE.out.1.trans (by rw [hz]; simp [ht]))
            obtain ⟨G, hG⟩ : ∃ G : ByteArray, G = ⟨(txT L L.length).toArray⟩ := ⟨_, rfl⟩
            have HG := Lib.hid hG
            have hst : ¬ G = s := fun e => ht (by
              have : G.data.toList = s.data.toList := by rw [e]
              rw [hG] at this
              simpa [txA] using this)
            have hgl : (G.toList == s.toList) = false := by
              rw [Lib.toList_data, Lib.toList_data]
              simp only [beq_eq_false_iff_ne]
              intro e
              rw [hG] at e
              exact ht (by simpa [txA] using e)
            clear hz ht hG
            go_wp2_with fail
            refine (stGood_any _ _ _ _ hr).mono ?_
            rintro e w4 ⟨rfl, b4⟩
            rw [HQ.out]
            have hr4 := FS.below hr b4
            go_wp2_with fail
            refine (stText_any _ _ _ _ hr4 HLB.out.1 HLB.out.2.1).mono ?_
            rintro e w5 ⟨rfl, b5⟩
            rw [← HG.out]
            go_wp2
            go_ret2
            exact givesRyB_nil HB.out (plpR_no HB.out) (bel2 HB1.out (bel2 (bel2 hb b4) b5))
  · have HNO := Lib.hid (HLONG.out (by rw [HNL.out]; omega))
    have z5 : (11 : Int) < (N : Int) := by omega
    go_wp2
    go_ret2
    exact givesRyB_nil HNO.out (plpR_no HNO.out) HB1.out
end Go.Proofs.YthegkifhbgopoaaDoor

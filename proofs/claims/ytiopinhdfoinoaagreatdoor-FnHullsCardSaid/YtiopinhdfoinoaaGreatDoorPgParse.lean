/-
  ParsePolygon of the model: what each call returns.
  Conditions: the text is shorter than a thousand million bytes.
-/
import Derived.Test.YtiopinhdfoinoaaGreatDoorPgPI
import Derived.Test.YtiopinhdfoinoaaGreatDoorPlRd
import Derived.Test.YtiopinhdfoinoaaGreatDoorPgTxS
import Derived.Test.YtiopinhdfoinoaaGreatDoorSTerm
namespace Go.Proofs.YtiopinhdfoinoaaGreatDoor
set_option linter.unusedSimpArgs false
set_option linter.unusedVariables false
open Go.ChangeShapes Go.WideShapes Go.ChangeAt Go.RowKit

set_option maxHeartbeats 1000000 in
theorem pyRead_any (s : ByteArray) (w : World) (hs : s.size ≤ 1000000000) : Calls Tryz.prog 46 #[.string s] w fun e w' => e = .returned (.int .i64 (cdV s.data.toList)) ∧ w = w' := by
  have HB := Lib.hid (l1V_bd s.data.toList)
  have HL := Lib.hid (show s.data.toList.length = s.size by simp)
  by_cases h1 : 1 < s.size
  · have hp : 0 < s.size := by omega
    have HH := Lib.hid (head_byte s hp)
    cases hb : ((s[0].toNat : Int) == 45)
    · have HV := Lib.hid (show cdV s.data.toList = if 0 ≤ l1V s.data.toList then l1V s.data.toList else 101 by
        unfold cdV
        rw [if_neg]
        rintro ⟨-, hh, -⟩
        rw [HH.out] at hh
        injection hh with hh
        rw [hh] at hb
        simp at hb)
      go_enter Tryz.func46, Tryz.ntmps46
      go_wp2_with fail
      refine (l1Read_any _ _ hs).mono ?_
      rintro e w' ⟨rfl, rfl⟩
      generalize l1V s.data.toList = x at HV
      by_cases hx : 0 ≤ x
      · have HX := Lib.hid hx
        go_wp2_with fail
        go_ret
        exact ⟨ret_i64 (by rw [HV.out, if_pos HX.out]), rfl⟩
      · have HX := Lib.hid hx
        go_wp2_with fail
        go_ret
        exact ⟨ret_i64 (by rw [HV.out, if_neg (by have := HX.out; omega)]), rfl⟩
    · have hhd : s.data.toList.head? = some 45 := by
        rw [HH.out]
        have h' : s[0].toNat = 45 := by simp at hb; omega
        rw [show s[0] = 45 from UInt8.toNat_inj.1 (by rw [h']; rfl)]
      have HC := Lib.hid (show 1 < s.data.toList.length ∧ s.data.toList.head? = some 45 from ⟨by rw [HL.out]; exact h1, hhd⟩)
      have hse : (s.extract 1 s.size).size ≤ 1000000000 := by simp; omega
      have hbt := l1V_bd s.data.toList.tail
      obtain ⟨x, hx⟩ : ∃ x, l1V s.data.toList.tail = x := ⟨_, rfl⟩
      have HX := Lib.hid hx
      rw [hx] at hbt
      obtain ⟨hx1, hx2⟩ := hbt
      clear hhd hx
      by_cases h0 : 0 ≤ x
      · have HV := Lib.hid (show cdV s.data.toList = -x by
          unfold cdV
          rw [if_pos ⟨HC.out.1, HC.out.2, by rw [HX.out]; exact h0⟩, HX.out])
        have q : IntKind.i64.wrap (-x) = -x := IntWalk.i64_in _ (by omega)
        go_enter Tryz.func46, Tryz.ntmps46
        go_wp2_with fail
        refine (l1Read_any _ _ hse).mono ?_
        rintro e w' ⟨rfl, rfl⟩
        rw [tail_bytes, HX.out]
        go_wp2_with fail
        refine (l1Read_any _ _ hse).mono ?_
        rintro e w' ⟨rfl, rfl⟩
        rw [tail_bytes, HX.out]
        go_wp2_with fail
        go_ret
        exact ⟨ret_i64 (by rw [HV.out]), rfl⟩
      · have HM := Lib.hid (show l1V s.data.toList = -1 by
          have h2 := HC.out.2
          cases hh : s.data.toList with
          | nil => rw [hh] at h2; cases h2
          | cons a r =>
            rw [hh] at h2
            have : a = 45 := by simpa using h2
            rw [this]; exact rdFrom_minus r)
        have HV := Lib.hid (show cdV s.data.toList = 101 by
          unfold cdV
          rw [if_neg (by rw [HX.out]; exact fun h => h0 h.2.2), if_neg (by rw [HM.out]; decide)])
        go_enter Tryz.func46, Tryz.ntmps46
        go_wp2_with fail
        refine (l1Read_any _ _ hse).mono ?_
        rintro e w' ⟨rfl, rfl⟩
        rw [tail_bytes, HX.out]
        go_wp2_with fail
        refine (l1Read_any _ _ hs).mono ?_
        rintro e w' ⟨rfl, rfl⟩
        rw [HM.out]
        go_wp2_with fail
        go_ret
        exact ⟨ret_i64 (by rw [HV.out]), rfl⟩
  · have HV := Lib.hid (show cdV s.data.toList = if 0 ≤ l1V s.data.toList then l1V s.data.toList else 101 by
      unfold cdV
      rw [if_neg]
      rintro ⟨hh, -, -⟩
      rw [HL.out] at hh
      exact h1 hh)
    go_enter Tryz.func46, Tryz.ntmps46
    go_wp2_with fail
    refine (l1Read_any _ _ hs).mono ?_
    rintro e w' ⟨rfl, rfl⟩
    generalize l1V s.data.toList = x at HV
    by_cases hx : 0 ≤ x
    · have HX := Lib.hid hx
      go_wp2_with fail
      go_ret
      exact ⟨ret_i64 (by rw [HV.out, if_pos HX.out]), rfl⟩
    · have HX := Lib.hid hx
      go_wp2_with fail
      go_ret
      exact ⟨ret_i64 (by rw [HV.out, if_neg (by have := HX.out; omega)]), rfl⟩
set_option maxHeartbeats 1000000 in
set_option maxRecDepth 100000 in
theorem specParsePolygon_any (s : ByteArray) (w : World) (hs : s.size ≤ 1000000000) : Calls Tryz.prog 19 #[.string s] w fun e w' => GivesPtB (pypB s.data.toList) (pypR s.data.toList) w e w' := by
  obtain ⟨i0, hi, hz0, hz1, hz2⟩ := info_parts infoPoint
  go_enter Tryz.func19, Tryz.ntmps19
  go_wp2_with fail
  refine (l1Split_any s 59 _ hs).mono ?_
  rintro e w1 ⟨v, ps, rfl, hts, hps, b1⟩
  have HB1 := Lib.hid b1
  have HSZ := Lib.hid (pc_sizes hps)
  have hlen : ps.length = (pieces9 s.data.toList).length := by have := congrArg List.length hps; rwa [List.length_map] at this
  obtain ⟨qs, q, h1, -⟩ := spB_back (b := 59) (i := 59) rfl s.data.toList []
  have hpq := hps.trans h1
  have hl2 := pc_len hpq
  have h9 : pcs s.data.toList = qs := by unfold pcs pieces9; rw [h1, List.dropLast_concat]
  obtain ⟨g, cap, rfl, hcap, -, hpt⟩ := TS.own hts (by omega)
  have HP := Lib.hid hpt
  have HAT := Lib.hid (show ∀ k (hk : k < qs.length) (hk' : k < ps.length), ps[k].data.toList = qs[k] from fun k hk hk' => pc_at hpq k hk hk')
  have HBAD := Lib.hid (show ∀ k (hk : k < qs.length), pqOk qs[k] = false → pypB s.data.toList = false from fun k hk ho => pyp_pq (by rw [h9]; exact List.getElem_mem hk) ho)
  have HEND := Lib.hid (show pypB s.data.toList = (pgB (qs.map pqV) && decide (pyA (qs.map pqV) = s.data.toList)) ∧ pypR s.data.toList = if pypB s.data.toList = true then qs.map pqV else [] from ⟨by unfold pypB; rw [h9], by unfold pypR; rw [h9]⟩)
  have HLONG := Lib.hid (show 41 < ps.length → pypB s.data.toList = false from fun h => pyp_long (by omega))
  obtain ⟨m, hm⟩ : ∃ m, qs.length = m := ⟨_, rfl⟩
  obtain ⟨N, hN⟩ : ∃ N, ps.length = N := ⟨_, rfl⟩
  have HML := Lib.hid hm
  have HNL := Lib.hid hN
  rw [hN] at hcap ⊢
  have hNm : N = m + 1 := by omega
  clear hts hps hlen h1 hpq hl2 h9 hpt hm hN b1
  by_cases h41 : N ≤ 41
  · have q1 : IntKind.i64.wrap ((N : Int) - 1) = (m : Int) := by rw [IntWalk.i64_in _ (by omega)]; omega
    have l1 : m < N := by omega
    have z1 : (m : Int) < (N : Int) := by omega
    have z2 : (0 : Int) ≤ (m : Int) := by omega
    have z3 : (m : Int) ≤ (cap : Int) := by omega
    have l3 : m ≤ cap := by omega
    have l4 : ¬ cap = 0 := by omega
    have z5 : ¬ (41 : Int) < (N : Int) := by omega
    have HNM := Lib.hid hNm
    clear hNm
    go_wp2
    clear q1
    go_loopw [5, 20] (fun o i wr => ∃ k : Nat, k ≤ m ∧ i = .int .i64 k ∧ FS 30 2 wr w1.heap.size o k (flatP ((qs.map pqV).take k)) ∧ Below w1.heap.size w1 wr) (fun _ i _ => m - (intOf i).toNat)
    case atStart => exact ⟨0, by omega, rfl, FS.nil_ _ _ _ _, Below.refl _ _⟩
    case round =>
      obtain ⟨k, hk, rfl, ho, hb⟩ := hrel
      by_cases hlt : k < m
      · have hc0 := HP.out k (by rw [HNL.out]; omega)
        have hc := (hb.cell (p := ⟨g, k, none⟩) (cell_lt hc0)).trans hc0
        have hsz := HSZ.out _ (List.getElem_mem (l := ps) (n := k) (by rw [HNL.out]; omega))
        obtain ⟨p, hp⟩ : ∃ p, ps[k]'(by rw [HNL.out]; omega) = p := ⟨_, rfl⟩
        rw [hp] at hc hsz
        have hpq : p.data.toList = qs[k]'(by rw [HML.out]; exact hlt) := by rw [← hp]; exact HAT.out k (by rw [HML.out]; exact hlt) _
        have HPQ := Lib.hid hpq
        have HBK := Lib.hid (HBAD.out k (by rw [HML.out]; exact hlt))
        have HTD := Lib.hid (show pd (qs.map pqV) k = pqV (qs[k]'(by rw [HML.out]; exact hlt)) by rw [pd_eq _ _ (by rw [List.length_map, HML.out]; exact hlt), List.getElem_map])
        generalize qs[k]'(by rw [HML.out]; exact hlt) = Q at HPQ HBK HTD
        have hkN : k < N := by omega
        clear hc0 hp hpq
        go_wp2_with fail
        refine (l1Split_any p 44 _ (by omega)).mono ?_
        rintro e w3 ⟨v3, us, rfl, hts3, hus, b3⟩
        have hsz3 := pc_sizes hus
        rw [HPQ.out] at hus
        have HUS := Lib.hid (show pdU Q = us.map (fun p => p.data.toList) from hus.symm)
        have HB3 := Lib.hid (bel2 hb b3)
        have ho3 := FS.below ho b3
        have hs2 := (ho.lt)
        have hwr := b3.size
        have HOL := Lib.hid (show ∀ g', u5.ownBlock = some g' → g' < wr.heap.size from fun g' hg' => (hs2 g' hg').2)
        have HO3 := Lib.hid ho3
        clear hus ho hb b3 hc ho3 hs2
        by_cases h3 : us.length = 2
        · obtain ⟨x, y, rfl⟩ := two_of h3
          obtain ⟨g3, cap3, rfl, -, hg3, hcl3⟩ := TS.own hts3 (by simp)
          have cx : w3.cell? ⟨g3, 0, none⟩ = some (.string x) := hcl3 0 (by simp)
          have cy : w3.cell? ⟨g3, 1, none⟩ = some (.string y) := hcl3 1 (by simp)
          have sx : x.size ≤ 1000000000 := by have := hsz3 x (by simp); omega
          have sy : y.size ≤ 1000000000 := by have := hsz3 y (by simp); omega
          have hV : V2 w3 g3 x y := ⟨cx, cy⟩
          have hne : some g3 ≠ u5.ownBlock := fun hx => by have := HOL.out g3 hx.symm; omega
          rw [show [x, y].length = 2 from rfl]
          have HV := Lib.hid (show pqV Q = (cdV x.data.toList, cdV y.data.toList) by unfold pqV; rw [HUS.out]; rfl)
          have HSN := Lib.hid (show flatP ((qs.map pqV).take (k + 1)) = flatP ((qs.map pqV).take k) ++ encP (pqV Q) by rw [take_pd _ k (by rw [List.length_map, HML.out]; exact hlt), flatP_snoc, HTD.out])
          clear hcl3 hts3 hsz3 h3 cx cy hg3
          have hs4 := HB3.out.size
          have ho4 := HO3.out
          have hb4 := HB3.out
          go_wp2_with fail
          have hVk := hV
          obtain ⟨cx, cy⟩ := hV
          go_region_held3 (fun w' => w'.cell? ⟨g3, 0, none⟩ = some (.string x) ∧ w'.cell? ⟨g3, 1, none⟩ = some (.string y)) (first | with_reducible exact V2.grown (by assumption) hgrow hne | (repeat' (first | with_reducible assumption | with_reducible refine V2.drew ?_ | with_reducible refine V2.drewN ?_ _ | with_reducible refine V2.alloc ?_ _))) (first | (go_at_call 46; refine (pyRead_any _ _ (by assumption)).mono ?_; rintro e w5 ⟨rfl, rfl⟩) | ((refine step_append_own (by rfl) (.tmp 29) (.tmp 39) 23 (by rfl) w1.heap.size 30 i0 (.agg #[.int .i64 0, .int .i64 0]) 2 16 Tryz.underlying23 hi hz0 hz1 hz2 rfl (by decide) _ k _ (by rfl) (World.ownsRow.alloc (FS.drew ho4) _) ⟨w3.heap.size, 0, none⟩ 1 1 [.int .i64 (cdV x.data.toList), .int .i64 (cdV y.data.toList)] (by rfl) rfl (new_cells _ _ _) (by simp [Value.oneCell']) (by unfold maxLen; omega) (by omega) (by simp; omega) ?_; intro v' w6 hown' hgrow hnil)))
          have hb6 : Below w1.heap.size w1 w6 := (hb4.drew.alloc hs4 _).grown hgrow (by simp; omega) (fun g' hg' => (World.ownsRow.lt ho4 g' hg').1)
          have hrow : FS 30 2 w6 w1.heap.size v' (k + 1) (flatP ((qs.map pqV).take k) ++ encP (cdV x.data.toList, cdV y.data.toList)) := FS.snoc hown'
          rw [← HV.out, ← HSN.out] at hrow
          go_wp2
          go_roundw
          case rel => exact ⟨k + 1, by omega, by go_num, hrow, hb6⟩
          case measure => simp [intOf]; omega
        · have HNO := Lib.hid (HBK.out (by unfold pqOk; rw [HUS.out, List.length_map]; exact decide_eq_false h3))
          obtain ⟨A3, cap3, rfl, -⟩ := TS.parts hts3
          obtain ⟨n3, hn3⟩ : ∃ n, us.length = n := ⟨_, rfl⟩
          rw [hn3] at h3 ⊢
          have zn : ¬ (n3 : Int) = 2 := by omega
          clear hts3 hn3 hsz3
          go_wp2
          go_ret2
          exact givesPtB_nil HNO.out (pypR_no HNO.out) (bel2 HB1.out HB3.out)
      · obtain rfl : m = k := by omega
        have hLL : (qs.map pqV).length = m := by rw [List.length_map, HML.out]
        have hr : PtS wr w1.heap.size u5 (qs.map pqV) := by
          unfold PtS
          rw [hLL]
          have := ho
          rwa [List.take_of_length_le (by rw [hLL]; exact Nat.le_refl _)] at this
        have HE := HEND
        obtain ⟨L, hL⟩ : ∃ L, qs.map pqV = L := ⟨_, rfl⟩
        rw [hL] at HE hr hLL
        clear hL ho
        cases hz : pgB L
        · have HQ := Lib.hid hz
          have HB := Lib.hid (show pypB s.data.toList = false from HE.out.1.trans (by rw [hz]; rfl))
          clear hz
          go_wp2_with fail
          refine (pyGood_any _ _ _ _ hr).mono ?_
          rintro e w4 ⟨rfl, b4⟩
          rw [HQ.out]
          go_wp2
          go_ret2
          exact givesPtB_nil HB.out (pypR_no HB.out) (bel2 HB1.out (bel2 hb b4))
        · have HQ := Lib.hid hz
          have HLB := Lib.hid (pg_pts hz)
          by_cases ht : pyA L = s.data.toList
          · have HB := Lib.hid (show pypB s.data.toList = true from HE.out.1.trans (by rw [hz, ht]; simp))
            have HR := Lib.hid (show pypR s.data.toList = L from HE.out.2.trans (by rw [HB.out]; simp))
            have hst : ByteArray.mk (pyA L).toArray = s := by rw [ht]
            have HST := Lib.hid hst
            clear hz ht hst
            go_wp2_with fail
            refine (pyGood_any _ _ _ _ hr).mono ?_
            rintro e w4 ⟨rfl, b4⟩
            rw [HQ.out]
            have hr4 := FS.below hr b4
            go_wp2_with fail
            refine (pyText_any _ _ _ _ hr4 (by have := HLB.out.2.1; omega) (fun t ht => (HLB.out.2.2 t ht).mono (by omega))).mono ?_
            rintro e w5 ⟨rfl, b5⟩
            rw [HST.out]
            have hr5 := FS.below hr4 b5
            go_wp2
            go_ret2
            exact givesPtB_yes HB.out (by rw [HR.out]; exact FS.base hr5 HB1.out.size) (bel2 HB1.out (bel2 (bel2 hb b4) b5))
          · have HB := Lib.hid (show pypB s.data.toList = false from HE.out.1.trans (by rw [hz]; simp [ht]))
            obtain ⟨G, hG⟩ : ∃ G : ByteArray, G = ⟨(pyA L).toArray⟩ := ⟨_, rfl⟩
            have HG := Lib.hid hG
            have hst : ¬ G = s := fun e => ht (by
              have : G.data.toList = s.data.toList := by rw [e]
              rw [hG] at this
              simpa using this)
            have hgl : (G.toList == s.toList) = false := by
              rw [Lib.toList_data, Lib.toList_data]
              simp only [beq_eq_false_iff_ne]
              intro e
              rw [hG] at e
              exact ht (by simpa using e)
            clear hz ht hG
            go_wp2_with fail
            refine (pyGood_any _ _ _ _ hr).mono ?_
            rintro e w4 ⟨rfl, b4⟩
            rw [HQ.out]
            have hr4 := FS.below hr b4
            go_wp2_with fail
            refine (pyText_any _ _ _ _ hr4 (by have := HLB.out.2.1; omega) (fun t ht => (HLB.out.2.2 t ht).mono (by omega))).mono ?_
            rintro e w5 ⟨rfl, b5⟩
            rw [← HG.out]
            go_wp2
            go_ret2
            exact givesPtB_nil HB.out (pypR_no HB.out) (bel2 HB1.out (bel2 (bel2 hb b4) b5))
  · have HNO := Lib.hid (HLONG.out (by rw [HNL.out]; omega))
    have z5 : (41 : Int) < (N : Int) := by omega
    go_wp2
    go_ret2
    exact givesPtB_nil HNO.out (pypR_no HNO.out) HB1.out
end Go.Proofs.YtiopinhdfoinoaaGreatDoor

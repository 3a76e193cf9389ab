/-
  Points of the boundary and inside, of the program and of the model: what the calls return.
  Conditions: the slice reads as the list that is named; a polygon where a contract names one.
-/
import Derived.Test.YtamejfeaniokfaaPgE
namespace Go.Proofs.Ytamejfeaniokfaa
set_option linter.unusedSimpArgs false
set_option linter.unusedVariables false
open Go.ChangeShapes Go.WideShapes Go.ChangeAt Go.RowKit
open Go.Sort (grow)

theorem half_bd {x : Int} (h : 0 ≤ x ∧ x ≤ 400000000) : 0 ≤ x.tdiv 2 ∧ x.tdiv 2 ≤ x := by
  obtain ⟨n, rfl⟩ : ∃ n : Nat, x = n := ⟨x.toNat, by omega⟩
  rw [show (2 : Int) = ((2 : Nat) : Int) from rfl, ← Int.ofNat_tdiv]
  omega
theorem sm_wide {m : Nat} {p : Pt} (h : Sm m p) (hm : m ≤ 1000000) : wide p.1 ∧ wide p.2 := by unfold Sm at h; unfold wide; omega
set_option maxHeartbeats 2000000 in
set_option maxRecDepth 100000 in
theorem pyBoundary_any (w : World) (B : Nat) (v : Value) (l : List Pt) (h : PtS w B v l) (hg : pgB l = true) : Calls Try.prog 32 #[v] w fun e w' => e = .returned (.int .i64 (bnL l)) ∧ Below w.heap.size w w' := by
  obtain ⟨hsm, h0, hz⟩ := pg_sm hg
  have HES := Lib.hid (edL_sm hsm)
  have HEL := Lib.hid (edL_le l)
  have HTB := Lib.hid (bnT_bd hsm)
  have H0 := Lib.hid h
  obtain ⟨A, cap, rfl, hm, -⟩ := PtS.parts h
  obtain ⟨n, hn⟩ : ∃ n, n = l.length := ⟨_, rfl⟩
  have HN := Lib.hid hn
  rw [← hn] at h0 hz ⊢
  clear h hn hm hsm
  go_enter Try.func32, Try.ntmps32
  go_wp2_with fail
  refine (pyEdges_any _ B _ l (by rw [HN.out]; exact H0.out) hg).mono ?_
  rintro e w1 ⟨ve, rfl, he, b1⟩
  obtain ⟨E, hE⟩ : ∃ E, E = edL l := ⟨_, rfl⟩
  rw [← hE] at he HEL HES
  have HT := Lib.hid (show bnT l = bnS E E.length by unfold bnT; rw [hE])
  obtain ⟨A', cap', rfl, -, hp'⟩ := PtS.parts he
  have HP' := Lib.hid hp'
  have HBD := Lib.hid (fun k hk => bnS_bd HES.out k hk)
  obtain ⟨ne, hne⟩ : ∃ ne, ne = E.length := ⟨_, rfl⟩
  have HNE := Lib.hid hne
  have hle : ne ≤ n := by rw [hne, HN.out]; exact HEL.out
  rw [← hne]
  clear hE hne hp' he hg
  go_wp2
  go_loopw [3, 9] (fun o i wr => ∃ k : Nat, k ≤ ne ∧ i = .int .i64 k ∧ o = .int .i64 (bnS E k) ∧ Below w1.heap.size w1 wr) (fun _ i _ => ne - (intOf i).toNat)
  case atStart => exact ⟨0, by omega, rfl, rfl, Below.refl _ _⟩
  case round =>
    obtain ⟨k, hk, rfl, rfl, hb⟩ := hrel
    by_cases hlt : k < ne
    · have hkE : k < E.length := by rw [← HNE.out]; exact hlt
      obtain ⟨q, hqe⟩ : ∃ q, q = pd E k := ⟨_, rfl⟩
      have hq1 : Sm 2000 q := by rw [hqe]; exact HES.out _ (pd_mem hkE)
      obtain ⟨hw1, hw2⟩ := sm_wide hq1 (by omega)
      have hgb := gI_bd q.1 q.2
      have hb1 := HBD.out k (by omega)
      obtain ⟨x, hx⟩ : ∃ x, x = bnS E k := ⟨_, rfl⟩
      have HNX := Lib.hid (show bnS E (k + 1) = x + gI q.1 q.2 by rw [bnS, hx, hqe])
      rw [← hx] at hb1 ⊢
      obtain ⟨g', rfl, hd0⟩ := HP'.out k hkE
      rw [← hqe] at hd0
      obtain ⟨d0, d1⟩ := X2.below hd0 hb
      have HB2 := Lib.hid (hb.alloc hb.size (.cells #[.int .i64 q.1, .int .i64 q.2] 35))
      unfold Sm at hq1
      have w4 : IntKind.i64.wrap (x + gI q.1 q.2) = x + gI q.1 q.2 := IntWalk.i64_in _ (by omega)
      have q1 : IntKind.i64.wrap ((k : Int) + 1) = (k : Int) + 1 := IntWalk.i64_in _ (by omega)
      clear hd0 hqe hb hgb hb1 hx hq1
      go_wp2_with fail
      refine (frGcd_any _ _ _ hw1 hw2).mono ?_
      rintro e w' ⟨rfl, rfl⟩
      go_wp2
      clear q1
      go_roundw
      case rel => exact ⟨k + 1, by omega, by go_num, by rw [HNX.out], HB2.out⟩
      case measure => simp [intOf]; omega
    · obtain rfl : k = ne := by omega
      have HE := Lib.hid (show bnS E k = bnT l by rw [HT.out, ← HNE.out])
      rw [HE.out]
      obtain ⟨t, ht⟩ : ∃ t, t = bnT l := ⟨_, rfl⟩
      have htb := HTB.out
      rw [← ht] at htb ⊢
      have HTT := Lib.hid ht
      have hhb := half_bd (x := t) (by rw [← HN.out] at htb; omega)
      have w1' : IntKind.i64.wrap (t.tdiv 2) = t.tdiv 2 := IntWalk.i64_in _ (by rw [← HN.out] at htb; omega)
      have w2' : IntKind.i64.wrap (t.tdiv 2 + 1) = t.tdiv 2 + 1 := IntWalk.i64_in _ (by rw [← HN.out] at htb; omega)
      by_cases h1 : n = 1
      · have HR := Lib.hid (show bnL l = 1 by unfold bnL; rw [if_pos (by rw [← HN.out]; omega), bnT_one (by rw [← HN.out]; exact h1)]; rfl)
        subst h1
        clear ht htb hhb
        go_wp2
        go_ret
        exact ⟨ret_i64 HR.out.symm, bel2 b1 hb⟩
      · by_cases h2 : n = 2
        · have HR := Lib.hid (show bnL l = t.tdiv 2 + 1 by unfold bnL; rw [if_pos (by rw [← HN.out]; omega), HTT.out])
          subst h2
          clear ht htb hhb
          go_wp2
          go_ret
          exact ⟨ret_i64 HR.out.symm, bel2 b1 hb⟩
        · have HR := Lib.hid (show bnL l = t by unfold bnL; rw [if_neg (by rw [← HN.out]; omega), HTT.out])
          have h1' : ¬ (n : Int) = 1 := by omega
          have h2' : ¬ (n : Int) = 2 := by omega
          clear ht htb hhb
          go_wp2
          go_ret
          exact ⟨ret_i64 HR.out.symm, bel2 b1 hb⟩
theorem specBoundaryPoints_any (w : World) (B : Nat) (v : Value) (l : List Pt) (h : PtS w B v l) : Calls Try.prog 14 #[v] w fun e w' => GivesZB (bnR l) (pgB l) w e w' := by
  have H := Lib.hid h
  clear h
  cases hq : pgB l
  · have HQ := Lib.hid hq
    clear hq
    go_enter Try.func14, Try.ntmps14
    go_wp2_with fail
    refine (pyGood_any _ B _ l H.out).mono ?_
    rintro e w1 ⟨rfl, b1⟩
    rw [HQ.out]
    go_wp2
    go_ret2
    exact givesZB_no (bnR_no HQ.out) rfl b1
  · have HQ := Lib.hid hq
    clear hq
    go_enter Try.func14, Try.ntmps14
    go_wp2_with fail
    refine (pyGood_any _ B _ l H.out).mono ?_
    rintro e w1 ⟨rfl, b1⟩
    rw [HQ.out]
    have h1 := Lib.hid (FS.below H.out b1)
    go_wp2_with fail
    refine (pyBoundary_any _ B _ l h1.out HQ.out).mono ?_
    rintro e w2 ⟨rfl, b2⟩
    go_wp2
    go_ret2
    exact givesZB_yes (bnR_yes HQ.out) rfl (bel2 b1 b2)
theorem isFlat_any (w : World) (B : Nat) (v : Value) (l : List Pt) (h : PtS w B v l) : Calls Try.prog 31 #[v] w fun e w' => e = .returned (.bool (decide (l.length ≤ 2))) ∧ w = w' := by
  obtain ⟨A, cap, rfl, -, -⟩ := PtS.parts h
  clear h
  by_cases h2 : l.length ≤ 2
  · have h2' : (l.length : Int) ≤ 2 := by omega
    go_enter Try.func31, Try.ntmps31
    go_wp2
    go_ret
    exact ⟨ret_bool (by simp [h2, h2']), rfl⟩
  · have h2' : ¬ (l.length : Int) ≤ 2 := by omega
    go_enter Try.func31, Try.ntmps31
    go_wp2
    go_ret
    exact ⟨ret_bool (by simp [h2, h2']), rfl⟩
set_option maxHeartbeats 2000000 in
set_option maxRecDepth 100000 in
theorem implBoundaryPoints_any (w : World) (B : Nat) (v : Value) (l : List Pt) (h : PtS w B v l) : Calls Try.prog 13 #[v] w fun e w' => GivesZB (bnR l) (pgB l) w e w' := by
  have H := Lib.hid h
  cases hq : pgB l
  · have HQ := Lib.hid hq
    clear hq h
    go_enter Try.func13, Try.ntmps13
    go_wp2_with fail
    refine (implIsPolygon_any _ B _ l H.out).mono ?_
    rintro e w1 ⟨rfl, b1⟩
    rw [HQ.out]
    go_wp2
    go_ret2
    exact givesZB_no (bnR_no HQ.out) rfl b1
  · have HQ := Lib.hid hq
    obtain ⟨hsm, h0, hz⟩ := pg_sm hq
    have HES := Lib.hid (edL_sm hsm)
    have HEL := Lib.hid (edL_le l)
    have HTB := Lib.hid (bnT_bd hsm)
    have HL0 := Lib.hid (show 0 < l.length by omega)
    have HLZ := Lib.hid (show l.length ≤ 100000 by omega)
    have HSM := Lib.hid hsm
    obtain ⟨n, hn⟩ : ∃ n, n = l.length := ⟨_, rfl⟩
    have HN := Lib.hid hn
    rw [← hn] at h0 hz
    clear hq h hsm hn
    go_enter Try.func13, Try.ntmps13
    go_wp2_with fail
    refine (implIsPolygon_any _ B _ l H.out).mono ?_
    rintro e w0 ⟨rfl, b0⟩
    rw [HQ.out]
    have h1 := Lib.hid (FS.below H.out b0)
    go_wp2_with fail
    refine (edgesOf_any _ B _ l h1.out HL0.out HLZ.out HSM.out).mono ?_
    rintro e w1 ⟨ve, rfl, he, b1⟩
    have HV := Lib.hid (FS.below h1.out b1)
    obtain ⟨E, hE⟩ : ∃ E, E = edL l := ⟨_, rfl⟩
    rw [← hE] at he HEL HES
    have HT := Lib.hid (show bnT l = bnS E E.length by unfold bnT; rw [hE])
    obtain ⟨A', cap', rfl, -, hp'⟩ := PtS.parts he
    have HP' := Lib.hid hp'
    have HBD := Lib.hid (fun k hk => bnS_bd HES.out k hk)
    obtain ⟨ne, hne⟩ : ∃ ne, ne = E.length := ⟨_, rfl⟩
    have HNE := Lib.hid hne
    have hle : ne ≤ n := by rw [hne, HN.out]; exact HEL.out
    have HB0 := Lib.hid (bel2 b0 b1)
    rw [← hne]
    clear hE hne hp' he b0 b1
    go_wp2
    go_loopw [4, 13] (fun o i wr => ∃ k : Nat, k ≤ ne ∧ i = .int .i64 k ∧ o = .int .i64 (bnS E k) ∧ Below w1.heap.size w1 wr) (fun _ i _ => ne - (intOf i).toNat)
    case atStart => exact ⟨0, by omega, rfl, rfl, Below.refl _ _⟩
    case round =>
      obtain ⟨k, hk, rfl, rfl, hb⟩ := hrel
      by_cases hlt : k < ne
      · have hkE : k < E.length := by rw [← HNE.out]; exact hlt
        obtain ⟨q, hqe⟩ : ∃ q, q = pd E k := ⟨_, rfl⟩
        have hq1 : Sm 2000 q := by rw [hqe]; exact HES.out _ (pd_mem hkE)
        obtain ⟨hw1, hw2⟩ := sm_wide hq1 (by omega)
        have hgb := gI_bd q.1 q.2
        have hb1 := HBD.out k (by omega)
        obtain ⟨x, hx⟩ : ∃ x, x = bnS E k := ⟨_, rfl⟩
        have HNX := Lib.hid (show bnS E (k + 1) = x + gI q.1 q.2 by rw [bnS, hx, hqe])
        rw [← hx] at hb1 ⊢
        obtain ⟨g', rfl, hd0⟩ := HP'.out k hkE
        rw [← hqe] at hd0
        obtain ⟨d0, d1⟩ := X2.below hd0 hb
        have HB2 := Lib.hid (hb.alloc hb.size (.cells #[.int .i64 q.1, .int .i64 q.2] 35))
        unfold Sm at hq1
        have w4 : IntKind.i64.wrap (x + gI q.1 q.2) = x + gI q.1 q.2 := IntWalk.i64_in _ (by omega)
        have q1 : IntKind.i64.wrap ((k : Int) + 1) = (k : Int) + 1 := IntWalk.i64_in _ (by omega)
        clear hd0 hqe hb hgb hb1 hx hq1
        go_wp2_with fail
        refine (greatestDivisor_any _ _ _ hw1 hw2).mono ?_
        rintro e w' ⟨rfl, nq, rfl⟩
        go_wp2
        clear q1
        go_roundw
        case rel => exact ⟨k + 1, by omega, by go_num, by rw [HNX.out], belN HB2.out nq⟩
        case measure => simp [intOf]; omega
      · obtain rfl : k = ne := by omega
        have HE := Lib.hid (show bnS E k = bnT l by rw [HT.out, ← HNE.out])
        rw [HE.out]
        obtain ⟨t, ht⟩ : ∃ t, t = bnT l := ⟨_, rfl⟩
        have htb := HTB.out
        rw [← ht] at htb ⊢
        have HTT := Lib.hid ht
        have hhb := half_bd (x := t) (by rw [← HN.out] at htb; omega)
        have w1' : IntKind.i64.wrap (t.tdiv 2) = t.tdiv 2 := IntWalk.i64_in _ (by rw [← HN.out] at htb; omega)
        have w2' : IntKind.i64.wrap (t.tdiv 2 + 1) = t.tdiv 2 + 1 := IntWalk.i64_in _ (by rw [← HN.out] at htb; omega)
        have hVl := FS.below HV.out hb
        have HB3 := Lib.hid (bel2 HB0.out hb)
        clear ht htb hhb hb
        by_cases h2 : l.length ≤ 2
        · have HR := Lib.hid (show bnL l = t.tdiv 2 + 1 by unfold bnL; rw [if_pos h2, HTT.out])
          have HFL := Lib.hid (show decide (l.length ≤ 2) = true from decide_eq_true h2)
          clear h2
          go_wp2_with fail
          refine (isFlat_any _ B _ l hVl).mono ?_
          rintro e w' ⟨rfl, rfl⟩
          rw [HFL.out]
          go_wp2
          go_ret2
          exact givesZB_yes ((bnR_yes HQ.out).trans HR.out) rfl HB3.out
        · have HR := Lib.hid (show bnL l = t by unfold bnL; rw [if_neg h2, HTT.out])
          have HFL := Lib.hid (show decide (l.length ≤ 2) = false from decide_eq_false h2)
          clear h2
          go_wp2_with fail
          refine (isFlat_any _ B _ l hVl).mono ?_
          rintro e w' ⟨rfl, rfl⟩
          rw [HFL.out]
          go_wp2
          go_ret2
          exact givesZB_yes ((bnR_yes HQ.out).trans HR.out) rfl HB3.out
theorem bnL_bd {l : List Pt} (h : ∀ q ∈ l, Sm 1000 q) (hz : l.length ≤ 40) : 0 ≤ bnL l ∧ bnL l ≤ 200000 := by
  have h1 := bnT_bd h
  have h2 := half_bd (x := bnT l) (by omega)
  unfold bnL
  split <;> omega
theorem arL_bd {l : List Pt} (h : ∀ q ∈ l, Sm 1000 q) (hz : l.length ≤ 100000) : -200000000000 ≤ arL l ∧ arL l ≤ 200000000000 := by
  have h1 := arS_bd h l.length (Nat.le_refl _)
  unfold arL
  omega
theorem tdiv2_bd {x : Int} (h : -4000000000000 ≤ x ∧ x ≤ 4000000000000) : -4000000000000 ≤ x.tdiv 2 ∧ x.tdiv 2 ≤ 4000000000000 := by
  have h1 := Int.natAbs_tdiv x 2
  have h2 := Nat.div_le_self x.natAbs (2 : Int).natAbs
  have h3 : (x.tdiv 2).natAbs ≤ x.natAbs := by rw [h1]; exact h2
  omega
theorem specInnerPoints_any (w : World) (B : Nat) (v : Value) (l : List Pt) (h : PtS w B v l) : Calls Try.prog 16 #[v] w fun e w' => GivesZB (inR l) (pgB l) w e w' := by
  have H := Lib.hid h
  cases hq : pgB l
  · have HQ := Lib.hid hq
    clear hq h
    go_enter Try.func16, Try.ntmps16
    go_wp2_with fail
    refine (pyGood_any _ B _ l H.out).mono ?_
    rintro e w1 ⟨rfl, b1⟩
    rw [HQ.out]
    go_wp2
    go_ret2
    exact givesZB_no (inR_no HQ.out) rfl b1
  · have HQ := Lib.hid hq
    obtain ⟨hsm, h0, hz⟩ := pg_sm hq
    have hbb := bnL_bd hsm hz
    have hab := arL_bd hsm (by omega)
    obtain ⟨a, ha⟩ : ∃ a, a = arL l := ⟨_, rfl⟩
    obtain ⟨b, hb⟩ : ∃ b, b = bnL l := ⟨_, rfl⟩
    have HA := Lib.hid ha
    have HBB := Lib.hid hb
    rw [← ha] at hab
    rw [← hb] at hbb
    have ht := tdiv2_bd (x := a - b + 2) (by omega)
    have w1' : IntKind.i64.wrap (a - b) = a - b := IntWalk.i64_in _ (by omega)
    have w2' : IntKind.i64.wrap (a - b + 2) = a - b + 2 := IntWalk.i64_in _ (by omega)
    have w3' : IntKind.i64.wrap ((a - b + 2).tdiv 2) = (a - b + 2).tdiv 2 := IntWalk.i64_in _ (by omega)
    have HZ := Lib.hid (show l.length ≤ 100000 by omega)
    have HSM := Lib.hid hsm
    obtain ⟨A, cap, rfl, -, -⟩ := PtS.parts h
    clear hq h ha hb ht hab hbb hsm hz
    by_cases h2 : l.length < 3
    · have HR := Lib.hid (show inL l = 0 by unfold inL; rw [if_pos (by omega)])
      have h2' : (l.length : Int) < 3 := by omega
      go_enter Try.func16, Try.ntmps16
      go_wp2_with fail
      refine (pyGood_any _ B _ l H.out).mono ?_
      rintro e w1 ⟨rfl, b1⟩
      rw [HQ.out]
      go_wp2
      go_ret2
      exact givesZB_yes ((inR_yes HQ.out).trans HR.out) rfl b1
    · have HR := Lib.hid (show inL l = (a - b + 2).tdiv 2 by unfold inL; rw [if_neg (by omega), HA.out, HBB.out])
      have h2' : ¬ (l.length : Int) < 3 := by omega
      go_enter Try.func16, Try.ntmps16
      go_wp2_with fail
      refine (pyGood_any _ B _ l H.out).mono ?_
      rintro e w1 ⟨rfl, b1⟩
      rw [HQ.out]
      have h1 := Lib.hid (FS.below H.out b1)
      go_wp2_with fail
      refine (pyArea_any _ B _ l h1.out HZ.out HSM.out).mono ?_
      rintro e w2 ⟨rfl, b2⟩
      rw [← HA.out]
      have h2 := Lib.hid (FS.below h1.out b2)
      go_wp2_with fail
      refine (pyBoundary_any _ B _ l h2.out HQ.out).mono ?_
      rintro e w3 ⟨rfl, b3⟩
      rw [← HBB.out]
      go_wp2
      go_ret2
      exact givesZB_yes ((inR_yes HQ.out).trans HR.out) rfl (bel2 (bel2 b1 b2) b3)
theorem implInnerPoints_any (w : World) (B : Nat) (v : Value) (l : List Pt) (h : PtS w B v l) : Calls Try.prog 15 #[v] w fun e w' => GivesZB (inR l) (pgB l) w e w' := by
  have H := Lib.hid h
  cases hq : pgB l
  · have HQ := Lib.hid hq
    clear hq h
    go_enter Try.func15, Try.ntmps15
    go_wp2_with fail
    refine (implBoundaryPoints_any _ B _ l H.out).mono ?_
    rintro e w1 ⟨rfl, b1⟩
    rw [HQ.out]
    go_wp2
    go_ret2
    exact givesZB_no (inR_no HQ.out) rfl b1
  · have HQ := Lib.hid hq
    obtain ⟨hsm, h0, hz⟩ := pg_sm hq
    have hbb := bnL_bd hsm hz
    have hab := arL_bd hsm (by omega)
    obtain ⟨a, ha⟩ : ∃ a, a = arL l := ⟨_, rfl⟩
    obtain ⟨b, hb⟩ : ∃ b, b = bnL l := ⟨_, rfl⟩
    have HA := Lib.hid ha
    have HBB := Lib.hid hb
    rw [← ha] at hab
    rw [← hb] at hbb
    have ht := tdiv2_bd (x := a - b + 2) (by omega)
    have w1' : IntKind.i64.wrap (a - b) = a - b := IntWalk.i64_in _ (by omega)
    have w2' : IntKind.i64.wrap (a - b + 2) = a - b + 2 := IntWalk.i64_in _ (by omega)
    have w3' : IntKind.i64.wrap ((a - b + 2).tdiv 2) = (a - b + 2).tdiv 2 := IntWalk.i64_in _ (by omega)
    have HZ := Lib.hid (show l.length ≤ 100000 by omega)
    have HL0 := Lib.hid (show 0 < l.length by omega)
    have HSM := Lib.hid hsm
    clear hq h ha hb ht hab hbb hsm hz
    by_cases h2 : l.length ≤ 2
    · have HR := Lib.hid (show inL l = 0 by unfold inL; rw [if_pos h2])
      have HFL := Lib.hid (show decide (l.length ≤ 2) = true from decide_eq_true h2)
      clear h2 h0
      go_enter Try.func15, Try.ntmps15
      go_wp2_with fail
      refine (implBoundaryPoints_any _ B _ l H.out).mono ?_
      rintro e w1 ⟨rfl, b1⟩
      rw [HQ.out, bnR_yes HQ.out, ← HBB.out]
      have h1 := Lib.hid (FS.below H.out b1)
      go_wp2_with fail
      refine (isFlat_any _ B _ l h1.out).mono ?_
      rintro e w' ⟨rfl, rfl⟩
      rw [HFL.out]
      go_wp2
      go_ret2
      exact givesZB_yes ((inR_yes HQ.out).trans HR.out) rfl b1
    · have HR := Lib.hid (show inL l = (a - b + 2).tdiv 2 by unfold inL; rw [if_neg h2, HA.out, HBB.out])
      have HFL := Lib.hid (show decide (l.length ≤ 2) = false from decide_eq_false h2)
      clear h2 h0
      go_enter Try.func15, Try.ntmps15
      go_wp2_with fail
      refine (implBoundaryPoints_any _ B _ l H.out).mono ?_
      rintro e w1 ⟨rfl, b1⟩
      rw [HQ.out, bnR_yes HQ.out, ← HBB.out]
      have h1 := Lib.hid (FS.below H.out b1)
      go_wp2_with fail
      refine (isFlat_any _ B _ l h1.out).mono ?_
      rintro e w' ⟨rfl, rfl⟩
      rw [HFL.out]
      go_wp2_with fail
      refine (doubleAreaOf_any _ B _ l h1.out HL0.out HZ.out HSM.out).mono ?_
      rintro e w2 ⟨rfl, b2⟩
      rw [← HA.out]
      go_wp2
      go_ret2
      exact givesZB_yes ((inR_yes HQ.out).trans HR.out) rfl (bel2 b1 b2)
end Go.Proofs.Ytamejfeaniokfaa

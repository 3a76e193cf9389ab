/-
  ParseStar of the program: what the call returns.
  Conditions: the text is shorter than a thousand million bytes; the tables and sentinels read as the program's and the library's text lays them.
-/
import Derived.Test.YthegkifhbgopoaaDoorStPars
namespace Go.Proofs.YthegkifhbgopoaaDoor
set_option linter.unusedSimpArgs false
set_option linter.unusedVariables false
open Go.ChangeShapes Go.WideShapes Go.ChangeAt Go.RowKit

theorem part_tm3 (zs : List Int) (j : Nat) (hj : j * 3 + 2 < zs.length) : (((part zs (j * 3)).set (j * 3) (gd zs (j * 3))).set (j * 3 + 1) (gd zs (j * 3 + 1))).set (j * 3 + 2) (gd zs (j * 3 + 2)) = part zs ((j + 1) * 3) := by
  rw [part_set zs (j * 3) (by omega), part_set zs (j * 3 + 1) (by omega), part_set zs (j * 3 + 2) hj]
  congr 1
  omega
theorem td_tcV {qs : List (List UInt8)} {k : Nat} (hk : k < qs.length) : td (qs.map tcV) k = tcV qs[k] := by
  rw [td_eq _ _ (by simpa using hk), List.getElem_map]
theorem ent_ray : ∀ (args : Array Value) (w : World), (callFunc 26 args).run Tryd.prog w = .ok (.enter 26 args) w := enters_of Tryd.func26 (by kernel_rfl) rfl
/-- What a list's reading gives before its form is looked at. -/
def GivesEn (l : List UInt8) (w : World) (e : Ending) (w' : World) : Prop := ∃ (r : Value) (ok : Bool) (L : List Tm), e = .returned (.tuple #[r, .bool ok]) ∧ RyS w' w.heap.size r L ∧ Hid (plpB l = (ok && ryB L)) ∧ Hid (plpB l = true → plpR l = L) ∧ Below w.heap.size w w'
theorem givesEn_no {l : List UInt8} {w w' : World} (h : plpB l = false) (hb : Below w.heap.size w w') : GivesEn l w (.returned (.tuple #[.slice none 0 0, .bool false])) w' :=
  ⟨_, _, [], rfl, FS.nil_ _ _ _ _, Lib.hid (by rw [h]; rfl), Lib.hid (fun h' => by rw [h] at h'; cases h'), hb⟩
set_option maxHeartbeats 1000000 in
set_option maxRecDepth 100000 in
theorem parseEndedT_any (s : ByteArray) (w : World) (hs : s.size ≤ 1000000000) (hN : AllT w) : Calls Tryd.prog 25 #[.string s, .string ⟨#[59]⟩, .int .i64 10, .func (.func 26) #[] #[]] w fun e w' => GivesEn s.data.toList w e w' := by
  obtain ⟨i0, hi, hz0, hz1, hz2⟩ := info_parts infoRay
  have HW := Lib.hid (show ∀ W, Below w.heap.size w W → AllT W from fun W hW => hN.below hW)
  have HMM := Lib.hid hN.2
  clear hN
  go_enter Tryd.func25, Tryd.ntmps25
  go_wp2_with fail
  refine (splitN_m 11 (by decide) (by decide) s _ hs HMM.out).mono ?_
  rintro e w1 ⟨g, c, ps, rfl, hpt, HPS, h13, hc1, hc2, b1⟩
  have HP := Lib.hid hpt
  have HB1 := Lib.hid b1
  have HSZ := Lib.hid (fun k hk => skN_len HPS.out k hk)
  clear hpt b1
  rcases sk9_cases s.data.toList with ⟨qs, q, h1, h2, h3⟩ | ⟨qs, h1, h2, h3, h4⟩
  · have hps := HPS.out.trans h1
    have hlen := pc_len hps
    have hcl := HP.out qs.length (by omega)
    have hq := pc_last hps (by omega)
    have HNO := Lib.hid h3
    obtain ⟨p, hp⟩ : ∃ p, ps[qs.length] = p := ⟨_, rfl⟩
    rw [hp] at hcl hq
    have hem := pl_full (p := p) (by rw [hq]; exact h2)
    obtain ⟨m, hm⟩ : ∃ m, qs.length = m := ⟨_, rfl⟩
    obtain ⟨N, hN⟩ : ∃ N, ps.length = N := ⟨_, rfl⟩
    rw [hm] at hcl
    rw [hN] at h13 hc1 ⊢
    have q1 : IntKind.i64.wrap ((N : Int) - 1) = (m : Int) := by rw [IntWalk.i64_in _ (by omega)]; omega
    have l1 : m < N := by omega
    have z1 : (m : Int) < (N : Int) := by omega
    have z2 : (0 : Int) ≤ (m : Int) := by omega
    clear hp hq h1 h2 h3 hps hlen hm hN HP HPS HSZ
    go_wp2
    go_ret2
    exact givesEn_no HNO.out HB1.out
  · have hps := HPS.out.trans h1
    have hlen := pc_len hps
    have hcl := HP.out qs.length (by omega)
    have hq := pc_last hps (by omega)
    obtain ⟨p, hp⟩ : ∃ p, ps[qs.length] = p := ⟨_, rfl⟩
    rw [hp] at hcl hq
    have hem := pl_empty hq
    have HAT := Lib.hid (show ∀ k (hk : k < qs.length) (hk' : k < ps.length), ps[k].data.toList = qs[k] from fun k hk hk' => pc_at hps k hk hk')
    have HEND := Lib.hid (fun ho => plp_end h2 h3 ho)
    have HBAD := Lib.hid (show ∀ k (hk : k < qs.length), tcOk qs[k] = false → plpB s.data.toList = false from fun k hk ho => plp_tc (by rw [h2]; exact List.getElem_mem hk) ho)
    obtain ⟨zs, hzs⟩ : ∃ zs, zs = flatT (qs.map tcV) := ⟨_, rfl⟩
    obtain ⟨m, hm⟩ : ∃ m, qs.length = m := ⟨_, rfl⟩
    have HZ := Lib.hid hzs
    have HML := Lib.hid hm
    have HZL := Lib.hid (show zs.length = m * 3 by rw [hzs, flatT_len, List.length_map, hm])
    obtain ⟨N, hN⟩ : ∃ N, ps.length = N := ⟨_, rfl⟩
    have HNL := Lib.hid hN
    rw [hm] at hcl
    rw [hN] at h13 hc1 ⊢
    have q1 : IntKind.i64.wrap ((N : Int) - 1) = (m : Int) := by rw [IntWalk.i64_in _ (by omega)]; omega
    have l1 : m < N := by omega
    have hm12 : m ≤ 10 := by omega
    have z1 : (m : Int) < (N : Int) := by omega
    have z2 : (0 : Int) ≤ (m : Int) := by omega
    have z3 : (m : Int) ≤ (c : Int) := by omega
    have l3 : m ≤ c := by omega
    have l4 : ¬ c = 0 := by omega
    clear hp hq h1 h2 h3 h4 hps hlen hm hN HPS hzs
    go_wp2_with (refine wpList_make_full _ rfl _ _ 26 rfl w1.heap.size 37 i0 (.agg #[.int .i64 0, .int .i64 0, .int .i64 0]) 3 Tryd.underlying26 hi hz0 hz1 .i64 .i64 _ _ m rfl rfl rfl rfl (by rw [hz2]; omega) (by simp only [maxLen]; omega) (Nat.le_refl _) ?_; intro w2 hown hgrow)
    have hrow0 : w2.ownsRow w1.heap.size 37 3 (.slice (some ⟨w1.heap.size, 0, none⟩) m m) m (ints (part zs 0)) := by
      rw [show (madeCells (.agg #[.int .i64 0, .int .i64 0, .int .i64 0] : Value).cells (m * 3)).toList = ints (part zs 0) from by
        rw [show part zs 0 = List.replicate (m * 3) 0 by simp [part, HZL.out]]
        exact made_ints 3 _ (by omega)] at hown
      exact hown
    have hb0 : Below w1.heap.size w1 w2 := (Below.refl _ _).grown hgrow (Nat.le_refl _) (fun _ h => by cases h)
    clear hown hgrow q1
    go_loopw [36] (fun i wr => ∃ k : Nat, k ≤ m ∧ i = .int .i64 k ∧ wr.ownsRow w1.heap.size 37 3 (.slice (some ⟨w1.heap.size, 0, none⟩) m m) m (ints (part zs (k * 3))) ∧ Below w1.heap.size w1 wr ∧ Hid (∀ j (hj : j < qs.length), j < k → tcOk qs[j] = true)) (fun i _ => m - (intOf i).toNat)
    case atStart => exact ⟨0, by omega, rfl, by rw [Nat.zero_mul]; exact hrow0, hb0, Lib.hid fun j _ h => by omega⟩
    case round =>
      obtain ⟨k, hk, rfl, hrow, hb, hall⟩ := hrel
      clear hrow0 hb0
      by_cases hlt : k < m
      · have hc0 := HP.out k (by rw [HNL.out]; omega)
        have hc := (hb.cell (p := ⟨g, k, none⟩) (cell_lt hc0)).trans hc0
        have hsz := HSZ.out k (by rw [HNL.out]; omega)
        rw [size_lst, size_lst] at hsz
        obtain ⟨p, hp⟩ : ∃ p, ps[k]'(by rw [HNL.out]; omega) = p := ⟨_, rfl⟩
        rw [hp] at hc hsz
        have hpq : p.data.toList = qs[k]'(by rw [HML.out]; exact hlt) := by rw [← hp]; exact HAT.out k (by rw [HML.out]; exact hlt) _
        have HPQ := Lib.hid hpq
        have HBW := Lib.hid (bel2 HB1.out hb)
        have hkN : k < N := by omega
        clear hc0 hp hpq
        go_wp2_with fail
        refine (parseRay_any p _ (by omega) (HW.out _ HBW.out)).mono ?_
        rintro e w3 ⟨rfl, b3⟩
        rw [HPQ.out]
        have hrow3 : w3.ownsRow w1.heap.size 37 3 (.slice (some ⟨w1.heap.size, 0, none⟩) m m) m (ints (part zs (k * 3))) := FS.below (zs := part zs (k * 3)) hrow b3
        have hb3 := bel2 hb b3
        clear hrow hb b3 hc
        cases hq : tcOk (qs[k]'(by rw [HML.out]; exact hlt))
        · have HNO := Lib.hid (HBAD.out k (by rw [HML.out]; exact hlt) hq)
          clear hq
          go_wp2
          go_ret2
          exact givesEn_no HNO.out (bel2 HB1.out (hb3.alloc hb3.size _))
        · have HOK := Lib.hid hq
          clear hq
          have hl := HZL.out
          obtain ⟨e0, e1, e2⟩ := flatT_gd (l := qs.map tcV) (j := k) (by rw [List.length_map, HML.out]; exact hlt)
          rw [← HZ.out, td_tcV (by rw [HML.out]; exact hlt)] at e0 e1 e2
          obtain ⟨I, J, C, hV⟩ : ∃ I J C, tcV (qs[k]'(by rw [HML.out]; exact hlt)) = (I, J, C) := ⟨_, _, _, rfl⟩
          rw [hV] at e0 e1 e2 ⊢
          simp only at e0 e1 e2
          have f0 := World.ownsRow.frozenAt hrow3 (k * 3)
          have f1 := World.ownsRow.frozenAt hrow3 (k * 3 + 1)
          have f2 := World.ownsRow.frozenAt hrow3 (k * 3 + 2)
          have hcell : ∀ j, j < m * 3 → w3.cell? ⟨w1.heap.size, j, none⟩ = some (.int .i64 (gd (part zs (k * 3)) j)) := fun j hj => by
            rw [World.ownsRow.cellAt hrow3 j hj, getD_ints _ j (by rw [part_len zs _ (by omega)]; omega)]
          have d0 := hcell (k * 3) (by omega)
          have d1 := hcell (k * 3 + 1) (by omega)
          have d2 := hcell (k * 3 + 2) (by omega)
          have s0 := World.ownsRow.stored hrow3 (k * 3) (.int .i64 (gd zs (k * 3)))
          have s1 := World.ownsRow.stored s0.1 (k * 3 + 1) (.int .i64 (gd zs (k * 3 + 1)))
          have s2 := World.ownsRow.stored s1.1 (k * 3 + 2) (.int .i64 (gd zs (k * 3 + 2)))
          have hrow5 := s2.1
          rw [show (((ints (part zs (k * 3))).set (k * 3) (.int .i64 (gd zs (k * 3)))).set (k * 3 + 1) (.int .i64 (gd zs (k * 3 + 1)))).set (k * 3 + 2) (.int .i64 (gd zs (k * 3 + 2))) = ints (part zs ((k + 1) * 3)) from by rw [← part_tm3 zs k (by omega)]; unfold ints; simp only [List.map_set]] at hrow5
          have hb5 := ((hb3.setCell (p := ⟨w1.heap.size, k * 3, none⟩) (Nat.le_refl _) (.int .i64 (gd zs (k * 3)))).setCell (p := ⟨w1.heap.size, k * 3 + 1, none⟩) (Nat.le_refl _) (.int .i64 (gd zs (k * 3 + 1)))).setCell (p := ⟨w1.heap.size, k * 3 + 2, none⟩) (Nat.le_refl _) (.int .i64 (gd zs (k * 3 + 2)))
          rw [e0, e1, e2] at hrow5 hb5
          have HF := Lib.hid (And.intro (World.ownsRow.alloc hrow5 (.cells #[.int .i64 I, .int .i64 J, .int .i64 C] 37)) (hb5.alloc hb5.size (.cells #[.int .i64 I, .int .i64 J, .int .i64 C] 37)))
          have hnl : w1.heap.size < w3.heap.size := (World.ownsRow.lt hrow3 w1.heap.size rfl).2
          clear s0 s1 s2 hrow5 hb5 hrow3 hcell hl e0 e1 e2 hV
          go_wp2
          go_roundw
          case rel => exact ⟨k + 1, by omega, by go_num, HF.out.1, HF.out.2, Lib.hid fun j hj hjk => by
            by_cases e : j = k
            · subst e; exact HOK.out
            · exact hall.out j hj (by omega)⟩
          case measure => simp [intOf]; omega
      · obtain rfl : m = k := by omega
        have hl := HZL.out
        rw [part_end zs _ (by omega)] at hrow
        have HO := Lib.hid (HEND.out (fun p hp => by
          obtain ⟨j, hj, rfl⟩ := List.getElem_of_mem hp
          exact hall.out j hj (by rw [← HML.out]; exact hj)))
        have hr : RyS wr w1.heap.size (.slice (some ⟨w1.heap.size, 0, none⟩) m m) (qs.map tcV) := by
          unfold RyS
          rw [List.length_map, HML.out, ← HZ.out]
          exact hrow
        go_wp2
        go_ret2
        exact ⟨_, _, _, rfl, FS.base hr HB1.out.size, Lib.hid (by rw [HO.out.1]; rfl), Lib.hid (fun h => HO.out.2 (by rw [← HO.out.1]; exact h)), bel2 HB1.out hb⟩
def GivesIfP (l : List Tm) (B : Nat) (w : World) (e : Ending) (w' : World) : Prop := ∃ r, e = .returned (.tuple #[r, .bool (ryB l)]) ∧ RyS w' B r (stR l) ∧ Below w.heap.size w w'
theorem givesIfP_no {l : List Tm} {B : Nat} {w w' : World} (h : ryB l = false) (hb : Below w.heap.size w w') : GivesIfP l B w (.returned (.tuple #[.slice none 0 0, .bool false])) w' :=
  ⟨_, by rw [h], by unfold stR; rw [h]; exact FS.nil_ _ _ _ _, hb⟩
theorem givesIfP_yes {l : List Tm} {B : Nat} {v : Value} {w w' : World} (h : ryB l = true) (hv : RyS w' B v l) (hb : Below w.heap.size w w') : GivesIfP l B w (.returned (.tuple #[v, .bool true])) w' :=
  ⟨_, by rw [h], by unfold stR; rw [h]; exact hv, hb⟩
theorem starOrNone_any (w : World) (B : Nat) (v : Value) (l : List Tm) (h : RyS w B v l) : Calls Tryd.prog 27 #[v] w fun e w' => GivesIfP l B w e w' := by
  cases hl : ryB l
  · have HL := Lib.hid hl
    clear hl
    go_enter Tryd.func27, Tryd.ntmps27
    go_wp2_with fail
    refine (isStar_any _ B _ l h).mono ?_
    rintro e w1 ⟨rfl, b1⟩
    rw [HL.out]
    go_wp2
    go_ret2
    exact givesIfP_no HL.out b1
  · have HL := Lib.hid hl
    clear hl
    go_enter Tryd.func27, Tryd.ntmps27
    go_wp2_with fail
    refine (isStar_any _ B _ l h).mono ?_
    rintro e w1 ⟨rfl, b1⟩
    rw [HL.out]
    go_wp2
    go_ret2
    exact givesIfP_yes HL.out (FS.below h b1) b1
set_option maxHeartbeats 1000000 in
theorem implParseStar_any (s : ByteArray) (w : World) (hs : s.size ≤ 1000000000) (hN : Neut w) (hS : Names w) (hP : Pows w) (hE : Sents w) (hM : MaxM w) : Calls Tryd.prog 11 #[.string s] w fun e w' => GivesRyB (plpB s.data.toList) (plpR s.data.toList) w e w' := by
  go_enter Tryd.func11, Tryd.ntmps11
  go_wp2_with fail
  refine (parseEndedT_any s _ hs ⟨⟨hN, hS, hP, hE⟩, hM⟩).mono ?_
  rintro e w1 ⟨r, ok, L, rfl, hr, HB, HR, b1⟩
  cases ok
  · have HNO := Lib.hid (show plpB s.data.toList = false by rw [HB.out]; rfl)
    go_wp2
    go_ret2
    exact givesRyB_nil HNO.out (plpR_no HNO.out) b1
  · have HB2 := Lib.hid (show plpB s.data.toList = ryB L by rw [HB.out]; rfl)
    go_wp2_with fail
    refine (starOrNone_any _ _ _ _ hr).mono ?_
    rintro e w4 ⟨r4, rfl, hr4, b4⟩
    go_wp2
    go_ret2
    refine ⟨r4, by rw [HB2.out]; rfl, ?_, bel2 b1 b4⟩
    cases hz : ryB L
    · rw [plpR_no (HB2.out.trans hz)]
      rw [stR_no hz] at hr4
      exact hr4
    · rw [HR.out (HB2.out.trans hz)]
      rw [stR_yes hz] at hr4
      exact hr4
end Go.Proofs.YthegkifhbgopoaaDoor

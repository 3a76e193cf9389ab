/-
  ParsePolygon of the program: what each call returns.
  Conditions: the text is shorter than a thousand million bytes; the tables and sentinels read as the program's and the library's text lays them.
-/
import Derived.Test.YtiopinhdfoinoaaGreatDoorPgPrM
import Derived.Test.YtiopinhdfoinoaaGreatDoorSTerm
namespace Go.Proofs.YtiopinhdfoinoaaGreatDoor
set_option linter.unusedSimpArgs false
set_option linter.unusedVariables false
open Go.ChangeShapes Go.WideShapes Go.ChangeAt Go.RowKit

theorem pd_ppV {qs : List (List UInt8)} {k : Nat} (hk : k < qs.length) : pd (qs.map ppV) k = ppV qs[k] := by
  rw [pd_eq _ _ (by simpa using hk), List.getElem_map]
theorem part_pt2 (zs : List Int) (j : Nat) (hj : j * 2 + 1 < zs.length) : ((part zs (j * 2)).set (j * 2) (gd zs (j * 2))).set (j * 2 + 1) (gd zs (j * 2 + 1)) = part zs ((j + 1) * 2) := by
  rw [part_set zs (j * 2) (by omega), part_set zs (j * 2 + 1) hj]
  congr 1
  omega
/-- A point's two cells in a block of the call's own, not frozen. -/
def Y2 (w : World) (g : Nat) (t : Pt) : Prop := P2 w g t ∧ w.frozen? ⟨g, 0, none⟩ = false ∧ w.frozen? ⟨g, 1, none⟩ = false
theorem Y2.below {w w' : World} {g : Nat} {t : Pt} (h : Y2 w g t) (hb : Below w.heap.size w w') : Y2 w' g t := by
  obtain ⟨h1, h2, h3⟩ := h
  have hg := cell_lt h1.1
  exact ⟨P2.below h1 hb, (hb.frozen (p := ⟨g, 0, none⟩) hg).trans h2, (hb.frozen (p := ⟨g, 1, none⟩) hg).trans h3⟩
theorem Y2.new (w : World) (t : Pt) : Y2 (w.alloc (.cells #[.int .i64 t.1, .int .i64 t.2] 30)) w.heap.size t := by
  refine ⟨P2.new _ _ _, ?_, ?_⟩ <;> simp [go_sem]
theorem P2.resultsB {w : World} {g : Nat} {t : Pt} (h : P2 w g t) {fn : Func} {p u : Tmp} {ts : Array Value} {v : Value} (hr : fn.results = #[.cell p 30, .tmp u]) (hp : ts.getD p undef = .pointer (some ⟨g, 0, none⟩)) (hu : ts.getD u undef = v) : (Go.results fn ts).run Tryz.prog w = .ok (.tuple #[ptV t, v]) w := by
  rw [results_cell_tmp hr, hp, hu]
  rw [show (asAddr (Value.pointer (some ⟨g, 0, none⟩))).run Tryz.prog w = .ok ⟨g, 0, none⟩ w from rfl]
  simp only [Result.andThen]
  rw [P2.load h]
set_option maxHeartbeats 1000000 in
theorem parsePoint_any (s : ByteArray) (w : World) (hs : s.size ≤ 1000000000) (hN : AllT w) : Calls Tryz.prog 38 #[.string s] w fun e w' => e = .returned (.tuple #[ptV (ppV s.data.toList), .bool (cuOk s.data.toList)]) ∧ Below w.heap.size w w' := by
  have HW := Lib.hid (show ∀ W, Below w.heap.size w W → AllT W from fun W hW => hN.below hW)
  clear hN
  have HZ0 := Lib.hid (Y2.new w (0, 0))
  have HB0 := Lib.hid ((Below.refl w.heap.size w).alloc (Nat.le_refl _) (.cells #[.int .i64 0, .int .i64 0] 30))
  go_enter Tryz.func38, Tryz.ntmps38
  go_wp2_with fail
  refine (parsePair_any s _ hs (HW.out _ HB0.out)).mono ?_
  rintro e w1 ⟨rfl, b1⟩
  have HB1 := Lib.hid (bel2 HB0.out b1)
  obtain ⟨⟨z0, z1⟩, z3, z4⟩ := HZ0.out.below b1
  clear b1
  obtain ⟨x, hx⟩ : ∃ x, x = pnV (cuI s.data.toList) := ⟨_, rfl⟩
  obtain ⟨y, hy⟩ : ∃ y, y = pnV (cuJ s.data.toList) := ⟨_, rfl⟩
  have HV := Lib.hid (show ppV s.data.toList = (x, y) by rw [hx, hy]; rfl)
  rw [← hx, ← hy]
  clear hx hy
  go_wp2_with fail
  refine bodyPost_ret ((P2.stores (s := (0, 0)) ⟨z0, z1⟩ (x, y)).resultsB rfl rfl rfl) rfl ⟨?_, ?_⟩
  · rw [HV.out]; rfl
  · exact (HB1.out.setCell (Nat.le_refl _) _).setCell (Nat.le_refl _) _
theorem ent_point : ∀ (args : Array Value) (w : World), (callFunc 38 args).run Tryz.prog w = .ok (.enter 38 args) w := enters_of Tryz.func38 (by kernel_rfl) rfl
/-- What a list's reading gives before its form is looked at. -/
def GivesEnP (l : List UInt8) (w : World) (e : Ending) (w' : World) : Prop := ∃ (r : Value) (ok : Bool) (L : List Pt), e = .returned (.tuple #[r, .bool ok]) ∧ PtS w' w.heap.size r L ∧ Hid (pypB l = (ok && pgB L)) ∧ Hid (pypB l = true → pypR l = L) ∧ Below w.heap.size w w'
theorem givesEnP_no {l : List UInt8} {w w' : World} (h : pypB l = false) (hb : Below w.heap.size w w') : GivesEnP l w (.returned (.tuple #[.slice none 0 0, .bool false])) w' :=
  ⟨_, _, [], rfl, FS.nil_ _ _ _ _, Lib.hid (by rw [h]; rfl), Lib.hid (fun h' => by rw [h] at h'; cases h'), hb⟩
set_option maxHeartbeats 1000000 in
set_option maxRecDepth 100000 in
theorem parseEndedP_any (s : ByteArray) (w : World) (hs : s.size ≤ 1000000000) (hN : AllT w) : Calls Tryz.prog 37 #[.string s, .string ⟨#[59]⟩, .int .i64 40, .func (.func 38) #[] #[]] w fun e w' => GivesEnP s.data.toList w e w' := by
  obtain ⟨i0, hi, hz0, hz1, hz2⟩ := info_parts infoPoint
  have HW := Lib.hid (show ∀ W, Below w.heap.size w W → AllT W from fun W hW => hN.below hW)
  have HMM := Lib.hid hN.2
  clear hN
  go_enter Tryz.func37, Tryz.ntmps37
  go_wp2_with fail
  refine (splitN_m 41 (by decide) (by decide) s _ hs HMM.out).mono ?_
  rintro e w1 ⟨g, c, ps, rfl, hpt, HPS, h41, hc1, hc2, b1⟩
  have HP := Lib.hid hpt
  have HB1 := Lib.hid b1
  have HSZ := Lib.hid (fun k hk => skN_len HPS.out k hk)
  clear hpt b1
  rcases skP_cases s.data.toList with ⟨qs, q, h1, h2, h3⟩ | ⟨qs, h1, h2, h3, h4⟩
  · have hps := HPS.out.trans h1
    have hlen := pc_len hps
    have hcl := HP.out qs.length (by omega)
    have hq := pc_last hps (by omega)
    have HNO := Lib.hid h3
    obtain ⟨p, hp⟩ : ∃ p, ps[qs.length] = p := ⟨_, rfl⟩
    rw [hp] at hcl hq
    have hem := pl_full (p := p) (by rw [hq]; exact h2)
    obtain ⟨m, hm⟩ : ∃ m, qs.length = m := ⟨_, rfl⟩
    obtain ⟨N, hN⟩ : ∃ N, ps.length = N := ⟨_, rfl⟩
    rw [hm] at hcl
    rw [hN] at h41 hc1 ⊢
    have q1 : IntKind.i64.wrap ((N : Int) - 1) = (m : Int) := by rw [IntWalk.i64_in _ (by omega)]; omega
    have l1 : m < N := by omega
    have z1 : (m : Int) < (N : Int) := by omega
    have z2 : (0 : Int) ≤ (m : Int) := by omega
    clear hp hq h1 h2 h3 hps hlen hm hN HP HPS HSZ
    go_wp2
    go_ret2
    exact givesEnP_no HNO.out HB1.out
  · have hps := HPS.out.trans h1
    have hlen := pc_len hps
    have hcl := HP.out qs.length (by omega)
    have hq := pc_last hps (by omega)
    obtain ⟨p, hp⟩ : ∃ p, ps[qs.length] = p := ⟨_, rfl⟩
    rw [hp] at hcl hq
    have hem := pl_empty hq
    have HAT := Lib.hid (show ∀ k (hk : k < qs.length) (hk' : k < ps.length), ps[k].data.toList = qs[k] from fun k hk hk' => pc_at hps k hk hk')
    have HEND := Lib.hid (fun ho => pyp_end h2 h3 ho)
    have HBAD := Lib.hid (show ∀ k (hk : k < qs.length), cuOk qs[k] = false → pypB s.data.toList = false from fun k hk ho => pyp_tc (by rw [h2]; exact List.getElem_mem hk) ho)
    obtain ⟨zs, hzs⟩ : ∃ zs, zs = flatP (qs.map ppV) := ⟨_, rfl⟩
    obtain ⟨m, hm⟩ : ∃ m, qs.length = m := ⟨_, rfl⟩
    have HZ := Lib.hid hzs
    have HML := Lib.hid hm
    have HZL := Lib.hid (show zs.length = m * 2 by rw [hzs, flatP_len, List.length_map, hm])
    obtain ⟨N, hN⟩ : ∃ N, ps.length = N := ⟨_, rfl⟩
    have HNL := Lib.hid hN
    rw [hm] at hcl
    rw [hN] at h41 hc1 ⊢
    have q1 : IntKind.i64.wrap ((N : Int) - 1) = (m : Int) := by rw [IntWalk.i64_in _ (by omega)]; omega
    have l1 : m < N := by omega
    have hm12 : m ≤ 40 := by omega
    have z1 : (m : Int) < (N : Int) := by omega
    have z2 : (0 : Int) ≤ (m : Int) := by omega
    have z3 : (m : Int) ≤ (c : Int) := by omega
    have l3 : m ≤ c := by omega
    have l4 : ¬ c = 0 := by omega
    clear hp hq h1 h2 h3 h4 hps hlen hm hN HPS hzs
    go_wp2_with (refine wpList_make_full _ rfl _ _ 23 rfl w1.heap.size 30 i0 (.agg #[.int .i64 0, .int .i64 0]) 2 Tryz.underlying23 hi hz0 hz1 .i64 .i64 _ _ m rfl rfl rfl rfl (by rw [hz2]; omega) (by simp only [maxLen]; omega) (Nat.le_refl _) ?_; intro w2 hown hgrow)
    have hrow0 : w2.ownsRow w1.heap.size 30 2 (.slice (some ⟨w1.heap.size, 0, none⟩) m m) m (ints (part zs 0)) := by
      rw [show (madeCells (.agg #[.int .i64 0, .int .i64 0] : Value).cells (m * 2)).toList = ints (part zs 0) from by
        rw [show part zs 0 = List.replicate (m * 2) 0 by simp [part, HZL.out]]
        exact made_ints 2 _ (by omega)] at hown
      exact hown
    have hb0 : Below w1.heap.size w1 w2 := (Below.refl _ _).grown hgrow (Nat.le_refl _) (fun _ h => by cases h)
    clear hown hgrow q1
    go_loopw [36] (fun i wr => ∃ k : Nat, k ≤ m ∧ i = .int .i64 k ∧ wr.ownsRow w1.heap.size 30 2 (.slice (some ⟨w1.heap.size, 0, none⟩) m m) m (ints (part zs (k * 2))) ∧ Below w1.heap.size w1 wr ∧ Hid (∀ j (hj : j < qs.length), j < k → cuOk qs[j] = true)) (fun i _ => m - (intOf i).toNat)
    case atStart => exact ⟨0, by omega, rfl, by rw [Nat.zero_mul]; exact hrow0, hb0, Lib.hid fun j _ h => by omega⟩
    case round =>
      obtain ⟨k, hk, rfl, hrow, hb, hall⟩ := hrel
      clear hrow0 hb0
      by_cases hlt : k < m
      · have hc0 := HP.out k (by rw [HNL.out]; omega)
        have hc := (hb.cell (p := ⟨g, k, none⟩) (cell_lt hc0)).trans hc0
        have hsz := HSZ.out k (by rw [HNL.out]; omega)
        rw [size_lst, size_lst] at hsz
        obtain ⟨p, hp⟩ : ∃ p, ps[k]'(by rw [HNL.out]; omega) = p := ⟨_, rfl⟩
        rw [hp] at hc hsz
        have hpq : p.data.toList = qs[k]'(by rw [HML.out]; exact hlt) := by rw [← hp]; exact HAT.out k (by rw [HML.out]; exact hlt) _
        have HPQ := Lib.hid hpq
        have HBW := Lib.hid (bel2 HB1.out hb)
        have hkN : k < N := by omega
        clear hc0 hp hpq
        go_wp2_with fail
        refine (parsePoint_any p _ (by omega) (HW.out _ HBW.out)).mono ?_
        rintro e w3 ⟨rfl, b3⟩
        rw [HPQ.out]
        have hrow3 : w3.ownsRow w1.heap.size 30 2 (.slice (some ⟨w1.heap.size, 0, none⟩) m m) m (ints (part zs (k * 2))) := FS.below (zs := part zs (k * 2)) hrow b3
        have hb3 := bel2 hb b3
        clear hrow hb b3 hc
        cases hq : cuOk (qs[k]'(by rw [HML.out]; exact hlt))
        · have HNO := Lib.hid (HBAD.out k (by rw [HML.out]; exact hlt) hq)
          clear hq
          go_wp2
          go_ret2
          exact givesEnP_no HNO.out (bel2 HB1.out (hb3.alloc hb3.size _))
        · have HOK := Lib.hid hq
          clear hq
          have hl := HZL.out
          obtain ⟨e0, e1⟩ := flatP_gd (ps := qs.map ppV) (j := k) (by rw [List.length_map, HML.out]; exact hlt)
          rw [← HZ.out, pd_ppV (by rw [HML.out]; exact hlt)] at e0 e1
          obtain ⟨I, J, hV⟩ : ∃ I J, ppV (qs[k]'(by rw [HML.out]; exact hlt)) = (I, J) := ⟨_, _, rfl⟩
          rw [hV] at e0 e1 ⊢
          simp only at e0 e1
          have f0 := World.ownsRow.frozenAt hrow3 (k * 2)
          have f1 := World.ownsRow.frozenAt hrow3 (k * 2 + 1)
          have hcell : ∀ j, j < m * 2 → w3.cell? ⟨w1.heap.size, j, none⟩ = some (.int .i64 (gd (part zs (k * 2)) j)) := fun j hj => by
            rw [World.ownsRow.cellAt hrow3 j hj, getD_ints _ j (by rw [part_len zs _ (by omega)]; omega)]
          have d0 := hcell (k * 2) (by omega)
          have d1 := hcell (k * 2 + 1) (by omega)
          have s0 := World.ownsRow.stored hrow3 (k * 2) (.int .i64 (gd zs (k * 2)))
          have s1 := World.ownsRow.stored s0.1 (k * 2 + 1) (.int .i64 (gd zs (k * 2 + 1)))
          have hrow5 := s1.1
          rw [show ((ints (part zs (k * 2))).set (k * 2) (.int .i64 (gd zs (k * 2)))).set (k * 2 + 1) (.int .i64 (gd zs (k * 2 + 1))) = ints (part zs ((k + 1) * 2)) from by rw [← part_pt2 zs k (by omega)]; unfold ints; simp only [List.map_set]] at hrow5
          have hb5 := (hb3.setCell (p := ⟨w1.heap.size, k * 2, none⟩) (Nat.le_refl _) (.int .i64 (gd zs (k * 2)))).setCell (p := ⟨w1.heap.size, k * 2 + 1, none⟩) (Nat.le_refl _) (.int .i64 (gd zs (k * 2 + 1)))
          rw [e0, e1] at hrow5 hb5
          have HF := Lib.hid (And.intro (World.ownsRow.alloc hrow5 (.cells #[.int .i64 I, .int .i64 J] 30)) (hb5.alloc hb5.size (.cells #[.int .i64 I, .int .i64 J] 30)))
          have hnl : w1.heap.size < w3.heap.size := (World.ownsRow.lt hrow3 w1.heap.size rfl).2
          clear s0 s1 hrow5 hb5 hrow3 hcell hl e0 e1 hV
          go_wp2
          go_roundw
          case rel => exact ⟨k + 1, by omega, by go_num, HF.out.1, HF.out.2, Lib.hid fun j hj hjk => by
            by_cases e : j = k
            · subst e; exact HOK.out
            · exact hall.out j hj (by omega)⟩
          case measure => simp [intOf]; omega
      · obtain rfl : m = k := by omega
        have hl := HZL.out
        rw [part_end zs _ (by omega)] at hrow
        have HO := Lib.hid (HEND.out (fun p hp => by
          obtain ⟨j, hj, rfl⟩ := List.getElem_of_mem hp
          exact hall.out j hj (by rw [← HML.out]; exact hj)))
        have hr : PtS wr w1.heap.size (.slice (some ⟨w1.heap.size, 0, none⟩) m m) (qs.map ppV) := by
          unfold PtS
          rw [List.length_map, HML.out, ← HZ.out]
          exact hrow
        go_wp2
        go_ret2
        exact ⟨_, _, _, rfl, FS.base hr HB1.out.size, Lib.hid (by rw [HO.out.1]; rfl), Lib.hid (fun h => HO.out.2 (by rw [← HO.out.1]; exact h)), bel2 HB1.out hb⟩
set_option maxHeartbeats 1000000 in
theorem implParsePolygon_any (s : ByteArray) (w : World) (hs : s.size ≤ 1000000000) (hN : Neut w) (hS : Names w) (hP : Pows w) (hE : Sents w) (hM : MaxM w) : Calls Tryz.prog 15 #[.string s] w fun e w' => GivesPtB (pypB s.data.toList) (pypR s.data.toList) w e w' := by
  go_enter Tryz.func15, Tryz.ntmps15
  go_wp2_with fail
  refine (parseEndedP_any s _ hs ⟨⟨hN, hS, hP, hE⟩, hM⟩).mono ?_
  rintro e w1 ⟨r, ok, L, rfl, hr, HB, HR, b1⟩
  cases ok
  · have HNO := Lib.hid (show pypB s.data.toList = false by rw [HB.out]; rfl)
    go_wp2
    go_ret2
    exact givesPtB_nil HNO.out (pypR_no HNO.out) b1
  · cases hz : pgB L
    · have HQ := Lib.hid hz
      have HNO := Lib.hid (show pypB s.data.toList = false by rw [HB.out, hz]; rfl)
      clear hz
      go_wp2_with fail
      refine (implIsPolygon_any _ _ _ _ hr).mono ?_
      rintro e w4 ⟨rfl, b4⟩
      rw [HQ.out]
      go_wp2
      go_ret2
      exact givesPtB_nil HNO.out (pypR_no HNO.out) (bel2 b1 b4)
    · have HQ := Lib.hid hz
      have HYES := Lib.hid (show pypB s.data.toList = true by rw [HB.out, hz]; rfl)
      clear hz
      go_wp2_with fail
      refine (implIsPolygon_any _ _ _ _ hr).mono ?_
      rintro e w4 ⟨rfl, b4⟩
      rw [HQ.out]
      go_wp2
      go_ret2
      exact givesPtB_yes HYES.out (by rw [HR.out HYES.out]; exact FS.below hr b4) (bel2 b1 b4)
end Go.Proofs.YtiopinhdfoinoaaGreatDoor

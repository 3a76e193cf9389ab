/-
  The polygon of a cell, of the program and of the model.
  Condition: the slice of terms reads as the list that is named, a polynomial; the cell's indexes lie in range.
-/
import Derived.Test.YtoecjdpeldcajaaCeL
import Derived.Test.YtoecjdpeldcajaaPgA
namespace Go.Proofs.Ytoecjdpeldcajaa
set_option linter.unusedSimpArgs false
set_option linter.unusedVariables false
open Go.ChangeShapes Go.WideShapes Go.ChangeAt Go.RowKit
open Go.Sort (grow)

def cptL (l : List Tm) (zs : List Int) : List Pt := zs.map fun n => ptO (td l n.toNat)
theorem cptL_len (l : List Tm) (zs : List Int) : (cptL l zs).length = zs.length := by simp [cptL]
theorem cptL_next (l : List Tm) (zs : List Int) (k m : Nat) (hk : k < zs.length) (hm : gd zs k = m) : cptL l (zs.take (k + 1)) = cptL l (zs.take k) ++ [ptO (td l m)] := by
  unfold cptL
  rw [List.take_add_one, List.getElem?_eq_getElem hk, ← gd_eq zs k hk, hm]
  simp
theorem cptL_pd (l : List Tm) (zs : List Int) (k m : Nat) (hk : k < zs.length) (hm : gd zs k = m) : pd (cptL l zs) k = ptO (td l m) := by
  rw [pd_eq _ _ (by rw [cptL_len]; exact hk)]
  unfold cptL
  rw [List.getElem_map, ← gd_eq zs k hk, hm]; rfl
theorem cptL_sm {l : List Tm} (hl : plB l = true) {zs : List Int} (h : ∀ n ∈ zs, 0 ≤ n ∧ n < l.length) : ∀ q ∈ cptL l zs, Sm 1000 q := fun q hq => by
  obtain ⟨n, hn, rfl⟩ := List.mem_map.1 hq
  have := h n hn
  exact ptO_sm (plB_at hl (show n.toNat < l.length by omega))
set_option maxHeartbeats 1000000 in
set_option maxRecDepth 100000 in
theorem cePolygon_any (w : World) (B B' : Nat) (v c : Value) (l : List Tm) (zs : List Int) (h : TmS w B v l) (hc : IS w B' c zs) (hl : plB l = true) (hz : ∀ n ∈ zs, 0 ≤ n ∧ n < l.length) (h12 : zs.length ≤ 12) :
    Calls Try.prog 55 #[v, c] w fun e w' => GivesPt (hulL (cptL l zs)) w e w' := by
  have HSM := Lib.hid (cptL_sm hl hz)
  have HZ := Lib.hid (fun (k : Nat) (hk : k < zs.length) => show ∃ m : Nat, gd zs k = m ∧ m < l.length by
    have := hz _ (gd_mem hk)
    exact ⟨(gd zs k).toNat, by omega, by omega⟩)
  obtain ⟨A, cap, rfl, hm, hp⟩ := TmS.parts h
  have HP := Lib.hid hp
  obtain ⟨A', cap', rfl, hm', hp'⟩ := hc.parts
  have HC := Lib.hid hp'
  obtain ⟨n, hn⟩ : ∃ n, n = l.length := ⟨_, rfl⟩
  have HN := Lib.hid hn
  obtain ⟨nz, hnz⟩ : ∃ nz, nz = zs.length := ⟨_, rfl⟩
  have HNZ := Lib.hid hnz
  rw [← hn, ← hnz]
  rw [← hnz] at h12
  clear hp h hc hm hm' hp' hz hl hn hnz
  go_enter Try.func55, Try.ntmps55
  go_wp2
  go_loopw [5, 10] (fun o i wr => ∃ k : Nat, k ≤ nz ∧ i = .int .i64 k ∧ PtS wr w.heap.size o (cptL l (zs.take k)) ∧ Below w.heap.size w wr) (fun _ i _ => nz - (intOf i).toNat)
  case atStart => exact ⟨0, by omega, rfl, by simpa [cptL, PtS, flatP] using FS.nil_ 57 2 w w.heap.size, Below.refl _ _⟩
  case round =>
    obtain ⟨k, hk, rfl, ho, hb⟩ := hrel
    by_cases hlt : k < nz
    · have hkz : k < zs.length := by rw [← HNZ.out]; exact hlt
      obtain ⟨m, hm, hml⟩ := HZ.out k hkz
      obtain ⟨g, rfl, hc0⟩ := HC.out k hkz
      obtain ⟨g1, rfl, ht0⟩ := HP.out m hml
      have hc1 := X3.below.box_old3 hc0 hb
      obtain ⟨c0, c1, c2⟩ := X3.below ht0 hb
      rw [hm] at hc1
      have hmn : m < n := by rw [HN.out]; exact hml
      have HNX := Lib.hid (cptL_next l zs k m hkz hm)
      have HLE := Lib.hid (show (cptL l (zs.take k)).length ≤ 12 by rw [cptL_len, List.length_take]; omega)
      have l1 : ((m : Nat) : Int) < (n : Int) := by omega
      have l2 : (0 : Int) ≤ (m : Int) := by omega
      clear hc0 ht0 hm hml
      go_wp2_with fail
      refine (cePoint_any _ _).mono ?_
      rintro e w3 ⟨rfl, hg⟩
      have bw : Below wr.heap.size wr w3 := hg.below
      have ho' := FS.below ho bw
      have hb' := bel2 hb bw
      obtain ⟨p, hpp⟩ : ∃ p, p = ptO (td l m) := ⟨_, rfl⟩
      rw [← hpp] at HNX ⊢
      clear bw hg c0 c1 c2 ho hb hpp hc1
      have hP2 := P2.new w3 p 57
      have hbA := hb'.alloc hb'.size (.cells #[.int .i64 p.1, .int .i64 p.2] 57)
      have hoA := FS.below ho' ((Below.refl _ w3).alloc (Nat.le_refl _) (.cells #[.int .i64 p.1, .int .i64 p.2] 57))
      go_wp2_with (at_builtin; refine wpList_append_pt _ rfl _ _ rfl w.heap.size _ (cptL l (zs.take k)) rfl hoA w3.heap.size p rfl hP2 (by have := HLE.out; omega) hbA.size ?_; intro v' w1 hown' hgrow)
      have hb2 : Below w.heap.size w w1 := hbA.grown hgrow hbA.size (fun g' hg' => (World.ownsRow.lt hoA g' hg').1)
      rw [← HNX.out] at hown'
      go_wp2
      go_roundw
      case rel => exact ⟨k + 1, by omega, by go_num, hown', hb2⟩
      case measure => simp [intOf]; omega
    · obtain rfl : k = nz := by omega
      rw [HNZ.out, List.take_length] at ho
      go_wp2_with fail
      refine (pyHull_any wr _ _ _ ho (by rw [cptL_len, ← HNZ.out]; omega) HSM.out).mono ?_
      rintro e w3 ⟨r3, rfl, hr3, b3⟩
      go_wp2
      go_ret
      exact ⟨r3, rfl, FS.base hr3 hb.size, bel2 hb b3⟩
theorem cpt_gd (l : List Tm) (zs : List Int) (k m : Nat) (hk : k < zs.length) (hm : gd zs k = m) : gd (flatP (cptL l zs)) (k * 2) = (td l m).1 ∧ gd (flatP (cptL l zs)) (k * 2 + 1) = (td l m).2.1 := by
  have h := flatP_gd (ps := cptL l zs) (j := k) (by rw [cptL_len]; exact hk)
  rw [cptL_pd l zs k m hk hm] at h
  exact h
set_option maxHeartbeats 1000000 in
set_option maxRecDepth 100000 in
theorem polygonOfCell_any (w : World) (B B' : Nat) (v c : Value) (l : List Tm) (zs : List Int) (h : TmS w B v l) (hc : IS w B' c zs) (hl : plB l = true) (hz : ∀ n ∈ zs, 0 ≤ n ∧ n < l.length) (h12 : zs.length ≤ 12) :
    Calls Try.prog 56 #[v, c] w fun e w' => GivesPt (hulL (cptL l zs)) w e w' := by
  have HSM := Lib.hid (cptL_sm hl hz)
  have HZ := Lib.hid (fun (k : Nat) (hk : k < zs.length) => show ∃ m : Nat, gd zs k = m ∧ m < l.length by
    have := hz _ (gd_mem hk)
    exact ⟨(gd zs k).toNat, by omega, by omega⟩)
  obtain ⟨A, cap, rfl, hm, hp⟩ := TmS.parts h
  have HP := Lib.hid hp
  obtain ⟨A', cap', rfl, hm', hp'⟩ := hc.parts
  have HC := Lib.hid hp'
  obtain ⟨n, hn⟩ : ∃ n, n = l.length := ⟨_, rfl⟩
  have HN := Lib.hid hn
  obtain ⟨nz, hnz⟩ : ∃ nz, nz = zs.length := ⟨_, rfl⟩
  have HNZ := Lib.hid hnz
  obtain ⟨fs, hfs⟩ : ∃ fs, fs = flatP (cptL l zs) := ⟨_, rfl⟩
  have HF := Lib.hid hfs
  have HFL := Lib.hid (show fs.length = nz * 2 by rw [hfs, flatP_len, cptL_len, hnz])
  rw [← hn, ← hnz]
  rw [← hnz] at h12
  obtain ⟨i0, hi, hz0, hz1, hz2⟩ := info_parts infoPoint
  clear hp h hc hm hm' hp' hz hl hn hnz hfs
  go_enter Try.func56, Try.ntmps56
  go_wp2_with (refine wpList_make_full _ rfl _ _ 24 rfl w.heap.size 57 i0 (.agg #[.int .i64 0, .int .i64 0]) 2 Try.underlying24 hi hz0 hz1 .i64 .i64 _ _ nz rfl rfl rfl rfl (by rw [hz2]; omega) (by simp only [maxLen]; omega) (Nat.le_refl _) ?_; intro w2 hown hgrow)
  have hrow0 : w2.ownsRow w.heap.size 57 2 (.slice (some ⟨w.heap.size, 0, none⟩) nz nz) nz (ints (part fs 0)) := by
    rw [show (madeCells (.agg #[.int .i64 0, .int .i64 0] : Value).cells (nz * 2)).toList = ints (part fs 0) from by
      rw [show part fs 0 = List.replicate (nz * 2) 0 by simp [part, HFL.out]]
      exact made_ints 2 _ (by omega)] at hown
    exact hown
  have hb0 : Below w.heap.size w w2 := (Below.refl _ w).grown hgrow (Nat.le_refl _) (fun _ h => by cases h)
  have hB : w.heap.size ≤ w.heap.size := Nat.le_refl _
  clear hown hgrow
  go_loopw [13] (fun i wr => ∃ j : Nat, j ≤ nz ∧ i = .int .i64 j ∧ wr.ownsRow w.heap.size 57 2 (.slice (some ⟨w.heap.size, 0, none⟩) nz nz) nz (ints (part fs (j * 2))) ∧ Below w.heap.size w wr) (fun i _ => nz - (intOf i).toNat)
  case atStart => exact ⟨0, by omega, rfl, by rw [Nat.zero_mul]; exact hrow0, hb0⟩
  case round =>
    obtain ⟨j, hj, rfl, hrow, hb⟩ := hrel
    clear hrow0 hb0
    by_cases hlt : j < nz
    · have hl := HFL.out
      have hjz : j < zs.length := by rw [← HNZ.out]; exact hlt
      obtain ⟨m, hm, hml⟩ := HZ.out j hjz
      obtain ⟨e0, e1⟩ := cpt_gd l zs j m hjz hm
      rw [← HF.out] at e0 e1
      obtain ⟨g, rfl, hc0⟩ := HC.out j hjz
      obtain ⟨g1, rfl, ht0⟩ := HP.out m hml
      have hc1 := X3.below.box_old3 hc0 hb
      obtain ⟨c0, c1, c2⟩ := X3.below ht0 hb
      rw [hm] at hc1
      have hmn : m < n := by rw [HN.out]; exact hml
      have l1 : ((m : Nat) : Int) < (n : Int) := by omega
      have l2 : (0 : Int) ≤ (m : Int) := by omega
      clear hc0 ht0 hm hml
      go_wp2_with fail
      refine (pointOf_any _ _).mono ?_
      rintro e w3 ⟨rfl, hg⟩
      have bw : Below wr.heap.size wr w3 := hg.below
      have hrow' : w3.ownsRow w.heap.size 57 2 (.slice (some ⟨w.heap.size, 0, none⟩) nz nz) nz (ints (part fs (j * 2))) := FS.below (zs := part fs (j * 2)) hrow bw
      have hb' := bel2 hb bw
      clear bw hg c0 c1 c2 hc1
      have f0 := World.ownsRow.frozenAt hrow' (j * 2)
      have f1 := World.ownsRow.frozenAt hrow' (j * 2 + 1)
      have hcell : ∀ q, q < nz * 2 → w3.cell? ⟨w.heap.size, q, none⟩ = some (.int .i64 (gd (part fs (j * 2)) q)) := fun q hq => by
        rw [World.ownsRow.cellAt hrow' q hq, getD_ints _ q (by rw [part_len fs _ (by omega)]; omega)]
      have d0 := hcell (j * 2) (by omega)
      have d1 := hcell (j * 2 + 1) (by omega)
      have s0 := World.ownsRow.stored hrow' (j * 2) (.int .i64 (gd fs (j * 2)))
      have s1 := World.ownsRow.stored s0.1 (j * 2 + 1) (.int .i64 (gd fs (j * 2 + 1)))
      have hrow3 := s1.1
      rw [show ((ints (part fs (j * 2))).set (j * 2) (.int .i64 (gd fs (j * 2)))).set (j * 2 + 1) (.int .i64 (gd fs (j * 2 + 1))) = ints (part fs ((j + 1) * 2)) from by rw [← part_pt fs j (by omega)]; unfold ints; simp only [List.map_set]] at hrow3
      have hb3 := (hb'.setCell (p := ⟨w.heap.size, j * 2, none⟩) hB (.int .i64 (gd fs (j * 2)))).setCell (p := ⟨w.heap.size, j * 2 + 1, none⟩) hB (.int .i64 (gd fs (j * 2 + 1)))
      rw [e0, e1] at hrow3 hb3
      have HG := Lib.hid (And.intro hrow3 hb3)
      clear s0 s1 hrow3 hb3 hrow' hrow hcell hl e0 e1 hb hb'
      go_wp2
      go_roundw
      case rel => exact ⟨j + 1, by omega, by go_num, HG.out.1, HG.out.2⟩
      case measure => simp [intOf]; omega
    · obtain rfl : j = nz := by omega
      have hl := HFL.out
      rw [part_end fs _ (by omega)] at hrow
      have ho : PtS wr w.heap.size (.slice (some ⟨w.heap.size, 0, none⟩) j j) (cptL l zs) := by
        unfold PtS
        rw [cptL_len, ← HNZ.out, ← HF.out]
        exact hrow
      clear hrow
      go_wp2_with fail
      refine (hullOf_any w wr _ _ _ ho (by rw [cptL_len, ← HNZ.out]; omega) HSM.out hb (Nat.le_refl _)).mono ?_
      rintro e w3 ⟨r3, rfl, hr3, b3⟩
      go_wp2
      go_ret
      exact ⟨r3, rfl, hr3, b3⟩
theorem cell_ok {l : List Tm} {P : VL} (hP : lls P = ceL l) {k : Nat} (hk : k < P.length) (hl : plB l = true) : (∀ n ∈ pll P k, 0 ≤ n ∧ n < l.length) ∧ (pll P k).length ≤ 12 ∧ cptL l (pll P k) ≠ [] := by
  have h1 : pll P k ∈ ceL l := by rw [← hP, ← lls_get hk (by rw [lls_len]; exact hk)]; exact List.getElem_mem _
  obtain ⟨h2, h3, h4⟩ := ceL_bd h1
  have := (plB_le hl).2
  refine ⟨h2, by omega, fun e => ?_⟩
  have := cptL_len l (pll P k)
  rw [e] at this
  simp at this
  omega
theorem pll_get {L : List (List Int)} {P : VL} (hP : lls P = L) {k : Nat} (hk : k < P.length) : pll P k = L.getD k [] := by
  have h1 : k < (lls P).length := by rw [lls_len]; exact hk
  rw [← lls_get hk h1]
  subst hP
  rw [List.getD_eq_getElem?_getD, List.getElem?_eq_getElem h1]; rfl
def cpB (l : List Tm) (i : Int) : Bool := plB l && inB i 0 (((ceL l).length : Int) - 1)
def cpR (l : List Tm) (i : Int) : List Pt := if cpB l i = true then hulL (cptL l ((ceL l).getD i.toNat [])) else []
theorem cpR_yes {l : List Tm} {i : Int} (h : cpB l i = true) : cpR l i = hulL (cptL l ((ceL l).getD i.toNat [])) := if_pos h
theorem cpR_no {l : List Tm} {i : Int} (h : cpB l i = false) : cpR l i = [] := if_neg (by simp [h])
theorem cpB_no {l : List Tm} {i : Int} (h : plB l = false) : cpB l i = false := by unfold cpB; rw [h]; rfl
theorem cpR_le (l : List Tm) (i : Int) : (cpR l i).length ≤ 1048576 := by
  cases h : cpB l i
  · rw [cpR_no h]; simp
  · rw [cpR_yes h]
    unfold cpB at h
    simp only [Bool.and_eq_true] at h
    obtain ⟨h1, h2⟩ := h
    obtain ⟨h3, h4⟩ := (inB_iff _ _ _).1 h2
    have hk : i.toNat < (ceL l).length := by omega
    rw [List.getD_eq_getElem?_getD, List.getElem?_eq_getElem hk]
    have h5 := ceL_bd (List.getElem_mem hk)
    have := (plB_le h1).2
    refine Nat.le_trans (hul_le fun e => ?_) (by rw [cptL_len]; simp only [Option.getD_some]; omega)
    have := congrArg List.length e
    rw [cptL_len] at this
    simp only [Option.getD_some, List.length_nil] at this
    omega
set_option maxHeartbeats 1000000 in
theorem specCellPolygon_any (w : World) (B : Nat) (v : Value) (l : List Tm) (i : Int) (h : TmS w B v l) : Calls Try.prog 28 #[v, .int .i64 i] w fun e w' => GivesPtB (cpB l i) (cpR l i) w e w' := by
  cases hl : plB l
  · have HL := Lib.hid hl
    have HN := Lib.hid (cpB_no (i := i) hl)
    clear hl
    go_enter Try.func28, Try.ntmps28
    go_wp2_with fail
    refine (plGood_any _ B _ l h).mono ?_
    rintro e w1 ⟨rfl, b1⟩
    rw [HL.out]
    go_wp2
    go_ret2
    exact givesPtB_nil HN.out (cpR_no HN.out) b1
  · have HL := Lib.hid hl
    clear hl
    go_enter Try.func28, Try.ntmps28
    go_wp2_with fail
    refine (plGood_any _ B _ l h).mono ?_
    rintro e w1 ⟨rfl, b1⟩
    have h1 := FS.below h b1
    rw [HL.out]
    go_wp2_with fail
    refine (ceOf_any w1 B _ l h1 HL.out).mono ?_
    rintro e w2 ⟨r, P, rfl, hLS, hP, b2⟩
    have h2 := FS.below h1 b2
    obtain ⟨A, cap, rfl, -, -⟩ := hLS.parts
    have hle := ceL_len (plB_le HL.out).2
    have hnp : P.length = (ceL l).length := by rw [← hP, lls_len]
    rw [hnp]
    clear hLS hP hnp
    obtain ⟨n, hn⟩ : ∃ n, n = (ceL l).length := ⟨_, rfl⟩
    rw [← hn] at hle ⊢
    have HN := Lib.hid (show cpB l i = inB i 0 ((n : Int) - 1) by unfold cpB; rw [HL.out, hn]; rfl)
    have HNC := Lib.hid hn
    clear hn
    have q1 : IntKind.i64.wrap ((n : Int) - 1) = (n : Int) - 1 := IntWalk.i64_in _ (by omega)
    go_wp2_with fail
    refine (l1In_any _ _ _ _).mono ?_
    rintro e w' ⟨rfl, rfl⟩
    cases hi : inB i 0 ((n : Int) - 1)
    · have HI := Lib.hid (HN.out.trans hi)
      clear hi
      go_wp2
      go_ret2
      exact givesPtB_nil HI.out (cpR_no HI.out) (bel2 b1 b2)
    · have HI := Lib.hid (HN.out.trans hi)
      obtain ⟨i1, i2⟩ := (inB_iff _ _ _).1 hi
      obtain ⟨k, rfl⟩ : ∃ k : Nat, i = k := ⟨i.toNat, by omega⟩
      clear hi
      go_wp2_with fail
      refine (ceOf_any w2 B _ l h2 HL.out).mono ?_
      rintro e w3 ⟨r, P, rfl, hLS, hP, b3⟩
      have h3 := FS.below h2 b3
      obtain ⟨A', cap', rfl, -, hp⟩ := hLS.parts
      have hnp : P.length = n := by rw [HNC.out, ← hP, lls_len]
      have hkp : k < P.length := by omega
      obtain ⟨g, rfl, hc⟩ := hp k hkp
      have his := hLS.2.at hkp
      obtain ⟨c1, c2, c3⟩ := cell_ok hP hkp HL.out
      have HZ := Lib.hid (pll_get hP hkp)
      have hkn : k < n := by omega
      rw [hnp]
      obtain ⟨cv, hcv⟩ : ∃ cv, cv = pvl P k := ⟨_, rfl⟩
      obtain ⟨zs, hzs⟩ : ∃ zs, zs = pll P k := ⟨_, rfl⟩
      rw [← hcv] at hc his
      rw [← hzs] at his c1 c2 HZ
      clear hLS hP hp hkp hnp hcv hzs c3
      go_wp2_with fail
      refine (cePolygon_any w3 B _ _ _ l zs h3 his HL.out c1 c2).mono ?_
      rintro e w4 ⟨r4, rfl, hr4, b4⟩
      go_wp2
      go_ret2
      exact givesPtB_yes HI.out (by rw [cpR_yes HI.out, Int.toNat_natCast, ← HZ.out]; exact FS.base hr4 (Nat.le_trans b1.size (Nat.le_trans b2.size b3.size))) (bel2 (bel2 (bel2 b1 b2) b3) b4)
set_option maxHeartbeats 1000000 in
theorem implCellPolygon_any (w : World) (B : Nat) (v : Value) (l : List Tm) (i : Int) (h : TmS w B v l) : Calls Try.prog 29 #[v, .int .i64 i] w fun e w' => GivesPtB (cpB l i) (cpR l i) w e w' := by
  cases hl : plB l
  · have HL := Lib.hid hl
    have HN := Lib.hid (cpB_no (i := i) hl)
    clear hl
    go_enter Try.func29, Try.ntmps29
    go_wp2_with fail
    refine (implCellsOf_any _ B _ l h).mono ?_
    rintro e w1 ⟨r, P, rfl, hLS, hP, b1⟩
    rw [HL.out]
    clear hLS hP
    go_wp2
    go_ret2
    exact givesPtB_nil HN.out (cpR_no HN.out) b1
  · have HL := Lib.hid hl
    clear hl
    go_enter Try.func29, Try.ntmps29
    go_wp2_with fail
    refine (implCellsOf_any _ B _ l h).mono ?_
    rintro e w1 ⟨r, P, rfl, hLS, hP, b1⟩
    rw [ceR_yes HL.out] at hP
    have h1 := FS.below h b1
    obtain ⟨A, cap, rfl, -, hp⟩ := hLS.parts
    have hle := ceL_len (plB_le HL.out).2
    have hnp : P.length = (ceL l).length := by rw [← hP, lls_len]
    obtain ⟨n, hn⟩ : ∃ n, n = P.length := ⟨_, rfl⟩
    have HN := Lib.hid (show cpB l i = inB i 0 ((n : Int) - 1) by unfold cpB; rw [HL.out, hn, hnp]; rfl)
    rw [← hnp, ← hn] at hle
    rw [HL.out]
    by_cases i1 : i < 0
    · have HI := Lib.hid (show cpB l i = false from HN.out.trans (by cases hq : inB i 0 ((n : Int) - 1); rfl; have := (inB_iff _ _ _).1 hq; omega))
      rw [← hn]
      clear hLS hP hp hnp hn
      go_wp2
      go_ret2
      exact givesPtB_nil HI.out (cpR_no HI.out) b1
    · obtain ⟨k, rfl⟩ : ∃ k : Nat, i = k := ⟨i.toNat, by omega⟩
      by_cases i2 : k < n
      · have HI := Lib.hid (show cpB l k = true from HN.out.trans ((inB_iff _ _ _).2 (by omega)))
        have hkp : k < P.length := by omega
        obtain ⟨g, rfl, hc⟩ := hp k hkp
        have his := hLS.2.at hkp
        obtain ⟨c1, c2, c3⟩ := cell_ok hP hkp HL.out
        have HZ := Lib.hid (pll_get hP hkp)
        rw [← hn]
        obtain ⟨cv, hcv⟩ : ∃ cv, cv = pvl P k := ⟨_, rfl⟩
        obtain ⟨zs, hzs⟩ : ∃ zs, zs = pll P k := ⟨_, rfl⟩
        rw [← hcv] at hc his
        rw [← hzs] at his c1 c2 HZ
        clear hLS hP hp hkp hnp hn hcv hzs c3
        go_wp2_with fail
        refine (polygonOfCell_any w1 B _ _ _ l zs h1 his HL.out c1 c2).mono ?_
        rintro e w4 ⟨r4, rfl, hr4, b4⟩
        go_wp2
        go_ret2
        exact givesPtB_yes HI.out (by rw [cpR_yes HI.out, Int.toNat_natCast, ← HZ.out]; exact FS.base hr4 b1.size) (bel2 b1 b4)
      · have HI := Lib.hid (show cpB l k = false from HN.out.trans (by cases hq : inB (k : Int) 0 ((n : Int) - 1); rfl; have := (inB_iff _ _ _).1 hq; omega))
        rw [← hn]
        have i3 : (n : Int) ≤ (k : Int) := by omega
        clear hLS hP hp hnp hn
        go_wp2
        go_ret2
        exact givesPtB_nil HI.out (cpR_no HI.out) b1
def caL (l : List Tm) : List Int := (ceL l).map fun zs => arL (hulL (cptL l zs))
def caR (l : List Tm) : List Int := if plB l = true then caL l else []
theorem caR_yes {l : List Tm} (h : plB l = true) : caR l = caL l := if_pos h
theorem caR_no {l : List Tm} (h : plB l = false) : caR l = [] := if_neg (by simp [h])
theorem caL_len (l : List Tm) : (caL l).length = (ceL l).length := by simp [caL]
theorem caR_le (l : List Tm) : (caR l).length ≤ 1048576 := by
  cases h : plB l
  · rw [caR_no h]; simp
  · rw [caR_yes h, caL_len]; have := ceL_len (plB_le h).2; omega
theorem caL_gd {l : List Tm} {P : VL} (hP : lls P = ceL l) {k : Nat} (hk : k < P.length) : gd (caL l) k = arL (hulL (cptL l (pll P k))) := by
  have h1 : k < (ceL l).length := by rw [← hP, lls_len]; exact hk
  rw [gd_eq _ _ (by rw [caL_len]; exact h1), pll_get hP hk, List.getD_eq_getElem?_getD, List.getElem?_eq_getElem h1]
  simp [caL]
theorem caL_next {l : List Tm} {k : Nat} (hk : k < (caL l).length) : (caL l).take (k + 1) = (caL l).take k ++ [gd (caL l) k] := by
  rw [List.take_add_one, List.getElem?_eq_getElem hk, gd_eq _ _ hk]; rfl
theorem hul_sm {k : Nat} {l : List Pt} (hl : l ≠ []) (h : ∀ q ∈ l, Sm k q) : ∀ q ∈ hulL l, Sm k q := fun q hq => h q (hul_sub hl hq)
theorem hul_12 {l : List Pt} (hl : l ≠ []) (h : l.length ≤ 12) : 0 < (hulL l).length ∧ (hulL l).length ≤ 100000 := by
  have h1 := hul_le hl
  have h2 := hul_ne hl
  have : (hulL l).length ≠ 0 := fun e => h2 (List.length_eq_zero_iff.1 e)
  omega
set_option maxHeartbeats 1000000 in
set_option maxRecDepth 100000 in
theorem specCellAreas_any (w : World) (B : Nat) (v : Value) (l : List Tm) (h : TmS w B v l) : Calls Try.prog 30 #[v] w fun e w' => GivesIB (plB l) (caR l) w e w' := by
  cases hl : plB l
  · have HL := Lib.hid hl
    have HN := Lib.hid (caR_no hl)
    clear hl
    go_enter Try.func30, Try.ntmps30
    go_wp2_with fail
    refine (plGood_any _ B _ l h).mono ?_
    rintro e w1 ⟨rfl, b1⟩
    rw [HL.out]
    go_wp2
    go_ret2
    exact givesIB_nil rfl HN.out b1
  · have HL := Lib.hid hl
    clear hl
    go_enter Try.func30, Try.ntmps30
    go_wp2_with fail
    refine (plGood_any _ B _ l h).mono ?_
    rintro e w1 ⟨rfl, b1⟩
    have h1 := FS.below h b1
    rw [HL.out]
    go_wp2_with fail
    refine (ceOf_any w1 B _ l h1 HL.out).mono ?_
    rintro e w2 ⟨r, P, rfl, hLS, hP, b2⟩
    have H2 := Lib.hid (FS.below h1 b2)
    have HB := Lib.hid (bel2 b1 b2)
    obtain ⟨A, cap, rfl, -, hp⟩ := hLS.parts
    have HP := Lib.hid hp
    have HQ := Lib.hid hP
    have HV := Lib.hid hLS.2
    have hle := ceL_len (plB_le HL.out).2
    obtain ⟨n, hn⟩ : ∃ n, n = P.length := ⟨_, rfl⟩
    have hnc : n = (caL l).length := by rw [hn, caL_len, ← hP, lls_len]
    rw [← caL_len, ← hnc] at hle
    have HN := Lib.hid hn
    have HC := Lib.hid hnc
    rw [← hn]
    obtain ⟨i0, hi, hz0, hz1, hz2⟩ := info_parts infoInt
    clear hp hLS hP h h1 b1 b2 hn hnc
    go_wp2
    go_loopw [4, 13] (fun o i wr => ∃ k : Nat, k ≤ n ∧ i = .int .i64 k ∧ IS wr w2.heap.size o ((caL l).take k) ∧ Below w2.heap.size w2 wr) (fun _ i _ => n - (intOf i).toNat)
    case atStart => exact ⟨0, by omega, rfl, IS.nil_ _ _, Below.refl _ _⟩
    case round =>
      obtain ⟨k, hk, rfl, ho, hb⟩ := hrel
      by_cases hlt : k < n
      · have hkp : k < P.length := by rw [← HN.out]; exact hlt
        obtain ⟨g, rfl, hc0⟩ := HP.out k hkp
        have hc := X3.below.box_old3 hc0 hb
        have his := (HV.out.at hkp).below hb
        obtain ⟨c1, c2, c3⟩ := cell_ok HQ.out hkp HL.out
        have HG := Lib.hid (caL_gd HQ.out hkp)
        have HX := Lib.hid (caL_next (l := l) (k := k) (by rw [← HC.out]; exact hlt))
        have hsm := hul_sm c3 (cptL_sm HL.out c1)
        have h12 := hul_12 c3 (by rw [cptL_len]; exact c2)
        have htm := FS.below H2.out hb
        obtain ⟨cv, hcv⟩ : ∃ cv, cv = pvl P k := ⟨_, rfl⟩
        obtain ⟨zs, hzs⟩ : ∃ zs, zs = pll P k := ⟨_, rfl⟩
        rw [← hcv] at hc his
        rw [← hzs] at his c1 c2 HG hsm h12
        clear hc0 hcv hzs c3 hkp
        go_wp2_with fail
        refine (cePolygon_any wr B _ _ _ l zs htm his HL.out c1 c2).mono ?_
        rintro e w4 ⟨r4, rfl, hr4, b4⟩
        clear hc
        go_wp2_with fail
        refine (pyArea_any w4 _ _ _ hr4 h12.2 hsm).mono ?_
        rintro e w5 ⟨rfl, b5⟩
        rw [← HG.out]
        have bx := bel2 b4 b5
        have ho' : w5.ownsRow w2.heap.size 3 1 u4 ((caL l).take k).length (ints ((caL l).take k)) := ho.below bx
        have hb' := bel2 hb bx
        have hle2 : ((caL l).take k).length ≤ 2000 := by rw [List.length_take]; omega
        have hbA := hb'.alloc hb'.size (.cells #[.int .i64 (gd (caL l) k)] 3)
        clear hr4 b4 b5 bx ho hb his htm hsm h12 c1 c2 HG
        go_wp2_with (at_builtin; refine wpList_append_own _ rfl _ _ 41 rfl w2.heap.size 3 i0 (.int .i64 0) 1 8 Try.underlying41 hi hz0 hz1 hz2 rfl (by decide) _ _ _ rfl (ho'.alloc _) ⟨w5.heap.size, 0, none⟩ 1 1 [.int .i64 (gd (caL l) k)] rfl rfl (one_new _ _) (by simp [Value.oneCell']) (by unfold maxLen; omega) (by omega) (by have := hb'.size; simp; omega) ?_; intro v' w6 hown' hgrow hnil)
        have hb6 : Below w2.heap.size w2 w6 := hbA.grown hgrow hbA.size (fun g' hg' => (World.ownsRow.lt ho' g' hg').1)
        have hrow := IS.snoc rfl hown'
        rw [← HX.out] at hrow
        clear hown' hgrow hnil ho' hbA hb'
        go_wp2
        go_roundw
        case rel => exact ⟨k + 1, by omega, by go_num, hrow, hb6⟩
        case measure => simp [intOf]; omega
      · obtain rfl : k = n := by omega
        rw [HC.out, List.take_length] at ho
        go_wp2
        go_ret2
        exact givesIB_yes rfl (by rw [caR_yes HL.out]; exact ho.base HB.out.size) (bel2 HB.out hb)
set_option maxHeartbeats 1000000 in
set_option maxRecDepth 100000 in
theorem implCellAreas_any (w : World) (B : Nat) (v : Value) (l : List Tm) (h : TmS w B v l) : Calls Try.prog 31 #[v] w fun e w' => GivesIB (plB l) (caR l) w e w' := by
  cases hl : plB l
  · have HL := Lib.hid hl
    have HN := Lib.hid (caR_no hl)
    clear hl
    go_enter Try.func31, Try.ntmps31
    go_wp2_with fail
    refine (implCellsOf_any _ B _ l h).mono ?_
    rintro e w1 ⟨r, P, rfl, hLS, hP, b1⟩
    rw [HL.out]
    clear hLS hP
    go_wp2
    go_ret2
    exact givesIB_nil rfl HN.out b1
  · have HL := Lib.hid hl
    clear hl
    go_enter Try.func31, Try.ntmps31
    go_wp2_with fail
    refine (implCellsOf_any _ B _ l h).mono ?_
    rintro e w2 ⟨r, P, rfl, hLS, hP, b1⟩
    rw [ceR_yes HL.out] at hP
    have H2 := Lib.hid (FS.below h b1)
    have HB := Lib.hid b1
    obtain ⟨A, cap, rfl, -, hp⟩ := hLS.parts
    have HP := Lib.hid hp
    have HQ := Lib.hid hP
    have HV := Lib.hid hLS.2
    have hle := ceL_len (plB_le HL.out).2
    obtain ⟨n, hn⟩ : ∃ n, n = P.length := ⟨_, rfl⟩
    have hnc : n = (caL l).length := by rw [hn, caL_len, ← hP, lls_len]
    rw [← caL_len, ← hnc] at hle
    have HN := Lib.hid hn
    have HC := Lib.hid hnc
    rw [HL.out, ← hn]
    obtain ⟨i0, hi, hz0, hz1, hz2⟩ := info_parts infoInt
    have hB : w2.heap.size ≤ w2.heap.size := Nat.le_refl _
    clear hp hLS hP h b1 hn hnc
    go_wp2_with (refine wpList_make_full _ rfl _ _ 41 rfl w2.heap.size 3 i0 (.int .i64 0) 1 Try.underlying41 hi hz0 hz1 .i64 .i64 _ _ n rfl rfl rfl rfl (by rw [hz2]; omega) (by simp only [maxLen]; omega) (Nat.le_refl _) ?_; intro w3 hown hgrow)
    have hrow0 : w3.ownsRow w2.heap.size 3 1 (.slice (some ⟨w2.heap.size, 0, none⟩) n n) n (ints (part (caL l) 0)) := by
      rw [show (madeCells (Value.int .i64 0).cells (n * 1)).toList = ints (part (caL l) 0) from by
        rw [show part (caL l) 0 = List.replicate n 0 by simp [part, ← HC.out], Nat.mul_one]
        exact (toList_madeCells_one (.int .i64 0) n).trans (by simp [ints])] at hown
      exact hown
    have hb0 : Below w2.heap.size w2 w3 := (Below.refl _ _).grown hgrow (Nat.le_refl _) (fun _ h => by cases h)
    clear hown hgrow
    go_wp2
    go_loopw [21] (fun i wr => ∃ k : Nat, k ≤ n ∧ i = .int .i64 k ∧ wr.ownsRow w2.heap.size 3 1 (.slice (some ⟨w2.heap.size, 0, none⟩) n n) n (ints (part (caL l) k)) ∧ Below w2.heap.size w2 wr) (fun i _ => n - (intOf i).toNat)
    case atStart => exact ⟨0, by omega, rfl, hrow0, hb0⟩
    case round =>
      obtain ⟨k, hk, rfl, hrow, hb⟩ := hrel
      clear hrow0 hb0
      by_cases hlt : k < n
      · have hkp : k < P.length := by rw [← HN.out]; exact hlt
        obtain ⟨g, rfl, hc0⟩ := HP.out k hkp
        have hc := X3.below.box_old3 hc0 hb
        have his := (HV.out.at hkp).below hb
        obtain ⟨c1, c2, c3⟩ := cell_ok HQ.out hkp HL.out
        have HG := Lib.hid (caL_gd HQ.out hkp)
        have hsm := hul_sm c3 (cptL_sm HL.out c1)
        have h12 := hul_12 c3 (by rw [cptL_len]; exact c2)
        have htm := FS.below H2.out hb
        obtain ⟨cv, hcv⟩ : ∃ cv, cv = pvl P k := ⟨_, rfl⟩
        obtain ⟨zs, hzs⟩ : ∃ zs, zs = pll P k := ⟨_, rfl⟩
        rw [← hcv] at hc his
        rw [← hzs] at his c1 c2 HG hsm h12
        clear hc0 hcv hzs c3 hkp
        go_wp2_with fail
        refine (polygonOfCell_any wr B _ _ _ l zs htm his HL.out c1 c2).mono ?_
        rintro e w4 ⟨r4, rfl, hr4, b4⟩
        clear hc
        go_wp2_with fail
        refine (doubleAreaOf_any w4 _ _ _ hr4 h12.1 h12.2 hsm).mono ?_
        rintro e w5 ⟨rfl, b5⟩
        rw [← HG.out]
        have bx := bel2 b4 b5
        have hrow' : w5.ownsRow w2.heap.size 3 1 (.slice (some ⟨w2.heap.size, 0, none⟩) n n) n (ints (part (caL l) k)) := sl_below hrow bx
        have hb' := bel2 hb bx
        have f0 := World.ownsRow.frozenAt hrow' k
        have d0 := World.ownsRow.cellAt hrow' k (by omega)
        rw [getD_ints _ k (by rw [part_len _ _ (by rw [← HC.out]; exact hk), ← HC.out]; exact hlt)] at d0
        have s0 := (World.ownsRow.stored hrow' k (.int .i64 (gd (caL l) k))).1
        rw [show (ints (part (caL l) k)).set k (.int .i64 (gd (caL l) k)) = ints (part (caL l) (k + 1)) from by rw [← part_set (caL l) k (by rw [← HC.out]; exact hlt)]; unfold ints; simp only [List.map_set]] at s0
        have hb3 := hb'.setCell (p := ⟨w2.heap.size, k, none⟩) hB (.int .i64 (gd (caL l) k))
        have HS := Lib.hid s0
        have HB3 := Lib.hid hb3
        clear hr4 b4 b5 bx hrow hrow' hb hb' his htm hsm h12 c1 c2 HG s0 hb3
        go_wp2
        go_roundw
        case rel => exact ⟨k + 1, by omega, by go_num, HS.out, HB3.out⟩
        case measure => simp [intOf]; omega
      · obtain rfl : k = n := by omega
        rw [part_end (caL l) _ (by rw [← HC.out]; omega)] at hrow
        go_wp2
        go_ret2
        refine givesIB_yes rfl ?_ (bel2 HB.out hb)
        rw [caR_yes HL.out]
        have hi : IS wr w2.heap.size (.slice (some ⟨w2.heap.size, 0, none⟩) k k) (caL l) := by
          unfold IS
          rw [← HC.out]
          exact hrow
        exact hi.base HB.out.size
end Go.Proofs.Ytoecjdpeldcajaa

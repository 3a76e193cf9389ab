/-
  The polygon of a cell, of the program and of the model.
  Condition: the slice of terms reads as the list that is named, a polynomial; the cell's indexes lie in range.
-/
import Derived.Test.YtcfplfjllnojoaaGreatCeL
import Derived.Test.YtcfplfjllnojoaaGreatPgE
namespace Go.Proofs.YtcfplfjllnojoaaGreat
set_option linter.unusedSimpArgs false
set_option linter.unusedVariables false
open Go.ChangeShapes Go.WideShapes Go.ChangeAt Go.RowKit
open Go.Sort (grow)

def cptL (l : List Tm) (zs : List Int) : List Pt := zs.map fun n => ptO (td l n.toNat)
theorem cptL_len (l : List Tm) (zs : List Int) : (cptL l zs).length = zs.length := by simp [cptL]
theorem cptL_next (l : List Tm) (zs : List Int) (k m : Nat) (hk : k < zs.length) (hm : gd zs k = m) : cptL l (zs.take (k + 1)) = cptL l (zs.take k) ++ [ptO (td l m)] := by
  unfold cptL
  rw [List.take_add_one, List.getElem?_eq_getElem hk, ← gd_eq zs k hk, hm]
  simp
theorem cptL_pd (l : List Tm) (zs : List Int) (k m : Nat) (hk : k < zs.length) (hm : gd zs k = m) : pd (cptL l zs) k = ptO (td l m) := by
  rw [pd_eq _ _ (by rw [cptL_len]; exact hk)]
  unfold cptL
  rw [List.getElem_map, ← gd_eq zs k hk, hm]; rfl
theorem cptL_sm {l : List Tm} (hl : plB l = true) {zs : List Int} (h : ∀ n ∈ zs, 0 ≤ n ∧ n < l.length) : ∀ q ∈ cptL l zs, Sm 1000 q := fun q hq => by
  obtain ⟨n, hn, rfl⟩ := List.mem_map.1 hq
  have := h n hn
  exact ptO_sm (plB_at hl (show n.toNat < l.length by omega))
set_option maxHeartbeats 1000000 in
set_option maxRecDepth 100000 in
theorem cePolygon_any (w : World) (B B' : Nat) (v c : Value) (l : List Tm) (zs : List Int) (h : TmS w B v l) (hc : IS w B' c zs) (hl : plB l = true) (hz : ∀ n ∈ zs, 0 ≤ n ∧ n < l.length) (h12 : zs.length ≤ 12) :
    Calls Tryz.prog 39 #[v, c] w fun e w' => GivesPt (hulL (cptL l zs)) w e w' := by
  have HSM := Lib.hid (cptL_sm hl hz)
  have HZ := Lib.hid (fun (k : Nat) (hk : k < zs.length) => show ∃ m : Nat, gd zs k = m ∧ m < l.length by
    have := hz _ (gd_mem hk)
    exact ⟨(gd zs k).toNat, by omega, by omega⟩)
  obtain ⟨A, cap, rfl, hm, hp⟩ := TmS.parts h
  have HP := Lib.hid hp
  obtain ⟨A', cap', rfl, hm', hp'⟩ := hc.parts
  have HC := Lib.hid hp'
  obtain ⟨n, hn⟩ : ∃ n, n = l.length := ⟨_, rfl⟩
  have HN := Lib.hid hn
  obtain ⟨nz, hnz⟩ : ∃ nz, nz = zs.length := ⟨_, rfl⟩
  have HNZ := Lib.hid hnz
  rw [← hn, ← hnz]
  rw [← hnz] at h12
  clear hp h hc hm hm' hp' hz hl hn hnz
  go_enter Tryz.func39, Tryz.ntmps39
  go_wp2
  go_loopw [5, 10] (fun o i wr => ∃ k : Nat, k ≤ nz ∧ i = .int .i64 k ∧ PtS wr w.heap.size o (cptL l (zs.take k)) ∧ Below w.heap.size w wr) (fun _ i _ => nz - (intOf i).toNat)
  case atStart => exact ⟨0, by omega, rfl, by simpa [cptL, PtS, flatP] using FS.nil_ 64 2 w w.heap.size, Below.refl _ _⟩
  case round =>
    obtain ⟨k, hk, rfl, ho, hb⟩ := hrel
    by_cases hlt : k < nz
    · have hkz : k < zs.length := by rw [← HNZ.out]; exact hlt
      obtain ⟨m, hm, hml⟩ := HZ.out k hkz
      obtain ⟨g, rfl, hc0⟩ := HC.out k hkz
      obtain ⟨g1, rfl, ht0⟩ := HP.out m hml
      have hc1 := X3.below.box_old3 hc0 hb
      obtain ⟨c0, c1, c2⟩ := X3.below ht0 hb
      rw [hm] at hc1
      have hmn : m < n := by rw [HN.out]; exact hml
      have HNX := Lib.hid (cptL_next l zs k m hkz hm)
      have HLE := Lib.hid (show (cptL l (zs.take k)).length ≤ 12 by rw [cptL_len, List.length_take]; omega)
      have l1 : ((m : Nat) : Int) < (n : Int) := by omega
      have l2 : (0 : Int) ≤ (m : Int) := by omega
      clear hc0 ht0 hm hml
      go_wp2_with fail
      refine (cePoint_any _ _).mono ?_
      rintro e w3 ⟨rfl, hg⟩
      have bw : Below wr.heap.size wr w3 := hg.below
      have ho' := FS.below ho bw
      have hb' := bel2 hb bw
      obtain ⟨p, hpp⟩ : ∃ p, p = ptO (td l m) := ⟨_, rfl⟩
      rw [← hpp] at HNX ⊢
      clear bw hg c0 c1 c2 ho hb hpp hc1
      have hP2 := P2.new w3 p 64
      have hbA := hb'.alloc hb'.size (.cells #[.int .i64 p.1, .int .i64 p.2] 64)
      have hoA := FS.below ho' ((Below.refl _ w3).alloc (Nat.le_refl _) (.cells #[.int .i64 p.1, .int .i64 p.2] 64))
      go_wp2_with (at_builtin; refine wpList_append_pt _ rfl _ _ rfl w.heap.size _ (cptL l (zs.take k)) rfl hoA w3.heap.size p rfl hP2 (by have := HLE.out; omega) hbA.size ?_; intro v' w1 hown' hgrow)
      have hb2 : Below w.heap.size w w1 := hbA.grown hgrow hbA.size (fun g' hg' => (World.ownsRow.lt hoA g' hg').1)
      rw [← HNX.out] at hown'
      go_wp2
      go_roundw
      case rel => exact ⟨k + 1, by omega, by go_num, hown', hb2⟩
      case measure => simp [intOf]; omega
    · obtain rfl : k = nz := by omega
      rw [HNZ.out, List.take_length] at ho
      go_wp2_with fail
      refine (pyHull_any wr _ _ _ ho (by rw [cptL_len, ← HNZ.out]; omega) HSM.out).mono ?_
      rintro e w3 ⟨r3, rfl, hr3, b3⟩
      go_wp2
      go_ret
      exact ⟨r3, rfl, FS.base hr3 hb.size, bel2 hb b3⟩
theorem cpt_gd (l : List Tm) (zs : List Int) (k m : Nat) (hk : k < zs.length) (hm : gd zs k = m) : gd (flatP (cptL l zs)) (k * 2) = (td l m).1 ∧ gd (flatP (cptL l zs)) (k * 2 + 1) = (td l m).2.1 := by
  have h := flatP_gd (ps := cptL l zs) (j := k) (by rw [cptL_len]; exact hk)
  rw [cptL_pd l zs k m hk hm] at h
  exact h
set_option maxHeartbeats 1000000 in
set_option maxRecDepth 100000 in
theorem polygonOfCell_any (w : World) (B B' : Nat) (v c : Value) (l : List Tm) (zs : List Int) (h : TmS w B v l) (hc : IS w B' c zs) (hl : plB l = true) (hz : ∀ n ∈ zs, 0 ≤ n ∧ n < l.length) (h12 : zs.length ≤ 12) :
    Calls Tryz.prog 69 #[v, c] w fun e w' => GivesPt (hulL (cptL l zs)) w e w' := by
  have HSM := Lib.hid (cptL_sm hl hz)
  have HZ := Lib.hid (fun (k : Nat) (hk : k < zs.length) => show ∃ m : Nat, gd zs k = m ∧ m < l.length by
    have := hz _ (gd_mem hk)
    exact ⟨(gd zs k).toNat, by omega, by omega⟩)
  obtain ⟨A, cap, rfl, hm, hp⟩ := TmS.parts h
  have HP := Lib.hid hp
  obtain ⟨A', cap', rfl, hm', hp'⟩ := hc.parts
  have HC := Lib.hid hp'
  obtain ⟨n, hn⟩ : ∃ n, n = l.length := ⟨_, rfl⟩
  have HN := Lib.hid hn
  obtain ⟨nz, hnz⟩ : ∃ nz, nz = zs.length := ⟨_, rfl⟩
  have HNZ := Lib.hid hnz
  obtain ⟨fs, hfs⟩ : ∃ fs, fs = flatP (cptL l zs) := ⟨_, rfl⟩
  have HF := Lib.hid hfs
  have HFL := Lib.hid (show fs.length = nz * 2 by rw [hfs, flatP_len, cptL_len, hnz])
  rw [← hn, ← hnz]
  rw [← hnz] at h12
  obtain ⟨i0, hi, hz0, hz1, hz2⟩ := info_parts infoPoint
  clear hp h hc hm hm' hp' hz hl hn hnz hfs
  go_enter Tryz.func69, Tryz.ntmps69
  go_wp2_with (refine wpList_make_full _ rfl _ _ 67 rfl w.heap.size 64 i0 (.agg #[.int .i64 0, .int .i64 0]) 2 Tryz.underlying67 hi hz0 hz1 .i64 .i64 _ _ nz rfl rfl rfl rfl (by rw [hz2]; omega) (by simp only [maxLen]; omega) (Nat.le_refl _) ?_; intro w2 hown hgrow)
  have hrow0 : w2.ownsRow w.heap.size 64 2 (.slice (some ⟨w.heap.size, 0, none⟩) nz nz) nz (ints (part fs 0)) := by
    rw [show (madeCells (.agg #[.int .i64 0, .int .i64 0] : Value).cells (nz * 2)).toList = ints (part fs 0) from by
      rw [show part fs 0 = List.replicate (nz * 2) 0 by simp [part, HFL.out]]
      exact made_ints 2 _ (by omega)] at hown
    exact hown
  have hb0 : Below w.heap.size w w2 := (Below.refl _ w).grown hgrow (Nat.le_refl _) (fun _ h => by cases h)
  have hB : w.heap.size ≤ w.heap.size := Nat.le_refl _
  clear hown hgrow
  go_loopw [13] (fun i wr => ∃ j : Nat, j ≤ nz ∧ i = .int .i64 j ∧ wr.ownsRow w.heap.size 64 2 (.slice (some ⟨w.heap.size, 0, none⟩) nz nz) nz (ints (part fs (j * 2))) ∧ Below w.heap.size w wr) (fun i _ => nz - (intOf i).toNat)
  case atStart => exact ⟨0, by omega, rfl, by rw [Nat.zero_mul]; exact hrow0, hb0⟩
  case round =>
    obtain ⟨j, hj, rfl, hrow, hb⟩ := hrel
    clear hrow0 hb0
    by_cases hlt : j < nz
    · have hl := HFL.out
      have hjz : j < zs.length := by rw [← HNZ.out]; exact hlt
      obtain ⟨m, hm, hml⟩ := HZ.out j hjz
      obtain ⟨e0, e1⟩ := cpt_gd l zs j m hjz hm
      rw [← HF.out] at e0 e1
      obtain ⟨g, rfl, hc0⟩ := HC.out j hjz
      obtain ⟨g1, rfl, ht0⟩ := HP.out m hml
      have hc1 := X3.below.box_old3 hc0 hb
      obtain ⟨c0, c1, c2⟩ := X3.below ht0 hb
      rw [hm] at hc1
      have hmn : m < n := by rw [HN.out]; exact hml
      have l1 : ((m : Nat) : Int) < (n : Int) := by omega
      have l2 : (0 : Int) ≤ (m : Int) := by omega
      clear hc0 ht0 hm hml
      go_wp2_with fail
      refine (pointOf_any _ _).mono ?_
      rintro e w3 ⟨rfl, hg⟩
      have bw : Below wr.heap.size wr w3 := hg.below
      have hrow' : w3.ownsRow w.heap.size 64 2 (.slice (some ⟨w.heap.size, 0, none⟩) nz nz) nz (ints (part fs (j * 2))) := FS.below (zs := part fs (j * 2)) hrow bw
      have hb' := bel2 hb bw
      clear bw hg c0 c1 c2 hc1
      have f0 := World.ownsRow.frozenAt hrow' (j * 2)
      have f1 := World.ownsRow.frozenAt hrow' (j * 2 + 1)
      have hcell : ∀ q, q < nz * 2 → w3.cell? ⟨w.heap.size, q, none⟩ = some (.int .i64 (gd (part fs (j * 2)) q)) := fun q hq => by
        rw [World.ownsRow.cellAt hrow' q hq, getD_ints _ q (by rw [part_len fs _ (by omega)]; omega)]
      have d0 := hcell (j * 2) (by omega)
      have d1 := hcell (j * 2 + 1) (by omega)
      have s0 := World.ownsRow.stored hrow' (j * 2) (.int .i64 (gd fs (j * 2)))
      have s1 := World.ownsRow.stored s0.1 (j * 2 + 1) (.int .i64 (gd fs (j * 2 + 1)))
      have hrow3 := s1.1
      rw [show ((ints (part fs (j * 2))).set (j * 2) (.int .i64 (gd fs (j * 2)))).set (j * 2 + 1) (.int .i64 (gd fs (j * 2 + 1))) = ints (part fs ((j + 1) * 2)) from by rw [← partP_pt fs j (by omega)]; unfold ints; simp only [List.map_set]] at hrow3
      have hb3 := (hb'.setCell (p := ⟨w.heap.size, j * 2, none⟩) hB (.int .i64 (gd fs (j * 2)))).setCell (p := ⟨w.heap.size, j * 2 + 1, none⟩) hB (.int .i64 (gd fs (j * 2 + 1)))
      rw [e0, e1] at hrow3 hb3
      have HG := Lib.hid (And.intro hrow3 hb3)
      clear s0 s1 hrow3 hb3 hrow' hrow hcell hl e0 e1 hb hb'
      go_wp2
      go_roundw
      case rel => exact ⟨j + 1, by omega, by go_num, HG.out.1, HG.out.2⟩
      case measure => simp [intOf]; omega
    · obtain rfl : j = nz := by omega
      have hl := HFL.out
      rw [part_end fs _ (by omega)] at hrow
      have ho : PtS wr w.heap.size (.slice (some ⟨w.heap.size, 0, none⟩) j j) (cptL l zs) := by
        unfold PtS
        rw [cptL_len, ← HNZ.out, ← HF.out]
        exact hrow
      clear hrow
      go_wp2_with fail
      refine (hullOf_any w wr _ _ _ ho (by rw [cptL_len, ← HNZ.out]; omega) HSM.out hb (Nat.le_refl _)).mono ?_
      rintro e w3 ⟨r3, rfl, hr3, b3⟩
      go_wp2
      go_ret
      exact ⟨r3, rfl, hr3, b3⟩
theorem cell_ok {l : List Tm} {P : VL} (hP : lls P = ceL l) {k : Nat} (hk : k < P.length) (hl : plB l = true) : (∀ n ∈ pll P k, 0 ≤ n ∧ n < l.length) ∧ (pll P k).length ≤ 12 ∧ cptL l (pll P k) ≠ [] := by
  have h1 : pll P k ∈ ceL l := by rw [← hP, ← lls_get hk (by rw [lls_len]; exact hk)]; exact List.getElem_mem _
  obtain ⟨h2, h3, h4⟩ := ceL_bd h1
  have := (plB_le hl).2
  refine ⟨h2, by omega, fun e => ?_⟩
  have := cptL_len l (pll P k)
  rw [e] at this
  simp at this
  omega
theorem pll_get {L : List (List Int)} {P : VL} (hP : lls P = L) {k : Nat} (hk : k < P.length) : pll P k = L.getD k [] := by
  have h1 : k < (lls P).length := by rw [lls_len]; exact hk
  rw [← lls_get hk h1]
  subst hP
  rw [List.getD_eq_getElem?_getD, List.getElem?_eq_getElem h1]; rfl
def cpB (l : List Tm) (i : Int) : Bool := plB l && inB i 0 (((ceL l).length : Int) - 1)
def cpR (l : List Tm) (i : Int) : List Pt := if cpB l i = true then hulL (cptL l ((ceL l).getD i.toNat [])) else []
theorem cpR_yes {l : List Tm} {i : Int} (h : cpB l i = true) : cpR l i = hulL (cptL l ((ceL l).getD i.toNat [])) := if_pos h
theorem cpR_no {l : List Tm} {i : Int} (h : cpB l i = false) : cpR l i = [] := if_neg (by simp [h])
theorem cpB_no {l : List Tm} {i : Int} (h : plB l = false) : cpB l i = false := by unfold cpB; rw [h]; rfl
theorem cpR_le (l : List Tm) (i : Int) : (cpR l i).length ≤ 1048576 := by
  cases h : cpB l i
  · rw [cpR_no h]; simp
  · rw [cpR_yes h]
    unfold cpB at h
    simp only [Bool.and_eq_true] at h
    obtain ⟨h1, h2⟩ := h
    obtain ⟨h3, h4⟩ := (inB_iff _ _ _).1 h2
    have hk : i.toNat < (ceL l).length := by omega
    rw [List.getD_eq_getElem?_getD, List.getElem?_eq_getElem hk]
    have h5 := ceL_bd (List.getElem_mem hk)
    have := (plB_le h1).2
    refine Nat.le_trans (hul_le fun e => ?_) (by rw [cptL_len]; simp only [Option.getD_some]; omega)
    have := congrArg List.length e
    rw [cptL_len] at this
    simp only [Option.getD_some, List.length_nil] at this
    omega
def caL (l : List Tm) : List Int := (ceL l).map fun zs => arL (hulL (cptL l zs))
def caR (l : List Tm) : List Int := if plB l = true then caL l else []
theorem caR_yes {l : List Tm} (h : plB l = true) : caR l = caL l := if_pos h
theorem caR_no {l : List Tm} (h : plB l = false) : caR l = [] := if_neg (by simp [h])
theorem caL_len (l : List Tm) : (caL l).length = (ceL l).length := by simp [caL]
theorem caR_le (l : List Tm) : (caR l).length ≤ 1048576 := by
  cases h : plB l
  · rw [caR_no h]; simp
  · rw [caR_yes h, caL_len]; have := ceL_len (plB_le h).2; omega
theorem caL_gd {l : List Tm} {P : VL} (hP : lls P = ceL l) {k : Nat} (hk : k < P.length) : gd (caL l) k = arL (hulL (cptL l (pll P k))) := by
  have h1 : k < (ceL l).length := by rw [← hP, lls_len]; exact hk
  rw [gd_eq _ _ (by rw [caL_len]; exact h1), pll_get hP hk, List.getD_eq_getElem?_getD, List.getElem?_eq_getElem h1]
  simp [caL]
theorem caL_next {l : List Tm} {k : Nat} (hk : k < (caL l).length) : (caL l).take (k + 1) = (caL l).take k ++ [gd (caL l) k] := by
  rw [List.take_add_one, List.getElem?_eq_getElem hk, gd_eq _ _ hk]; rfl
theorem hul_sm {k : Nat} {l : List Pt} (hl : l ≠ []) (h : ∀ q ∈ l, Sm k q) : ∀ q ∈ hulL l, Sm k q := fun q hq => h q (hul_sub hl hq)
theorem hul_12 {l : List Pt} (hl : l ≠ []) (h : l.length ≤ 12) : 0 < (hulL l).length ∧ (hulL l).length ≤ 100000 := by
  have h1 := hul_le hl
  have h2 := hul_ne hl
  have : (hulL l).length ≠ 0 := fun e => h2 (List.length_eq_zero_iff.1 e)
  omega
end Go.Proofs.YtcfplfjllnojoaaGreat
/-
  What cells are like: three terms at least, an area above 0; IsTriangulated and IsSmooth of both.
  Condition: the slice reads as the list that is named.
-/
namespace Go.Proofs.YtcfplfjllnojoaaGreat
set_option linter.unusedSimpArgs false
set_option linter.unusedVariables false
open Go.ChangeShapes Go.WideShapes Go.ChangeAt Go.RowKit
open Go.Sort (grow)

theorem htT_b (a b c : Tm) : htT a (nmT a b c) b = 0 := by
  have h : htT a (noT a b c) b = 0 := by unfold htT noT crT stT; grind
  unfold nmT
  split
  · rw [htT_ng, h]; rfl
  · exact h
theorem htT_c (a b c : Tm) : htT a (nmT a b c) c = 0 := by
  have h : htT a (noT a b c) c = 0 := by unfold htT noT crT stT; grind
  unfold nmT
  split
  · rw [htT_ng, h]; rfl
  · exact h
theorem sub_len {α : Type} : ∀ {a b : List α}, a.Nodup → (∀ q ∈ a, q ∈ b) → a.length ≤ b.length
  | [], _, _, _ => Nat.zero_le _
  | x :: t, b, hn, hs => by
    obtain ⟨s, r, rfl⟩ := List.append_of_mem (hs x (by simp))
    have hn' := List.nodup_cons.1 hn
    have := sub_len (a := t) (b := s ++ r) hn'.2 (fun q hq => by
      have h1 := hs q (by simp [hq])
      have hne : q ≠ x := fun e => hn'.1 (e ▸ hq)
      simp only [List.mem_append, List.mem_cons] at h1 ⊢
      rcases h1 with h1 | h1 | h1
      · exact .inl h1
      · exact absurd h1 hne
      · exact .inr h1)
    simp only [List.length_append, List.length_cons] at this ⊢
    omega
/-- A cell's three first known terms. -/
theorem cell_three {l : List Tm} {x : List Int} (h : x ∈ ceL l) : ∃ i j k : Nat, i < j ∧ j < k ∧ k < l.length ∧ tuT (td l i) (td l j) (td l k) ≠ 0 ∧ (i : Int) ∈ x ∧ (j : Int) ∈ x ∧ (k : Int) ∈ x := by
  obtain ⟨i, j, k, hij, hjk, hk, ht, -, rfl⟩ := (ceL_mem l x).1 h
  refine ⟨i, j, k, hij, hjk, hk, ht, (zeL_mem _ _ _ _).2 ⟨i, by omega, rfl, htT_self _ _⟩, (zeL_mem _ _ _ _).2 ⟨j, by omega, rfl, ?_⟩, (zeL_mem _ _ _ _).2 ⟨k, by omega, rfl, ?_⟩⟩
  · exact htT_b _ _ _
  · exact htT_c _ _ _
theorem cell_3 {l : List Tm} {x : List Int} (h : x ∈ ceL l) : 3 ≤ x.length := by
  obtain ⟨i, j, k, hij, hjk, -, -, h1, h2, h3⟩ := cell_three h
  refine sub_len (a := [(i : Int), j, k]) ?_ (fun q hq => ?_)
  · simp; omega
  · simp only [List.mem_cons, List.not_mem_nil, or_false] at hq
    rcases hq with rfl | rfl | rfl <;> assumption
/-- The turns about a point, summed along the sides. -/
def trS (l : List Pt) (r : Pt) : Nat → Int
  | 0 => 0
  | k + 1 => trS l r k + trn r (pd l k) (nxP l k)
theorem trn_crs (r p q : Pt) : trn r p q = crP p q - crP r q + crP r p := by unfold trn crP; grind
theorem trS_part (l : List Pt) (r : Pt) : ∀ k, k < l.length → trS l r k = arS l k + crP r (pd l 0) - crP r (pd l k)
  | 0, _ => by simp [trS, arS]
  | k + 1, hk => by
    have ih := trS_part l r k (by omega)
    have hn : nxP l k = pd l (k + 1) := by unfold nxP; rw [Nat.mod_eq_of_lt hk]
    have := trn_crs r (pd l k) (pd l (k + 1))
    rw [trS, arS, ih, hn, this]; omega
theorem trS_all (l : List Pt) (r : Pt) (h0 : 0 < l.length) : trS l r l.length = arL l := by
  obtain ⟨n, hn⟩ : ∃ n, l.length = n + 1 := ⟨l.length - 1, by omega⟩
  have h1 := trS_part l r n (by omega)
  have hx : nxP l n = pd l 0 := by unfold nxP; rw [hn, Nat.mod_self]
  have := trn_crs r (pd l n) (pd l 0)
  unfold arL
  rw [hn, trS, arS, h1, hx, this]; omega
theorem trS_pos {l : List Pt} {r : Pt} (h : ∀ k, k < l.length → 0 ≤ trn r (pd l k) (nxP l k)) : ∀ k, k ≤ l.length → 0 ≤ trS l r k
  | 0, _ => by simp [trS]
  | k + 1, hk => by
    have := trS_pos h k (by omega)
    have := h k (by omega)
    rw [trS]; omega
theorem trS_first {l : List Pt} {r : Pt} (h : ∀ k, k < l.length → 0 ≤ trn r (pd l k) (nxP l k)) : ∀ k, k < l.length → trn r (pd l 0) (nxP l 0) ≤ trS l r (k + 1)
  | 0, _ => by simp [trS]
  | k + 1, hk => by
    have := trS_first h k (by omega)
    have := h (k + 1) hk
    rw [trS]; omega
theorem line_zero {p q a b c : Pt} (hne : p ≠ q) (ha : trn p q a = 0) (hb : trn p q b = 0) (hc : trn p q c = 0) : trn a b c = 0 := by
  obtain ⟨p1, p2⟩ := p
  obtain ⟨q1, q2⟩ := q
  obtain ⟨a1, a2⟩ := a
  obtain ⟨b1, b2⟩ := b
  obtain ⟨c1, c2⟩ := c
  unfold trn at *
  simp only at *
  have k1 : (q1 - p1) * ((b1 - a1) * (c2 - a2) - (b2 - a2) * (c1 - a1)) = 0 := by grind
  have k2 : (q2 - p2) * ((b1 - a1) * (c2 - a2) - (b2 - a2) * (c1 - a1)) = 0 := by grind
  rcases Int.mul_eq_zero.1 k1 with h | h
  · rcases Int.mul_eq_zero.1 k2 with h' | h'
    · exact absurd (by rw [show p1 = q1 by omega, show p2 = q2 by omega]) hne
    · exact h'
  · exact h
theorem trn_turn (p q r : Pt) : trn r p q = trn p q r := by unfold trn; grind
/-- A hull's area is above 0 where three of its points don't lie in line. -/
theorem area_pos {l : List Pt} {a b c : Pt} (ha : a ∈ l) (hb : b ∈ l) (hc : c ∈ l) (ht : trn a b c ≠ 0) : 0 < arL (hulL l) := by
  have hne : l ≠ [] := List.ne_nil_of_mem ha
  have hi := hul_idem hne
  have hn0 := hul_ne hne
  have hh : ∀ q ∈ l, hasB (hulL l) q = true := fun q hq => hul_has hne hq
  obtain ⟨H, hH⟩ : ∃ H, H = hulL l := ⟨_, rfl⟩
  rw [← hH] at hi hn0 hh ⊢
  have hl : 0 < H.length := List.length_pos_iff.2 hn0
  have hpd : ∀ k, pd H k = H.getD k (0, 0) := fun k => rfl
  unfold hasB at hh
  by_cases h1 : H.length = 1
  · simp only [h1, if_pos] at hh
    have e1 := of_decide_eq_true (hh a ha)
    have e2 := of_decide_eq_true (hh b hb)
    refine absurd ?_ ht
    rw [← e1, ← e2]
    unfold trn; grind
  · simp only [h1, if_false] at hh
    have hd := nx_ne hi (by omega) 0 hl
    by_cases h2 : H.length = 2
    · simp only [h2, if_pos, Bool.and_eq_true] at hh
      have z : ∀ q ∈ l, trn (H.getD 0 (0, 0)) (H.getD 1 (0, 0)) q = 0 := fun q hq => of_decide_eq_true (hh q hq).1
      rw [h2] at hd
      exact absurd (line_zero hd (z a ha) (z b hb) (z c hc)) ht
    · simp only [h2, if_false] at hh
      have z : ∀ q ∈ l, ∀ k, k < H.length → 0 ≤ trn q (pd H k) (nxP H k) := fun q hq k hk => by
        rw [trn_turn]
        exact of_decide_eq_true (hh q hq) k hk
      rcases Int.lt_or_le 0 (arL H) with h | h
      · exact h
      · refine absurd ?_ ht
        have key : ∀ q ∈ l, trn (pd H 0) (nxP H 0) q = 0 := fun q hq => by
          have h3 := trS_first (z q hq) (H.length - 1) (by omega)
          rw [show H.length - 1 + 1 = H.length by omega, trS_all H q hl] at h3
          have h4 := z q hq 0 hl
          rw [← trn_turn]; omega
        exact line_zero hd (key a ha) (key b hb) (key c hc)
theorem cell_area {l : List Tm} {x : List Int} (h : x ∈ ceL l) : 0 < arL (hulL (cptL l x)) := by
  obtain ⟨i, j, k, -, -, -, ht, h1, h2, h3⟩ := cell_three h
  exact area_pos (a := ptO (td l i)) (b := ptO (td l j)) (c := ptO (td l k)) (List.mem_map.2 ⟨_, h1, rfl⟩) (List.mem_map.2 ⟨_, h2, rfl⟩) (List.mem_map.2 ⟨_, h3, rfl⟩) ht
theorem caL_pos (l : List Tm) : ∀ n ∈ caL l, 0 < n := fun n hn => by
  obtain ⟨x, hx, rfl⟩ := List.mem_map.1 hn
  exact cell_area hx
/-- Are there just three terms in each cell; has each cell the area 1. -/
def triB (l : List Tm) : Bool := plB l && decide (∀ x ∈ ceL l, x.length = 3)
def smoB (l : List Tm) : Bool := plB l && (decide (0 < (caL l).length) && decide (∀ n ∈ caL l, n = 1))
theorem triB_no {l : List Tm} (h : plB l = false) : triB l = false := by unfold triB; rw [h]; rfl
theorem smoB_no {l : List Tm} (h : plB l = false) : smoB l = false := by unfold smoB; rw [h]; rfl
theorem triB_yes {l : List Tm} (h : plB l = true) : triB l = decide (∀ x ∈ ceL l, x.length = 3) := by unfold triB; rw [h]; rfl
theorem smoB_yes {l : List Tm} (h : plB l = true) : smoB l = (decide (0 < (caL l).length) && decide (∀ n ∈ caL l, n = 1)) := by unfold smoB; rw [h]; rfl
theorem cell_in {l : List Tm} {P : VL} (hP : lls P = ceL l) {k : Nat} (hk : k < P.length) : pll P k ∈ ceL l := by
  rw [← hP, ← lls_get hk (by rw [lls_len]; exact hk)]; exact List.getElem_mem _
theorem in_cell {l : List Tm} {P : VL} (hP : lls P = ceL l) {x : List Int} (hx : x ∈ ceL l) : ∃ k, k < P.length ∧ x = pll P k := by
  rw [← hP] at hx
  obtain ⟨k, hk, rfl⟩ := List.getElem_of_mem hx
  have hk' : k < P.length := by rw [← lls_len]; exact hk
  exact ⟨k, hk', lls_get hk' hk⟩
theorem caL_in {l : List Tm} {k : Nat} (hk : k < (caL l).length) : gd (caL l) k ∈ caL l := gd_mem hk
theorem in_caL {l : List Tm} {n : Int} (h : n ∈ caL l) : ∃ k, k < (caL l).length ∧ n = gd (caL l) k := by
  obtain ⟨k, hk, rfl⟩ := List.getElem_of_mem h
  exact ⟨k, hk, (gd_eq _ _ hk).symm⟩
end Go.Proofs.YtcfplfjllnojoaaGreat

/-
  The program's vertex of a cell; VertexOf and VerticesOf of both.
  Condition: the slices read as what is named; the terms are valid, the cell is one.
-/
import Derived.Test.YthegkifhbgopoaaCuV
import Derived.Test.YthegkifhbgopoaaCeI
namespace Go.Proofs.Ythegkifhbgopoaa
set_option linter.unusedSimpArgs false
set_option linter.unusedVariables false
open Go.ChangeShapes Go.WideShapes Go.ChangeAt Go.RowKit
open Go.Sort (grow)

theorem zeL_pw (p : Tm × Tm) (l : List Tm) : ∀ n, (zeL p l n).Pairwise (· < ·)
  | 0 => List.Pairwise.nil
  | n + 1 => by
    rw [zeL]
    refine List.pairwise_append.2 ⟨zeL_pw p l n, by split <;> simp, fun a ha b hb => ?_⟩
    obtain ⟨m, hm, rfl, -⟩ := (zeL_mem p l a n).1 ha
    split at hb
    · rw [List.mem_singleton] at hb; subst hb; omega
    · simp at hb
theorem cell_pw {l : List Tm} {x : List Int} (hx : x ∈ ceL l) : x.Pairwise (· < ·) := by
  obtain ⟨i, j, k, -, -, -, -, -, rfl⟩ := (ceL_mem l x).1 hx
  exact zeL_pw _ _ _
/-- The terms of a cell. -/
def ctL (l : List Tm) (x : List Int) : List Tm := x.map fun n => td l n.toNat
theorem ctL_len (l : List Tm) (x : List Int) : (ctL l x).length = x.length := by simp [ctL]
theorem ctL_td {l : List Tm} {x : List Int} {k : Nat} (hk : k < x.length) : td (ctL l x) k = td l (gd x k).toNat := by
  rw [td_eq _ _ (by rw [ctL_len]; exact hk), gd_eq x k hk]
  simp [ctL]
theorem ctL_plB {l : List Tm} (hl : plB l = true) {x : List Int} (hx : x ∈ ceL l) : plB (ctL l x) = true := by
  obtain ⟨h1, h2, h3⟩ := (plB_iff l).1 hl
  obtain ⟨b1, b2, b3⟩ := ceL_bd hx
  refine (plB_iff _).2 ⟨by rw [ctL_len]; omega, fun t ht => ?_, ?_⟩
  · obtain ⟨n, hn, rfl⟩ := List.mem_map.1 ht
    have := b1 n hn
    exact h2 _ (td_mem (by omega))
  · unfold Srt ctL
    rw [List.pairwise_map]
    refine List.Pairwise.imp_of_mem ?_ (cell_pw hx)
    intro a b ha hb hab
    have ha' := b1 a ha
    have hb' := b1 b hb
    have h4 := List.pairwise_iff_getElem.1 h3 a.toNat b.toNat (by omega) (by omega) (by omega)
    rwa [← td_eq, ← td_eq] at h4
/-- All planes of a cell's terms tell its vertex; there is one. -/
theorem ct_plane {l : List Tm} (hl : plB l = true) {x : List Int} (hx : x ∈ ceL l) {ps : List (Tm × Tm)} (h : AllP (ctL l x) ps) : 0 < ps.length ∧ BdN (ppd ps 0).2 ∧ (ppd ps 0).2.2.2 ≠ 0 ∧
    mkB (ppd ps 0).2.1 (ppd ps 0).2.2.2 = true ∧ mkB (ppd ps 0).2.2.1 (ppd ps 0).2.2.2 = true ∧ mkN (ppd ps 0).2.1 (ppd ps 0).2.2.2 = vxN l x ∧ mkD (ppd ps 0).2.1 (ppd ps 0).2.2.2 = vxD l x ∧ mkN (ppd ps 0).2.2.1 (ppd ps 0).2.2.2 = vyN l x ∧ mkD (ppd ps 0).2.2.1 (ppd ps 0).2.2.2 = vyD l x := by
  have hpw := cell_pw hx
  have hbd := (ceL_bd hx).1
  have h0 : 0 < ps.length := by
    obtain ⟨i, j, k, hij, hjk, hk, ht, hi', hj', hk'⟩ := cell_three hx
    obtain ⟨a, ha, ea⟩ := List.getElem_of_mem hi'
    obtain ⟨b, hb, eb⟩ := List.getElem_of_mem hj'
    obtain ⟨c, hc, ec⟩ := List.getElem_of_mem hk'
    have lt : ∀ p q (hp : p < x.length) (hq : q < x.length), x[p] < x[q] → p < q := fun p q hp hq h => by
      rcases Nat.lt_trichotomy p q with h' | h' | h'
      · exact h'
      · subst h'; omega
      · have := List.pairwise_iff_getElem.1 hpw q p hq hp h'; omega
    have hab := lt a b ha hb (by rw [ea, eb]; omega)
    have hbc := lt b c hb hc (by rw [eb, ec]; omega)
    have tdx : ∀ p (hp : p < x.length) (m : Nat), x[p] = (m : Int) → td (ctL l x) p = td l m := fun p hp m e => by rw [ctL_td hp, gd_eq x p hp, e, Int.toNat_natCast]
    exact List.length_pos_of_mem ((h _).2 ⟨a, b, c, hab, hbc, by rw [ctL_len]; exact hc, by rw [tdx a ha i ea, tdx b hb j eb, tdx c hc k ec]; exact ht, rfl⟩)
  refine ⟨h0, ?_⟩
  obtain ⟨a, b, c, hab, hbc, hc, ht, hP⟩ := (h _).1 (ppd_mem h0)
  rw [ctL_len] at hc
  have hn : ∀ p, p < x.length → ∃ m : Nat, (m : Int) ∈ x ∧ td (ctL l x) p = td l m := fun p hp => by
    have h1 := hbd _ (gd_mem hp)
    refine ⟨(gd x p).toNat, ?_, ctL_td hp⟩
    rw [Int.toNat_of_nonneg h1.1]; exact gd_mem hp
  obtain ⟨i, hi, ei⟩ := hn a (by omega)
  obtain ⟨j, hj, ej⟩ := hn b (by omega)
  obtain ⟨k, hk, ek⟩ := hn c hc
  have e2 : (ppd ps 0).2 = nmT (td l i) (td l j) (td l k) := by rw [hP]; unfold plO; rw [ei, ej, ek]
  rw [ei, ej, ek] at ht
  have bi := hbd _ hi
  have bj := hbd _ hj
  have bk := hbd _ hk
  refine ⟨?_, ?_, vx_three hl hx hi hj hk e2 ht⟩
  · rw [e2]; exact BdN.nm (plB_at hl (by omega)) (plB_at hl (by omega)) (plB_at hl (by omega))
  · have := nmT_pos ht
    rw [e2]; omega
theorem part3 (zs : List Int) (j : Nat) (hj : j * 3 + 2 < zs.length) : (((part zs (j * 3)).set (j * 3) (gd zs (j * 3))).set (j * 3 + 1) (gd zs (j * 3 + 1))).set (j * 3 + 2) (gd zs (j * 3 + 2)) = part zs ((j + 1) * 3) := by
  rw [part_set zs (j * 3) (by omega), part_set zs (j * 3 + 1) (by omega), part_set zs (j * 3 + 2) hj]
  congr 1
  omega
set_option maxHeartbeats 4000000 in
set_option maxRecDepth 100000 in
theorem vertexOf_any (w : World) (B B' : Nat) (v c : Value) (l : List Tm) (x : List Int) (h : TmS w B v l) (hc : IS w B' c x) (hl : plB l = true) (hx : x ∈ ceL l) :
    Calls Try.prog 99 #[v, c] w fun e w' => e = .returned (vxV l x) ∧ Below w.heap.size w w' := by
  have HL := Lib.hid hl
  have HX := Lib.hid hx
  have h12 := (plB_le hl).2
  have hb := ceL_bd hx
  have bA : Below w.heap.size w (w.alloc (.cells #[.int .i64 0, .int .i64 0, .int .i64 0, .int .i64 0] 34)) := (Below.refl _ _).alloc (Nat.le_refl _) _
  have HQ0 := Lib.hid (Q4.new w 0 0 0 0)
  have h' := FS.below h bA
  have hc' := hc.below bA
  obtain ⟨At, nt, rfl, -, htp⟩ := TmS.parts h'
  have HTP := Lib.hid htp
  obtain ⟨Ac, capc, rfl, -, hcp⟩ := hc'.parts
  have HCP := Lib.hid hcp
  obtain ⟨n, hn⟩ : ∃ n, n = l.length := ⟨_, rfl⟩
  obtain ⟨nx, hnx⟩ : ∃ nx, nx = x.length := ⟨_, rfl⟩
  have HN := Lib.hid hn
  have HNX := Lib.hid hnx
  have HBD := Lib.hid hb.1
  have hx12 : nx ≤ 12 := by omega
  rw [← hn, ← hnx]
  obtain ⟨zs, hzs⟩ : ∃ zs, zs = flatT (ctL l x) := ⟨_, rfl⟩
  have HZL := Lib.hid (show zs.length = nx * 3 by rw [hzs, flatT_len, ctL_len, hnx])
  have HZG := Lib.hid (fun (j : Nat) (hj : j < nx) => show gd zs (j * 3) = (td l (gd x j).toNat).1 ∧ gd zs (j * 3 + 1) = (td l (gd x j).toNat).2.1 ∧ gd zs (j * 3 + 2) = (td l (gd x j).toNat).2.2 by
    have := flatT_gd (l := ctL l x) (j := j) (by rw [ctL_len, ← hnx]; exact hj)
    rw [ctL_td (by rw [← hnx]; exact hj)] at this
    rw [hzs]; exact this)
  have HZS := Lib.hid hzs
  obtain ⟨i0, hi, hz0, hz1, hz2⟩ := info_parts infoTerm
  clear h hc hl hx h' hc' htp hcp hn hnx hzs hb
  go_enter Try.func99, Try.ntmps99
  go_upto_region 1 with fail
  have HBA := Lib.hid bA
  generalize w.alloc (.cells #[.int .i64 0, .int .i64 0, .int .i64 0, .int .i64 0] 34) = w1 at HQ0 HTP HCP HBA bA ⊢
  clear bA
  go_wp2_with (refine wpList_make_full _ rfl _ _ 30 rfl w1.heap.size 74 i0 (.agg #[.int .i64 0, .int .i64 0, .int .i64 0]) 3 Try.underlying30 hi hz0 hz1 .i64 .i64 _ _ nx rfl rfl rfl rfl (by rw [hz2]; omega) (by simp only [maxLen]; omega) (Nat.le_refl _) ?_; intro w5 hown hgrow)
  have hrow0 : w5.ownsRow w1.heap.size 74 3 (.slice (some ⟨w1.heap.size, 0, none⟩) nx nx) nx (ints (part zs 0)) := by
    rw [show (madeCells (.agg #[.int .i64 0, .int .i64 0, .int .i64 0] : Value).cells (nx * 3)).toList = ints (part zs 0) from by
      rw [show part zs 0 = List.replicate (nx * 3) 0 by simp [part, HZL.out]]
      exact made_ints 3 _ (by omega)] at hown
    exact hown
  have hb0 : Below w1.heap.size w1 w5 := (Below.refl _ _).grown hgrow (Nat.le_refl _) (fun _ h => by cases h)
  clear hown hgrow
  go_wp2
  go_loopw [18] (fun i wr => ∃ j : Nat, j ≤ nx ∧ i = .int .i64 j ∧ wr.ownsRow w1.heap.size 74 3 (.slice (some ⟨w1.heap.size, 0, none⟩) nx nx) nx (ints (part zs (j * 3))) ∧ Below w1.heap.size w1 wr) (fun i _ => nx - (intOf i).toNat)
  case atStart => exact ⟨0, by omega, rfl, by rw [Nat.zero_mul]; exact hrow0, hb0⟩
  case round =>
    obtain ⟨j, hj, rfl, hrow, hb⟩ := hrel
    clear hrow0 hb0
    by_cases hlt : j < nx
    · have hjx : j < x.length := by rw [← HNX.out]; exact hlt
      obtain ⟨m, hm⟩ : ∃ m : Nat, gd x j = m := ⟨(gd x j).toNat, by have := HBD.out _ (gd_mem hjx); omega⟩
      have hml : m < l.length := by have := HBD.out _ (gd_mem hjx); omega
      obtain ⟨gc, rfl, hc0⟩ := HCP.out j hjx
      obtain ⟨gt, rfl, ht0⟩ := HTP.out m hml
      have hc1 := X3.below.box_old3 hc0 hb
      rw [hm] at hc1
      obtain ⟨a0, a1, a2⟩ := X3.below ht0 hb
      have hG := HZG.out j hlt
      rw [hm, Int.toNat_natCast] at hG
      obtain ⟨g0, g1, g2⟩ := hG
      have lc : gc < wr.heap.size := cell_lt hc1
      have lt : gt < wr.heap.size := cell_lt a0
      have hmn : m < n := by rw [HN.out]; exact hml
      have l1 : (m : Int) < (n : Int) := by omega
      have hl5 := HZL.out
      have f0 := World.ownsRow.frozenAt hrow (j * 3)
      have f1 := World.ownsRow.frozenAt hrow (j * 3 + 1)
      have f2 := World.ownsRow.frozenAt hrow (j * 3 + 2)
      have hcell : ∀ q, q < nx * 3 → wr.cell? ⟨w1.heap.size, q, none⟩ = some (.int .i64 (gd (part zs (j * 3)) q)) := fun q hq => by
        rw [World.ownsRow.cellAt hrow q hq, getD_ints _ q (by rw [part_len zs _ (by omega)]; omega)]
      have e0 := hcell (j * 3) (by omega)
      have e1 := hcell (j * 3 + 1) (by omega)
      have e2 := hcell (j * 3 + 2) (by omega)
      have s0 := World.ownsRow.stored hrow (j * 3) (.int .i64 (gd zs (j * 3)))
      have s1 := World.ownsRow.stored s0.1 (j * 3 + 1) (.int .i64 (gd zs (j * 3 + 1)))
      have s2 := World.ownsRow.stored s1.1 (j * 3 + 2) (.int .i64 (gd zs (j * 3 + 2)))
      have hrow7 := s2.1
      rw [show (((ints (part zs (j * 3))).set (j * 3) (.int .i64 (gd zs (j * 3)))).set (j * 3 + 1) (.int .i64 (gd zs (j * 3 + 1)))).set (j * 3 + 2) (.int .i64 (gd zs (j * 3 + 2))) = ints (part zs ((j + 1) * 3)) from by rw [← part3 zs j (by omega)]; unfold ints; simp only [List.map_set]] at hrow7
      have hb7 := belS (belS (belS hb (Nat.le_refl _) (j * 3) (.int .i64 (gd zs (j * 3)))) (Nat.le_refl _) (j * 3 + 1) (.int .i64 (gd zs (j * 3 + 1)))) (Nat.le_refl _) (j * 3 + 2) (.int .i64 (gd zs (j * 3 + 2)))
      rw [g0, g1, g2] at hrow7 hb7
      have HH := Lib.hid (And.intro hrow7 hb7)
      clear s0 s1 s2 hrow7 hb7 hrow hcell hl5 hb g0 g1 g2 hc0 ht0 hm
      go_wp2
      go_roundw
      case rel => exact ⟨j + 1, by omega, by go_num, HH.out.1, HH.out.2⟩
      case measure => simp [intOf]; omega
    · obtain rfl : j = nx := by omega
      have hl5 := HZL.out
      rw [part_end zs _ (by omega), HZS.out] at hrow
      have hrs : TmS wr w1.heap.size (.slice (some ⟨w1.heap.size, 0, none⟩) j j) (ctL l x) := by
        unfold TmS FS
        rw [ctL_len, ← HNX.out]
        exact hrow
      have HPL := Lib.hid (planesThrough_any wr _ _ (ctL l x) hrs (ctL_plB HL.out HX.out))
      have HB := Lib.hid (bel2 HBA.out hb)
      have HQ := Lib.hid (HQ0.out.below hb)
      clear hrow hl5 hrs hb
      go_wp2_with fail
      refine HPL.out.mono ?_
      rintro e w7 ⟨ps, hall, hle, r7, rfl, hps, b7⟩
      obtain ⟨h0, hbn, hd0, k1, k2, k3, k4, k5, k6⟩ := ct_plane HL.out HX.out hall
      obtain ⟨Ap, capp, rfl, -, hpp⟩ := FS.parts hps
      have hg := fun (t : Nat) (ht : t < 6) => flatL_gd (ps := ps) (j := 0) h0 ht
      obtain ⟨gp, rfl, d3⟩ := hpp 3 (by omega)
      obtain ⟨gp', hgp, d4⟩ := hpp 4 (by omega)
      cases hgp
      obtain ⟨gp', hgp, d5⟩ := hpp 5 (by omega)
      cases hgp
      have z3 := hg 3 (by omega)
      have z4 := hg 4 (by omega)
      have z5 := hg 5 (by omega)
      rw [Nat.zero_mul, Nat.zero_add] at z3 z4 z5
      rw [z3] at d3
      rw [z4] at d4
      rw [z5] at d5
      obtain ⟨P, hP⟩ : ∃ P, P = (ppd ps 0).2 := ⟨_, rfl⟩
      have d3' : w7.cell? ⟨gp, 3, none⟩ = some (.int .i64 P.1) := by rw [hP]; exact d3
      have d4' : w7.cell? ⟨gp, 4, none⟩ = some (.int .i64 P.2.1) := by rw [hP]; exact d4
      have d5' : w7.cell? ⟨gp, 5, none⟩ = some (.int .i64 P.2.2) := by rw [hP]; exact d5
      rw [← hP] at hbn hd0 k1 k2 k3 k4 k5 k6
      have HK := Lib.hid (And.intro k1 (And.intro k2 (show vxV l x = spV (mkN P.1 P.2.2) (mkD P.1 P.2.2) (mkN P.2.1 P.2.2) (mkD P.2.1 P.2.2) by unfold vxV; rw [k3, k4, k5, k6])))
      have lgp : gp < w7.heap.size := cell_lt d3'
      have HB7 := Lib.hid (bel2 HB.out b7)
      have HQ7 := Lib.hid (HQ.out.below b7)
      obtain ⟨np, hnp⟩ : ∃ np, np = ps.length := ⟨_, rfl⟩
      rw [← hnp] at h0 ⊢
      have h0' : (0 : Int) < (np : Int) := by omega
      obtain ⟨⟨q1, q2⟩, ⟨q3, q4⟩, q5, q6⟩ := hbn
      obtain ⟨P1, P2, P3⟩ := P
      dsimp only at *
      have HFO := Lib.hid (fun (N W : _) (hN : -24000000 ≤ N ∧ N ≤ 24000000) (hk : mkB N P3 = true) => show Calls Try.prog 125 #[.int .i64 N, .int .i64 P3] W fun e w' => e = .returned (.tuple #[fracV (mkN N P3) (mkD N P3), .bool true]) ∧ Below W.heap.size W w' from
        (implFracOf_any N P3 W).mono fun e w' hh => by
          unfold GivesOp GivesF at hh
          have e1 : partB N = true := (inB_iff _ _ _).2 (by omega)
          have e2 : partB P3 = true := (inB_iff _ _ _).2 (by omega)
          rw [e1, e2, hk] at hh
          exact hh)
      have HF1 := Lib.hid (fun W => HFO.out P1 W ⟨q1, q2⟩ HK.out.1)
      have HF2 := Lib.hid (fun W => HFO.out P2 W ⟨q3, q4⟩ HK.out.2.1)
      obtain ⟨N1, hN1⟩ : ∃ a, a = mkN P1 P3 := ⟨_, rfl⟩
      obtain ⟨D1, hD1⟩ : ∃ a, a = mkD P1 P3 := ⟨_, rfl⟩
      obtain ⟨N2, hN2⟩ : ∃ a, a = mkN P2 P3 := ⟨_, rfl⟩
      obtain ⟨D2, hD2⟩ : ∃ a, a = mkD P2 P3 := ⟨_, rfl⟩
      have HVX := Lib.hid (show vxV l x = spV N1 D1 N2 D2 by rw [HK.out.2.2, hN1, hD1, hN2, hD2])
      rw [← hN1, ← hD1] at HF1
      rw [← hN2, ← hD2] at HF2
      clear hall hle hps b7 hpp hg d3 d4 d5 z3 z4 z5 hP k1 k2 k3 k4 k5 k6 hnp HK HFO hd0 q1 q2 q3 q4 q5 q6 hN1 hD1 hN2 hD2 HB HQ HPL
      go_upto_region 8 with fail
      have bN : Below w7.heap.size w7 (w7.alloc (.cells #[.int .i64 P1, .int .i64 P2, .int .i64 P3] 74)) := (Below.refl _ _).alloc (Nat.le_refl _) _
      have HT8 := Lib.hid (T3.new w7 (P1, P2, P3) 74)
      have HB8 := Lib.hid (bel2 HB7.out bN)
      have HQ8 := Lib.hid (HQ7.out.below bN)
      clear bN d3' d4' d5' lgp HB7 HQ7
      generalize w7.heap.size = G7 at HT8 ⊢
      generalize w7.alloc (.cells #[.int .i64 P1, .int .i64 P2, .int .i64 P3] 74) = w8 at HT8 HB8 HQ8 ⊢
      obtain ⟨t0, t1, t2⟩ := HT8.out
      dsimp only at t0 t1 t2
      have lG : G7 < w8.heap.size := cell_lt t0
      go_wp2_with fail
      refine (HF1.out _).mono ?_
      rintro e w9 ⟨rfl, b9⟩
      have hF := F2.new w9 N1 D1
      have bA9 : Below w9.heap.size w9 (w9.alloc (.cells #[.int .i64 N1, .int .i64 D1] 32)) := (Below.refl _ _).alloc (Nat.le_refl _) _
      have hb9 := bel2 b9 bA9
      have HT10 := Lib.hid (T3.below HT8.out hb9)
      have HB10 := Lib.hid (bel2 HB8.out hb9)
      have HQ10 := Lib.hid (HQ8.out.below hb9)
      have HF10 := Lib.hid hF
      clear t0 t1 t2 lG b9 bA9 hb9 hF HT8 HB8 HQ8
      go_upto_region 9 with fail
      generalize w9.heap.size = G9 at HF10 ⊢
      generalize w9.alloc (.cells #[.int .i64 N1, .int .i64 D1] 32) = w10 at HT10 HB10 HQ10 HF10 ⊢
      obtain ⟨t0, t1, t2⟩ := HT10.out
      dsimp only at t0 t1 t2
      have lG : G7 < w10.heap.size := cell_lt t0
      go_wp2_with fail
      refine (HF2.out _).mono ?_
      rintro e w11 ⟨rfl, b11⟩
      have hF := F2.new w11 N2 D2
      have bA11 : Below w11.heap.size w11 (w11.alloc (.cells #[.int .i64 N2, .int .i64 D2] 32)) := (Below.refl _ _).alloc (Nat.le_refl _) _
      have hb11 := bel2 b11 bA11
      have HF12 := Lib.hid (HF10.out.below hb11)
      have HB12 := Lib.hid (bel2 HB10.out hb11)
      have HQ12 := Lib.hid (HQ10.out.below hb11)
      have HF12' := Lib.hid hF
      clear t0 t1 t2 lG b11 bA11 hb11 hF HT10 HB10 HQ10 HF10
      go_upto_region 10 with fail
      generalize w11.heap.size = G11 at HF12' ⊢
      generalize w11.alloc (.cells #[.int .i64 N2, .int .i64 D2] 32) = w12 at HF12 HB12 HQ12 HF12' ⊢
      obtain ⟨f0, f1, -, -⟩ := HF12.out
      obtain ⟨f2, f3, -, -⟩ := HF12'.out
      obtain ⟨⟨s0, s1, s2, s3⟩, u0, u1, u2, u3⟩ := HQ12.out.cells
      have lw : w.heap.size < w12.heap.size := cell_lt s0
      go_wp2
      refine bodyPost_ret (Q4.result (g := w.heap.size) (HQ12.out.put N1 D1 N2 D2) rfl rfl) rfl ?_
      exact ⟨by rw [HVX.out], belQ4 HB12.out (Nat.le_refl _) _ _ _ _⟩
end Go.Proofs.Ythegkifhbgopoaa

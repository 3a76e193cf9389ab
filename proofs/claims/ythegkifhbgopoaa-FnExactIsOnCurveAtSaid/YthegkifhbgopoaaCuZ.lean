/-
  Is a spot on a curve: what the program's call returns.
  Condition: the slice reads as the list that is named.
-/
import Derived.Test.YthegkifhbgopoaaCuX
import Derived.Test.YthegkifhbgopoaaCuY
namespace Go.Proofs.Ythegkifhbgopoaa
set_option linter.unusedSimpArgs false
set_option linter.unusedVariables false
open Go.ChangeShapes Go.WideShapes Go.ChangeAt Go.RowKit
open Go.Sort (grow)

theorem infoFrO : (Try.prog.info? 32).map (fun i => (i.zero, i.size, i.bytes)) = some (some (.agg #[.int .i64 0, .int .i64 0]), 2, 16) := by kernel_rfl
theorem partF2 (zs : List Int) (j : Nat) (hj : j * 2 + 1 < zs.length) : ((part zs (j * 2)).set (j * 2) (gd zs (j * 2))).set (j * 2 + 1) (gd zs (j * 2 + 1)) = part zs ((j + 1) * 2) := by
  rw [part_set zs (j * 2) (by omega), part_set zs (j * 2 + 1) (by omega)]
  congr 1
  omega
/-- What the program puts into its list. -/
def vgL (l : List Tm) (a b c d : Int) : List Pt := l.map fun t => (okF (frB a b && frB c d) (cvN t a b c d), okF (frB a b && frB c d) (cvD t a b c d))
theorem vgL_len (l : List Tm) (a b c d : Int) : (vgL l a b c d).length = l.length := by simp [vgL]
theorem vgL_pd {l : List Tm} {a b c d : Int} {k : Nat} (h : k < l.length) : pd (vgL l a b c d) k = (okF (frB a b && frB c d) (cvN (td l k) a b c d), okF (frB a b && frB c d) (cvD (td l k) a b c d)) := by
  rw [pd_eq _ _ (by rw [vgL_len]; exact h), td_eq l k h]; simp [vgL]
theorem vgL_yes {l : List Tm} {a b c d : Int} (h : (frB a b && frB c d) = true) : vgL l a b c d = vaL l a b c d := by
  unfold vgL vaL okF; simp [h]
theorem onB_all {l : List Tm} {a b c d : Int} (hl : plB l = true) (h : ∀ j, j < l.length → (frB a b && frB c d && cvB (td l j) a b c d) = true) : onB l a b c d = true ∧ vgL l a b c d = vaL l a b c d ∧ FrA (vaL l a b c d) := by
  have h0 := h 0 (by have := (plB_le hl).1; omega)
  simp only [Bool.and_eq_true] at h0
  have ha := vaA_yes (l := l) (a := a) (b := b) (c := c) (d := d) (fun k hk => by have := h k hk; simp only [Bool.and_eq_true] at this; exact this.2)
  exact ⟨by unfold onB; rw [hl, h0.1.1, h0.1.2, ha]; rfl, vgL_yes (by rw [h0.1.1, h0.1.2]; rfl), vaA_good ha⟩
theorem onB_one {l : List Tm} {a b c d : Int} {k : Nat} (hk : k < l.length) (h : (frB a b && frB c d && cvB (td l k) a b c d) = false) : onB l a b c d = false := by
  unfold onB
  cases q1 : frB a b
  · simp
  cases q2 : frB c d
  · simp
  rw [q1, q2] at h
  rw [vaA_no hk h]; simp
theorem givesOn_is {l : List Tm} {a b c d : Int} {w w' : World} (h : onB l a b c d = true) (h' : onR l a b c d = true) (hb : Below w.heap.size w w') : GivesOn l a b c d w (.returned (.tuple #[.bool true, .bool true])) w' := by
  unfold GivesOn; rw [h, h']; exact ⟨rfl, hb⟩
/-! ### At a vertex -/
theorem lo_gen {n d : Int} (hn : -1000000000 ≤ n ∧ n ≤ 1000000000) (hd0 : d ≠ 0) (hd : -72 ≤ d ∧ d ≤ 72) : mkB n d = true := by
  obtain ⟨k, hk, e1, e2, hpos, hg⟩ := red n d hd0
  unfold mkB frB
  have hk1 : 1 ≤ k.natAbs := by omega
  have a1 : (loN n d).natAbs ≤ n.natAbs := by
    have : n.natAbs = (loN n d).natAbs * k.natAbs := by rw [← Int.natAbs_mul, ← e1]
    rw [this]; exact Nat.le_mul_of_pos_right _ (by omega)
  have a2 : (loD n d).natAbs ≤ d.natAbs := by
    have : d.natAbs = (loD n d).natAbs * k.natAbs := by rw [← Int.natAbs_mul, ← e2]
    rw [this]; exact Nat.le_mul_of_pos_right _ (by omega)
  simp only [Bool.and_eq_true, bne_iff_ne, ne_eq, inB_iff, beq_iff_eq]
  refine ⟨hd0, ⟨by omega, by omega⟩, ⟨by omega, by omega⟩, ?_⟩
  unfold gI; omega
theorem mk_same {p q K M : Int} (hM : M ≠ 0) (hq : q ≠ 0) (hK : mkB K M = true) (e : p * M = K * q) : mkB p q = true ∧ mkN p q = mkN K M ∧ mkD p q = mkD K M := by
  obtain ⟨-, hf, e2⟩ := mk_parts hK
  refine mk_uniq hf hq (Int.eq_of_mul_eq_mul_right hM ?_)
  generalize mkN K M = A at *
  generalize mkD K M = B at *
  grind
/-- The value of a term at a vertex. -/
theorem cv_vertex {n1 n2 n3 : Int} (h0 : n3 ≠ 0) (hb : BdN (n1, n2, n3)) {t : Tm} (ht : plT t = true) :
    frB (mkN n1 n3) (mkD n1 n3) = true ∧ frB (mkN n2 n3) (mkD n2 n3) = true ∧ cvB t (mkN n1 n3) (mkD n1 n3) (mkN n2 n3) (mkD n2 n3) = true ∧
    (t.1 * n1 + t.2.1 * n2 + t.2.2 * n3) * cvD t (mkN n1 n3) (mkD n1 n3) (mkN n2 n3) (mkD n2 n3) = cvN t (mkN n1 n3) (mkD n1 n3) (mkN n2 n3) (mkD n2 n3) * n3 := by
  obtain ⟨b1, b2, b3⟩ := hb
  dsimp only at b1 b2 b3
  obtain ⟨t1, t2, t3, t4, t5⟩ := plT_parts ht
  obtain ⟨I, J, C⟩ := t
  dsimp only at *
  have k1 : -144000000 ≤ I * n1 ∧ I * n1 ≤ 144000000 := by
    have := mulB2 (x := I) (y := n1) (A := 6) (B := 24000000) (by omega) (by omega); omega
  have k2 : -144000000 ≤ J * n2 ∧ J * n2 ≤ 144000000 := by
    have := mulB2 (x := J) (y := n2) (A := 6) (B := 24000000) (by omega) (by omega); omega
  have k3 : -72000000 ≤ C * n3 ∧ C * n3 ≤ 72000000 := by
    have := mulB2 (x := C) (y := n3) (A := 1000000) (B := 72) (by omega) (by omega); omega
  obtain ⟨-, f1, e1⟩ := mk_parts (lo_gen (n := n1) (by omega) h0 b3)
  obtain ⟨-, f2, e2⟩ := mk_parts (lo_gen (n := n2) (by omega) h0 b3)
  have m1 := lo_gen (n := I * n1) (by omega) h0 b3
  have m2 := lo_gen (n := J * n2) (by omega) h0 b3
  have m3 := lo_gen (n := I * n1 + J * n2) (by omega) h0 b3
  have m4 := lo_gen (n := I * n1 + J * n2 + C * n3) (by omega) h0 b3
  refine ⟨f1, f2, ?_⟩
  have p1 := (frB_pos f1).1
  have p2 := (frB_pos f2).1
  generalize mkN n1 n3 = a at *
  generalize mkD n1 n3 = b at *
  generalize mkN n2 n3 = c at *
  generalize mkD n2 n3 = d at *
  obtain ⟨x1, x2, x3⟩ := mk_same (p := I * a) (q := 1 * b) h0 (by omega) m1 (by grind)
  obtain ⟨y1, y2, y3⟩ := mk_same (p := J * c) (q := 1 * d) h0 (by omega) m2 (by grind)
  obtain ⟨-, g1, q1⟩ := mk_parts m1
  obtain ⟨-, g2, q2⟩ := mk_parts m2
  have r1 := (frB_pos g1).1
  have r2 := (frB_pos g2).1
  obtain ⟨s1, s2, s3⟩ := mk_same (p := mkN (I * n1) n3 * mkD (J * n2) n3 + mkN (J * n2) n3 * mkD (I * n1) n3) (q := mkD (I * n1) n3 * mkD (J * n2) n3) h0 (Int.ne_of_gt (Int.mul_pos r1 r2)) m3 (by
    generalize mkN (I * n1) n3 = A1 at *
    generalize mkD (I * n1) n3 = B1 at *
    generalize mkN (J * n2) n3 = A2 at *
    generalize mkD (J * n2) n3 = B2 at *
    grind)
  have v1 : svB I J a b c d = true := by unfold svB; rw [x2, x3, y2, y3]; exact s1
  have v2 : svN I J a b c d = mkN (I * n1 + J * n2) n3 := by unfold svN; rw [x2, x3, y2, y3]; exact s2
  have v3 : svD I J a b c d = mkD (I * n1 + J * n2) n3 := by unfold svD; rw [x2, x3, y2, y3]; exact s3
  obtain ⟨-, g3, q3⟩ := mk_parts m3
  have r3 := (frB_pos g3).1
  obtain ⟨w1, w2, w3⟩ := mk_same (p := mkN (I * n1 + J * n2) n3 * 1 + C * mkD (I * n1 + J * n2) n3) (q := mkD (I * n1 + J * n2) n3 * 1) h0 (by omega) m4 (by
    generalize mkN (I * n1 + J * n2) n3 = A3 at *
    generalize mkD (I * n1 + J * n2) n3 = B3 at *
    grind)
  have hB : cvB (I, J, C) a b c d = true := by
    unfold cvB; dsimp only; rw [x1, y1, v1, v2, v3, w1]; rfl
  refine ⟨hB, ?_⟩
  have hN : cvN (I, J, C) a b c d = mkN (I * n1 + J * n2 + C * n3) n3 := by
    unfold cvN okF; rw [if_pos hB]; dsimp only; rw [v2, v3, w2]
  have hD : cvD (I, J, C) a b c d = mkD (I * n1 + J * n2 + C * n3) n3 := by
    unfold cvD okF; rw [if_pos hB]; dsimp only; rw [v2, v3, w3]
  rw [hN, hD]
  exact (mk_parts m4).2.2
set_option maxHeartbeats 1000000 in
theorem on_vertex {l : List Tm} {a b c d : Int} (hl : plB l = true) (h : hasSp (vsF l (ceR l)) a b c d (ceR l).length = true) : onB l a b c d = true ∧ onR l a b c d = true := by
  rw [ceR_yes hl] at h
  obtain ⟨k, hk, h0, h1, h2, h3⟩ := (hasSp_iff _ a b c d _).1 h
  have hx : (ceL l).getD k [] ∈ ceL l := by rw [List.getD_eq_getElem?_getD, List.getElem?_eq_getElem hk]; exact List.getElem_mem _
  have e0 := vsF_gd (l := l) (cs := ceL l) (j := k) (t := 0) hk (by omega)
  have e1 := vsF_gd (l := l) (cs := ceL l) (j := k) (t := 1) hk (by omega)
  have e2 := vsF_gd (l := l) (cs := ceL l) (j := k) (t := 2) hk (by omega)
  have e3 := vsF_gd (l := l) (cs := ceL l) (j := k) (t := 3) hk (by omega)
  generalize (ceL l).getD k [] = x at *
  have a0 : a = mkN (nvO l x).1 (nvO l x).2.2 := h0.symm.trans e0
  have a1 : b = mkD (nvO l x).1 (nvO l x).2.2 := h1.symm.trans e1
  have a2 : c = mkN (nvO l x).2.1 (nvO l x).2.2 := h2.symm.trans e2
  have a3 : d = mkD (nvO l x).2.1 (nvO l x).2.2 := h3.symm.trans e3
  clear h h0 h1 h2 h3 e0 e1 e2 e3
  have hvb := nvO_bd hl hx
  have hv0 := nvO_ne hx
  have hcv := fun (m : Nat) (hm : m < l.length) => cv_vertex (n1 := (nvO l x).1) (n2 := (nvO l x).2.1) (n3 := (nvO l x).2.2) hv0 hvb (plB_at hl hm)
  rw [← a0, ← a1, ← a2, ← a3] at hcv
  clear a0 a1 a2 a3
  have hlen := plB_le hl
  have g := hcv 0 (by omega)
  have hva : vaA l a b c d = true := vaA_yes fun m hm => (hcv m hm).2.2.1
  have hon : onB l a b c d = true := by unfold onB; rw [hl, g.1, g.2.1, hva]; rfl
  refine ⟨hon, ?_⟩
  unfold onR
  rw [hon, Bool.true_and]
  have hFA := vaA_good hva
  obtain ⟨i, j, q, -, -, -, hP, hP0, hPm, -⟩ := cell_plane hx
  generalize plO l i j q = P at *
  have zz : ∀ m : Nat, (m : Int) ∈ x → htT P.1 P.2 (td l m) = 0 := fun m hm => by
    have := ((hPm _).1 hm).2
    rwa [show ((m : Nat) : Int).toNat = m by omega] at this
  have hc : ∀ n, n < 3 → htT P.1 P.2 (cnO l x n) = 0 := fun n hn => by
    have h3 := hc_3 hx
    exact zz _ (fnI_in hl hx (pd_mem (by omega)))
  obtain ⟨f1, f2⟩ := normal_along (hc 0 (by omega)) (hc 1 (by omega)) (hc 2 (by omega))
  rw [show noT (cnO l x 0) (cnO l x 1) (cnO l x 2) = nvO l x from rfl] at f1 f2
  have hW : ∀ m, m < l.length → (P.2.1 * (td l m).1 + P.2.2.1 * (td l m).2.1 + P.2.2.2 * (td l m).2.2) * cvD (td l m) a b c d = cvN (td l m) a b c d * P.2.2.2 := fun m hm => by
    have := (hcv m hm).2.2.2
    refine Int.eq_of_mul_eq_mul_right hv0 ?_
    generalize cvN (td l m) a b c d = N at *
    generalize cvD (td l m) a b c d = D at *
    generalize (nvO l x).1 = n1 at *
    generalize (nvO l x).2.1 = n2 at *
    generalize (nvO l x).2.2 = n3 at *
    generalize P.2.1 = p1 at *
    generalize P.2.2.1 = p2 at *
    generalize P.2.2.2 = p3 at *
    grind
  obtain ⟨i1, j1, q1, hij, hjq, hq, -, mi, mj, -⟩ := cell_three hx
  have key : ∀ m m', m < l.length → m' < l.length → htT P.1 P.2 (td l m) ≤ htT P.1 P.2 (td l m') → leF (pd (vaL l a b c d) m) (pd (vaL l a b c d) m') := fun m m' hm hm' hh => by
    rw [vaL_pd hm, vaL_pd hm']
    show cvN (td l m) a b c d * cvD (td l m') a b c d ≤ cvN (td l m') a b c d * cvD (td l m) a b c d
    have w1 := hW m hm
    have w2 := hW m' hm'
    have d1 := (frB_pos (cvB_frB (hcv m hm).2.2.1)).1
    have d2 := (frB_pos (cvB_frB (hcv m' hm').2.2.1)).1
    have hle : P.2.1 * (td l m).1 + P.2.2.1 * (td l m).2.1 + P.2.2.2 * (td l m).2.2 ≤ P.2.1 * (td l m').1 + P.2.2.1 * (td l m').2.1 + P.2.2.2 * (td l m').2.2 := by
      unfold htT at hh
      simp only [Int.mul_sub] at hh
      omega
    generalize P.2.1 * (td l m).1 + P.2.2.1 * (td l m).2.1 + P.2.2.2 * (td l m).2.2 = W1 at *
    generalize P.2.1 * (td l m').1 + P.2.2.1 * (td l m').2.1 + P.2.2.2 * (td l m').2.2 = W2 at *
    generalize cvN (td l m) a b c d = N1 at *
    generalize cvD (td l m) a b c d = D1 at *
    generalize cvN (td l m') a b c d = N2 at *
    generalize cvD (td l m') a b c d = D2 at *
    have e1 : W1 * (D1 * D2) ≤ W2 * (D1 * D2) := Int.mul_le_mul_of_nonneg_right hle (Int.le_of_lt (Int.mul_pos d1 d2))
    generalize P.2.2.2 = p3 at w1 w2 hP
    have r1 : p3 * (N1 * D2) = W1 * (D1 * D2) := by
      rw [← Int.mul_assoc W1, w1]
      simp only [Int.mul_comm, Int.mul_left_comm]
    have r2 : p3 * (N2 * D1) = W2 * (D1 * D2) := by
      rw [Int.mul_comm D1, ← Int.mul_assoc W2, w2]
      simp only [Int.mul_comm, Int.mul_left_comm]
    have e2 : p3 * (N1 * D2) ≤ p3 * (N2 * D1) := by rw [r1, r2]; exact e1
    exact Int.le_of_mul_le_mul_left e2 hP
  have zi := zz _ mi
  have zj := zz _ mj
  have hgood := fun (m : Nat) (hm : m < l.length) => show frB (pd (vaL l a b c d) m).1 (pd (vaL l a b c d) m).2 = true by rw [vaL_pd hm]; exact cvB_frB (hcv m hm).2.2.1
  refine twB_two hFA hij (by rw [vaL_len]; omega) (leF_eq (hgood _ (by omega)) (hgood _ (by omega)) (key _ _ (by omega) (by omega) (by omega)) (key _ _ (by omega) (by omega) (by omega))) fun v hv => ?_
  obtain ⟨m, hm, rfl⟩ := List.mem_iff_getElem.1 hv
  rw [vaL_len] at hm
  rw [← pd_eq _ m (by rw [vaL_len]; exact hm)]
  refine key _ _ (by omega) hm ?_
  rw [zi]
  exact hP0 m hm
set_option maxHeartbeats 4000000 in
set_option maxRecDepth 100000 in
theorem implIsOn_any (w : World) (B : Nat) (v : Value) (l : List Tm) (a b c d : Int) (h : TmS w B v l) : Calls Try.prog 18 #[v, spV a b c d] w fun e w' => GivesOn l a b c d w e w' := by
  have hQ := Q4.new w a b c d
  have hI : TmS (w.alloc (.cells #[.int .i64 a, .int .i64 b, .int .i64 c, .int .i64 d] 34)) B v l := FS.below h ((Below.refl _ _).alloc (Nat.le_refl _) _)
  have HQ := Lib.hid hQ
  have HI := Lib.hid hI
  have HB := Lib.hid ((Below.refl w.heap.size w).alloc (Nat.le_refl _) (.cells #[.int .i64 a, .int .i64 b, .int .i64 c, .int .i64 d] 34))
  clear hQ hI
  cases hl : plB l
  · go_enter Try.func18, Try.ntmps18
    go_wp2_with fail
    refine (implVerticesOf_any _ B _ l HI.out).mono ?_
    rintro x w1 ⟨r, rfl, hr, b1⟩
    rw [hl]
    clear hr
    go_wp2_with fail
    go_ret2
    exact givesOn_no (by unfold onB; rw [hl]; rfl) (bel2 HB.out b1)
  have HL := Lib.hid hl
  have h1n := plB_le hl
  cases hs : hasSp (vsF l (ceR l)) a b c d (ceR l).length
  case true =>
    have HON := Lib.hid (on_vertex hl hs)
    go_enter Try.func18, Try.ntmps18
    go_wp2_with fail
    refine (implVerticesOf_any _ B _ l HI.out).mono ?_
    rintro x w1 ⟨r, rfl, hr, b1⟩
    rw [hl]
    obtain ⟨⟨q0, q1, q2, q3⟩, -⟩ := (HQ.out.below b1).cells
    have HR := Lib.hid hr
    clear hr
    go_wp2_with fail
    refine (containsSp_any _ _ _ _ _ a b c d HR.out).mono ?_
    rw [hs]
    rintro x w2 ⟨rfl, b2⟩
    go_wp2_with fail
    go_ret2
    exact givesOn_is HON.out.1 HON.out.2 (bel2 (bel2 HB.out b1) b2)
  have HS := Lib.hid hs
  have HLM := Lib.hid (show ∀ k, k < l.length → Lim (td l k).1 ∧ Lim (td l k).2.1 ∧ Lim (td l k).2.2 from fun k hk => plT_lim (plB_at hl hk))
  obtain ⟨A, cap, rfl, hm, hp⟩ := TmS.parts h
  have HP := Lib.hid hp
  have HALL := Lib.hid (onB_all (l := l) (a := a) (b := b) (c := c) (d := d) hl)
  have HONE := Lib.hid (fun (k : Nat) => onB_one (l := l) (a := a) (b := b) (c := c) (d := d) (k := k))
  obtain ⟨n, hn⟩ : ∃ n, n = l.length := ⟨_, rfl⟩
  have HN := Lib.hid hn
  rw [← hn] at hm h1n HLM HALL HONE HI ⊢
  obtain ⟨U, hU⟩ : ∃ U, U = vgL l a b c d := ⟨_, rfl⟩
  have HU := Lib.hid hU
  have hUl : U.length = n := by rw [hU, vgL_len, hn]
  have HUP := Lib.hid (show ∀ k, k < n → pd U k = (okF (frB a b && frB c d) (cvN (td l k) a b c d), okF (frB a b && frB c d) (cvD (td l k) a b c d)) from fun k hk => by rw [hU]; exact vgL_pd (by omega))
  obtain ⟨zs, hzs⟩ : ∃ zs, zs = flatP U := ⟨_, rfl⟩
  have HZL := Lib.hid (show zs.length = n * 2 by rw [hzs, flatP_len, hUl])
  have HZG := Lib.hid (fun (j : Nat) (hj : j < n) => show gd zs (j * 2) = (pd U j).1 ∧ gd zs (j * 2 + 1) = (pd U j).2 by rw [hzs]; exact flatP_gd (by omega))
  have HZS := Lib.hid hzs
  have HUL := Lib.hid hUl
  obtain ⟨i0, hi, hz0, hz1, hz2⟩ := info_parts infoFrO
  unfold maxLen at hm
  clear h hp hn hU hzs hl hs hUl
  go_enter Try.func18, Try.ntmps18
  go_wp2_with fail
  refine (implVerticesOf_any _ B _ l HI.out).mono ?_
  rintro x w1 ⟨r, rfl, hr, b1⟩
  rw [HL.out]
  obtain ⟨⟨q0, q1, q2, q3⟩, -⟩ := (HQ.out.below b1).cells
  have HR := Lib.hid hr
  clear hr
  go_wp2_with fail
  refine (containsSp_any _ _ _ _ _ a b c d HR.out).mono ?_
  rw [HS.out]
  rintro x w2 ⟨rfl, b2⟩
  have HQ2 := Lib.hid ((HQ.out.below b1).below b2)
  have HB2 := Lib.hid (bel2 (bel2 HB.out b1) b2)
  have hw2 : w.heap.size < w2.heap.size := cell_lt HQ2.out.cells.1.1
  clear q0 q1 q2 q3 b1 b2 HR HQ HI
  go_wp2_with (refine wpList_make_full _ rfl _ _ 85 rfl w2.heap.size 32 i0 (.agg #[.int .i64 0, .int .i64 0]) 2 Try.underlying85 hi hz0 hz1 .i64 .i64 _ _ n rfl rfl rfl rfl (by rw [hz2]; omega) (by simp only [maxLen]; omega) (Nat.le_refl _) ?_; intro w5 hown hgrow)
  have hrow0 : w5.ownsRow w2.heap.size 32 2 (.slice (some ⟨w2.heap.size, 0, none⟩) n n) n (ints (part zs 0)) := by
    rw [show (madeCells (.agg #[.int .i64 0, .int .i64 0] : Value).cells (n * 2)).toList = ints (part zs 0) from by
      rw [show part zs 0 = List.replicate (n * 2) 0 by simp [part, HZL.out]]
      exact made_ints 2 _ (by omega)] at hown
    exact hown
  have hb0 : Below w2.heap.size w2 w5 := (Below.refl _ _).grown hgrow (Nat.le_refl _) (fun _ h => by cases h)
  clear hown hgrow
  go_wp2
  go_loopw [26] (fun i wr => ∃ j : Nat, j ≤ n ∧ i = .int .i64 j ∧ (∀ k, k < j → (frB a b && frB c d && cvB (td l k) a b c d) = true) ∧ wr.ownsRow w2.heap.size 32 2 (.slice (some ⟨w2.heap.size, 0, none⟩) n n) n (ints (part zs (j * 2))) ∧ Below w2.heap.size w2 wr) (fun i _ => n - (intOf i).toNat)
  case atStart => exact ⟨0, by omega, rfl, fun k hk => by omega, by rw [Nat.zero_mul]; exact hrow0, hb0⟩
  case round =>
    obtain ⟨j, hj, rfl, hall, hrow, hb⟩ := hrel
    clear hrow0 hb0
    by_cases hlt : j < n
    · obtain ⟨g, rfl, hc0⟩ := HP.out j (by rw [← HN.out]; exact hlt)
      have hbw := bel2 HB2.out hb
      obtain ⟨c0, c1, c2⟩ := X3.below hc0 hbw
      have hQ := HQ2.out.below hb
      have HLk := Lib.hid (HLM.out j hlt)
      have HUk := Lib.hid (HUP.out j hlt)
      have HGk := Lib.hid (HZG.out j hlt)
      have HOk := Lib.hid (HONE.out j hlt)
      obtain ⟨t, ht⟩ : ∃ t, t = td l j := ⟨_, rfl⟩
      have HTK := Lib.hid ht.symm
      rw [← ht] at c0 c1 c2 HLk HUk HOk
      have hT := T3.new wr t 74
      have hQA := hQ.below ((Below.refl _ _).alloc (Nat.le_refl _) (.cells #[.int .i64 t.1, .int .i64 t.2.1, .int .i64 t.2.2] 74))
      have hbA := hb.alloc hb.size (.cells #[.int .i64 t.1, .int .i64 t.2.1, .int .i64 t.2.2] 74)
      have hrA := sl_below hrow ((Below.refl _ _).alloc (Nat.le_refl _) (.cells #[.int .i64 t.1, .int .i64 t.2.1, .int .i64 t.2.2] 74))
      have hw2r : w2.heap.size ≤ wr.heap.size := hb.size
      clear hc0 hQ hb hbw ht hrow
      go_upto_region 10 with fail
      generalize wr.alloc (.cells #[.int .i64 t.1, .int .i64 t.2.1, .int .i64 t.2.2] 74) = W0 at hT hQA hbA hrA ⊢
      have HBA := Lib.hid hbA
      have HRA := Lib.hid hrA
      clear c0 c1 c2 hbA hrA
      obtain ⟨t0, t1, t2⟩ := hT
      obtain ⟨⟨q0, q1, q2, q3⟩, -⟩ := hQA.cells
      have lT := cell_lt t0
      have lQ := cell_lt q0
      go_wp2_with fail
      refine (valueAtSpot_any t a b c d _ HLk.out.1 HLk.out.2.1 HLk.out.2.2).mono ?_
      rintro e w6 ⟨rfl, b6⟩
      have hrow6 := sl_below HRA.out b6
      have hb6 := bel2 HBA.out b6
      have HAL := Lib.hid (show (frB a b && frB c d && cvB t a b c d) = true → ∀ k, k < j + 1 → (frB a b && frB c d && cvB (td l k) a b c d) = true from fun q k hk => by
        by_cases hkj : k < j
        · exact hall k hkj
        · obtain rfl : k = j := by omega
          rw [HTK.out]; exact q)
      obtain ⟨X, hX⟩ : ∃ X, X = okF (frB a b && frB c d) (cvN t a b c d) := ⟨_, rfl⟩
      obtain ⟨Y, hY⟩ : ∃ Y, Y = okF (frB a b && frB c d) (cvD t a b c d) := ⟨_, rfl⟩
      obtain ⟨m, hm'⟩ : ∃ m, m = (frB a b && frB c d && cvB t a b c d) := ⟨_, rfl⟩
      rw [← hX, ← hY] at HUk
      rw [← hm'] at HAL HOk
      rw [← hX, ← hY, ← hm']
      have hg0 : gd zs (j * 2) = X := by rw [HGk.out.1, HUk.out]
      have hg1 : gd zs (j * 2 + 1) = Y := by rw [HGk.out.2, HUk.out]
      clear t0 t1 t2 q0 q1 q2 q3 lT lQ hQA HBA HRA b6 hX hY hm' hall
      have hl5 := HZL.out
      have f0 := World.ownsRow.frozenAt hrow6 (j * 2)
      have f1 := World.ownsRow.frozenAt hrow6 (j * 2 + 1)
      have hcell : ∀ q, q < n * 2 → w6.cell? ⟨w2.heap.size, q, none⟩ = some (.int .i64 (gd (part zs (j * 2)) q)) := fun q hq => by
        rw [World.ownsRow.cellAt hrow6 q hq, getD_ints _ q (by rw [part_len zs _ (by omega)]; omega)]
      have e0 := hcell (j * 2) (by omega)
      have e1 := hcell (j * 2 + 1) (by omega)
      have s0 := World.ownsRow.stored hrow6 (j * 2) (.int .i64 (gd zs (j * 2)))
      have s1 := World.ownsRow.stored s0.1 (j * 2 + 1) (.int .i64 (gd zs (j * 2 + 1)))
      have hrow7 := s1.1
      rw [show ((ints (part zs (j * 2))).set (j * 2) (.int .i64 (gd zs (j * 2)))).set (j * 2 + 1) (.int .i64 (gd zs (j * 2 + 1))) = ints (part zs ((j + 1) * 2)) from by rw [← partF2 zs j (by omega)]; unfold ints; simp only [List.map_set]] at hrow7
      have hb7 := belS (belS hb6 (Nat.le_refl _) (j * 2) (.int .i64 (gd zs (j * 2)))) (Nat.le_refl _) (j * 2 + 1) (.int .i64 (gd zs (j * 2 + 1)))
      rw [hg0, hg1] at hrow7 hb7
      have HH := Lib.hid (And.intro hrow7 hb7)
      have z1 : ((j : Nat) : Int) < (n : Int) := by omega
      have z2 : (0 : Int) ≤ ((j : Nat) : Int) := by omega
      clear s0 s1 hrow7 hb7 hrow6 hcell hl5 hb6 hg0 hg1
      cases m
      · go_wp2_with fail
        go_ret2
        exact givesOn_no (HOk.out (by simp)) (bel2 HB2.out HH.out.2)
      · go_wp2
        go_roundw
        case rel => exact ⟨j + 1, by omega, by go_num, HAL.out (by simp), HH.out.1, HH.out.2⟩
        case measure => simp [intOf]; omega
    · obtain rfl : j = n := by omega
      have hA := HALL.out hall
      have hl5 := HZL.out
      rw [part_end zs _ (by omega), HZS.out] at hrow
      have hUV : U = vaL l a b c d := HU.out.trans hA.2.1
      have hFA : FrA U := by rw [hUV]; exact hA.2.2
      have hUn := HUL.out
      have hFS : FS 32 2 wr w2.heap.size (.slice (some ⟨w2.heap.size, 0, none⟩) j j) U.length (flatP U) := by
        unfold FS; rw [hUn]; exact hrow
      have HON := Lib.hid (And.intro hA.1 hUV)
      have HFS := Lib.hid hFS
      have HFA := Lib.hid hFA
      have HB3 := Lib.hid hb
      clear hl5 hrow hA hUV hFA hUn hFS hall hb
      go_wp2_with fail
      refine (sortFuncF_any wr w2.heap.size _ U HFS.out (by rw [HUL.out]; omega) HFA.out).mono ?_
      rintro e w7 ⟨rfl, D, hD, hperm, hpw, hg7⟩
      have hDl : D.length = j := hperm.length_eq.trans HUL.out
      have HTW := Lib.hid (twB_sorted HFA.out hperm hpw.out (by rw [HUL.out]; omega))
      have HB7 := Lib.hid (bel2 HB2.out (HB3.out.grown hg7 HB3.out.size (fun k hk => by cases hk; exact Nat.le_refl _)))
      rw [hDl] at hD
      obtain ⟨A7, cap7, e7, -, hp7⟩ := FS.parts hD
      cases e7
      by_cases h1 : 1 < j
      · obtain ⟨g0, eg0, d0⟩ := hp7 0 (by omega)
        obtain ⟨g1, eg1, d1⟩ := hp7 1 (by omega)
        obtain ⟨g2, eg2, d2⟩ := hp7 2 (by omega)
        obtain ⟨g3, eg3, d3⟩ := hp7 3 (by omega)
        cases eg0; cases eg1; cases eg2; cases eg3
        have k0 := flatP_gd (ps := D) (j := 0) (by omega)
        have k1 := flatP_gd (ps := D) (j := 1) (by omega)
        have k00 : gd (flatP D) 0 = (pd D 0).1 := k0.1
        have k01 : gd (flatP D) 1 = (pd D 0).2 := k0.2
        have k10 : gd (flatP D) 2 = (pd D 1).1 := k1.1
        have k11 : gd (flatP D) 3 = (pd D 1).2 := k1.2
        rw [k00] at d0
        rw [k01] at d1
        rw [k10] at d2
        rw [k11] at d3
        have HEQ := Lib.hid (show twB U = decide ((pd D 0).1 = (pd D 1).1 ∧ (pd D 0).2 = (pd D 1).2) by
          rw [HTW.out, HUL.out]; exact decide_eq_decide.2 ⟨fun h => ⟨by rw [h.2], by rw [h.2]⟩, fun h => ⟨h1, Prod.ext h.1 h.2⟩⟩)
        generalize (pd D 0).1 = x0 at d0 HEQ
        generalize (pd D 0).2 = x1 at d1 HEQ
        generalize (pd D 1).1 = y0 at d2 HEQ
        generalize (pd D 1).2 = y1 at d3 HEQ
        have z0 : (1 : Int) < ((j : Nat) : Int) := by omega
        have z1 : (0 : Int) < ((j : Nat) : Int) := by omega
        clear hp7 hD hperm hpw hg7 k0 k1 k00 k01 k10 k11 HTW hDl h1
        by_cases e0 : x0 = y0
        · subst e0
          by_cases e1 : x1 = y1
          · subst e1
            go_wp2
            go_quiet (fail)
            go_wp2
            go_ret2
            exact givesOn_yes HON.out.1 (by rw [← HON.out.2, HEQ.out]; simp) (belN HB7.out _)
          · have f1 : (x1 == y1) = false := by simpa using e1
            have f2 : decide (x1 = y1) = false := decide_eq_false e1
            go_wp2
            go_quiet (fail)
            go_wp2
            go_ret2
            exact givesOn_yes HON.out.1 (by rw [← HON.out.2, HEQ.out]; simp [e1]) (belN HB7.out _)
        · have f1 : (x0 == y0) = false := by simpa using e0
          have f2 : decide (x0 = y0) = false := decide_eq_false e0
          go_wp2
          go_quiet (fail)
          go_wp2
          go_ret2
          exact givesOn_yes HON.out.1 (by rw [← HON.out.2, HEQ.out]; simp [e0]) (belN HB7.out _)
      · have z0 : decide ((1 : Int) < ((j : Nat) : Int)) = false := decide_eq_false (by omega)
        have HEQ := Lib.hid (show twB U = false by rw [HTW.out, HUL.out]; simp [h1])
        clear hp7 hD hperm hpw hg7 HTW hDl h1
        go_wp2
        go_quiet (fail)
        go_wp2
        go_ret2
        exact givesOn_yes HON.out.1 (by rw [← HON.out.2, HEQ.out]) (belN HB7.out _)
end Go.Proofs.Ythegkifhbgopoaa

/-
  The text of a curve, of the program and of the model: what each call returns.
  Conditions: the slice reads as the list that is named; the library's table of powers reads as its text lays it.
-/
import Derived.Test.YtbapepflfgcioaaGreatDoorCuX
import Derived.Test.YtbapepflfgcioaaGreatDoorFracE
import Derived.Test.YtbapepflfgcioaaGreatDoorBuild
import Derived.Test.YtbapepflfgcioaaGreatDoorTx
namespace Go.Proofs.YtbapepflfgcioaaGreatDoor
set_option linter.unusedSimpArgs false
set_option linter.unusedVariables false
open Go.ChangeShapes Go.WideShapes Go.ChangeAt Go.RowKit
open Go.Sort (grow)

/-- A vertex's text. -/
def spx (a b c d : Int) : List UInt8 := frL a b ++ [44] ++ frL c d ++ [59]
def vtx (l : List Tm) (x : List Int) : List UInt8 := spx (vxN l x) (vxD l x) (vyN l x) (vyD l x)
def vtT (l : List Tm) (k : Nat) : List UInt8 := ((ceL l).take k).flatMap (vtx l)
theorem frL_le {n d : Int} (h : frB n d = true) : (frL n d).length ≤ 22 := by
  obtain ⟨hn, hd, -⟩ := frB_bd h
  unfold frL
  split
  · have := itoa_short n hn; omega
  · have h1 := frP_short n hn
    have h2 := dec_short d.toNat (by omega)
    rw [List.length_append]; omega
theorem spx_len {a b c d : Int} (h : frB a b = true) (h' : frB c d = true) : (spx a b c d).length ≤ 46 := by
  have h1 := frL_le h
  have h2 := frL_le h'
  unfold spx
  simp only [List.length_append, List.length_cons, List.length_nil]
  omega
theorem mk_fr {n d : Int} (h : mkB n d = true) : frB (mkN n d) (mkD n d) = true := by
  unfold mkN mkD
  rw [if_pos h, if_pos h]
  unfold mkB at h
  simp only [Bool.and_eq_true] at h
  exact h.2
theorem vx_fr {l : List Tm} (hl : plB l = true) {x : List Int} (hx : x ∈ ceL l) : frB (vxN l x) (vxD l x) = true ∧ frB (vyN l x) (vyD l x) = true := by
  obtain ⟨v1, v2, v3⟩ := nvO_bd hl hx
  have hv0 := nvO_ne hx
  exact ⟨mk_fr (lo_bd v1 hv0 v3), mk_fr (lo_bd v2 hv0 v3)⟩
theorem vtT_next {l : List Tm} {k : Nat} (hk : k < (ceL l).length) : vtT l (k + 1) = vtT l k ++ vtx l ((ceL l).getD k []) := by
  unfold vtT
  rw [List.take_succ_eq_append_getElem hk, List.flatMap_append, List.getD_eq_getElem?_getD, List.getElem?_eq_getElem hk]
  simp only [List.flatMap_cons, List.flatMap_nil, List.append_nil, Option.getD_some]
theorem ceL_getm {l : List Tm} {k : Nat} (hk : k < (ceL l).length) : (ceL l).getD k [] ∈ ceL l := by
  rw [List.getD_eq_getElem?_getD, List.getElem?_eq_getElem hk]
  exact List.getElem_mem hk
theorem vtT_len {l : List Tm} (hl : plB l = true) : ∀ k, k ≤ (ceL l).length → (vtT l k).length ≤ 46 * k
  | 0, _ => by simp [vtT]
  | k + 1, hk => by
    have ih := vtT_len hl k (by omega)
    have hm := vx_fr hl (ceL_getm (show k < (ceL l).length by omega))
    have := spx_len hm.1 hm.2
    rw [vtT_next (by omega), List.length_append]
    unfold vtx; omega
def vtR (l : List Tm) : List UInt8 := if plB l = true then vtT l (ceL l).length else []
theorem vtR_yes {l : List Tm} (h : plB l = true) : vtR l = vtT l (ceL l).length := if_pos h
theorem vtR_no {l : List Tm} (h : plB l = false) : vtR l = [] := if_neg (by simp [h])
def GivesVT (l : List Tm) (w : World) (e : Ending) (w' : World) : Prop := e = .returned (.tuple #[.string ⟨(vtR l).toArray⟩, .bool (plB l)]) ∧ Below w.heap.size w w'
theorem givesVT_no {l : List Tm} {w w' : World} (h : plB l = false) (hb : Below w.heap.size w w') : GivesVT l w (.returned (.tuple #[.string ⟨#[]⟩, .bool false])) w' := by
  refine ⟨?_, hb⟩
  rw [h, vtR_no h]
theorem givesVT_yes {l : List Tm} {t : List UInt8} {w w' : World} (h : plB l = true) (hl : t = vtR l) (hb : Below w.heap.size w w') : GivesVT l w (.returned (.tuple #[.string ⟨t.toArray⟩, .bool true])) w' := by
  refine ⟨?_, hb⟩
  rw [h, hl]
/-- A spot's four cells. -/
abbrev C4 (w : World) (g : Nat) (a b c d : Int) (x : World) : Prop := w.cell? ⟨g, 0, none⟩ = some (.int .i64 a) ∧ w.cell? ⟨g, 1, none⟩ = some (.int .i64 b) ∧ w.cell? ⟨g, 2, none⟩ = some (.int .i64 c) ∧ w.cell? ⟨g, 3, none⟩ = some (.int .i64 d) ∧ Below x.heap.size x w
section
variable {w w' x : World} {g : Nat} {a b c d : Int}
theorem C4.new (h : Q4 w g a b c d) (hb : Below x.heap.size x w) : C4 w g a b c d x := by
  obtain ⟨⟨h0, h1, h2, h3⟩, -⟩ := h.cells
  exact ⟨h0, h1, h2, h3, hb⟩
theorem C4.below (h : C4 w g a b c d x) (hb : Below w.heap.size w w') : C4 w' g a b c d x :=
  ⟨(hb.cell (p := ⟨g, 0, none⟩) (cell_lt h.1)).trans h.1, (hb.cell (p := ⟨g, 1, none⟩) (cell_lt h.2.1)).trans h.2.1, (hb.cell (p := ⟨g, 2, none⟩) (cell_lt h.2.2.1)).trans h.2.2.1, (hb.cell (p := ⟨g, 3, none⟩) (cell_lt h.2.2.2.1)).trans h.2.2.2.1, bel2 h.2.2.2.2 hb⟩
theorem C4.bel (h : C4 w g a b c d x) : Below x.heap.size x w := h.2.2.2.2
theorem C4.drew (h : C4 w g a b c d x) : C4 w.drew g a b c d x := ⟨h.1, h.2.1, h.2.2.1, h.2.2.2.1, h.2.2.2.2.drew⟩
theorem C4.drewN (h : C4 w g a b c d x) (n : Nat) : C4 (w.drewN n) g a b c d x := ⟨h.1, h.2.1, h.2.2.1, h.2.2.2.1, belN h.2.2.2.2 n⟩
end
set_option maxHeartbeats 8000000 in
set_option maxRecDepth 100000 in
theorem specCurveText_any (w : World) (B : Nat) (v : Value) (l : List Tm) (h : TmS w B v l) : Calls Tryz.prog 5 #[v] w fun e w' => GivesVT l w e w' := by
  cases hl : plB l
  · have HL := Lib.hid hl
    clear hl
    go_enter Tryz.func5, Tryz.ntmps5
    go_wp2_with fail
    refine (plGood_any _ B _ l h).mono ?_
    rintro e w1 ⟨rfl, b1⟩
    rw [HL.out]
    go_wp2
    go_ret2
    exact givesVT_no HL.out b1
  · have HL := Lib.hid hl
    have hle := ceL_len (plB_le hl).2
    clear hl
    go_enter Tryz.func5, Tryz.ntmps5
    go_wp2_with fail
    refine (plGood_any _ B _ l h).mono ?_
    rintro e w1 ⟨rfl, b1⟩
    rw [HL.out]
    go_wp2_with fail
    refine (ceOf_any w1 B _ l (FS.below h b1) HL.out).mono ?_
    rintro e w2 ⟨r, C, rfl, hC, eC, b2⟩
    have H2 := Lib.hid (FS.below (FS.below h b1) b2)
    have HB2 := Lib.hid (bel2 b1 b2)
    obtain ⟨A, cap, rfl, -, hp⟩ := hC.parts
    have HP := Lib.hid hp
    have HV := Lib.hid hC.2
    have HEC := Lib.hid eC
    obtain ⟨n, hn⟩ : ∃ n, n = C.length := ⟨_, rfl⟩
    have hnc : n = (ceL l).length := by rw [hn, ← eC, lls_len]
    have HN := Lib.hid hn
    have HNC := Lib.hid hnc
    rw [← hnc] at hle
    have HLE := Lib.hid hle
    rw [← hn]
    obtain ⟨At, capt, rfl, -, -⟩ := TmS.parts h
    clear h b1 b2 hC eC hp hn hnc
    go_wp2
    go_loopw [4, 14] (fun s i wr => ∃ j : Nat, j ≤ n ∧ i = .int .i64 j ∧ s = .string ⟨(vtT l j).toArray⟩ ∧ Below w2.heap.size w2 wr) (fun _ i _ => n - (intOf i).toNat)
    case atStart => exact ⟨0, by omega, rfl, rfl, Below.refl _ _⟩
    case round =>
      obtain ⟨j, hj, rfl, rfl, hb⟩ := hrel
      by_cases hlt : j < n
      · have hjc : j < C.length := by rw [← HN.out]; exact hlt
        have hjl : j < (ceL l).length := by rw [← HNC.out]; exact hlt
        obtain ⟨g, rfl, hc0⟩ := HP.out j hjc
        have hc := X3.below.box_old3 hc0 hb
        have his := (HV.out.at hjc).below hb
        have hcl := cell_in HEC.out hjc
        have hcg := pll_get HEC.out hjc
        have hnx := vtT_next hjl
        have hln := vtT_len HL.out j (by omega)
        have hfr := vx_fr HL.out hcl
        rw [← hcg] at hnx
        obtain ⟨cv, hcv⟩ : ∃ cv, cv = pvl C j := ⟨_, rfl⟩
        obtain ⟨zs, hzs⟩ : ∃ zs, zs = pll C j := ⟨_, rfl⟩
        rw [← hcv] at hc his
        rw [← hzs] at his hcl hnx hfr
        have HCV := cuVertex_any wr B _ _ _ l zs (FS.below H2.out hb) his HL.out hcl
        unfold vtx at hnx
        obtain ⟨a, ha⟩ : ∃ a, a = vxN l zs := ⟨_, rfl⟩
        obtain ⟨b, hb'⟩ : ∃ a, a = vxD l zs := ⟨_, rfl⟩
        obtain ⟨c, hc'⟩ : ∃ a, a = vyN l zs := ⟨_, rfl⟩
        obtain ⟨d, hd⟩ : ∃ a, a = vyD l zs := ⟨_, rfl⟩
        rw [show vxV l zs = spV a b c d by unfold vxV; rw [ha, hb', hc', hd]] at HCV
        rw [← ha, ← hb', ← hc', ← hd] at hnx hfr
        replace HCV := Lib.hid HCV
        have HFR := Lib.hid hfr
        have hxl := spx_len hfr.1 hfr.2
        unfold spx at hnx hxl
        simp only [List.length_append, List.length_cons, List.length_nil] at hxl
        have hlq := HLE.out
        obtain ⟨G1, hG1⟩ : ∃ G : ByteArray, G = ⟨(frL a b ++ [44]).toArray⟩ := ⟨_, rfl⟩
        obtain ⟨G2, hG2⟩ : ∃ G : ByteArray, G = ⟨(frL a b ++ [44] ++ frL c d).toArray⟩ := ⟨_, rfl⟩
        obtain ⟨G5, hG5⟩ : ∃ G : ByteArray, G = ⟨(frL a b ++ [44] ++ frL c d ++ [59]).toArray⟩ := ⟨_, rfl⟩
        obtain ⟨G6, hG6⟩ : ∃ G : ByteArray, G = ⟨(vtT l (j + 1)).toArray⟩ := ⟨_, rfl⟩
        obtain ⟨G0, hG0⟩ : ∃ G : ByteArray, G = ⟨(vtT l j).toArray⟩ := ⟨_, rfl⟩
        have s1 : ∀ w, (Op.stringOp .add ⟨(frL a b).toArray⟩ ⟨#[44]⟩).run Tryz.prog w = .ok (.string G1) w := fun w => add_tm (frL a b) [44] (by simp; omega) w _ _ _ rfl rfl hG1
        have s2 : ∀ w, (Op.stringOp .add G1 ⟨(frL c d).toArray⟩).run Tryz.prog w = .ok (.string G2) w := fun w => add_tm (frL a b ++ [44]) (frL c d) (by simp; omega) w _ _ _ hG1 rfl hG2
        have s5 : ∀ w, (Op.stringOp .add G2 ⟨#[59]⟩).run Tryz.prog w = .ok (.string G5) w := fun w => add_tm (frL a b ++ [44] ++ frL c d) [59] (by simp; omega) w _ _ _ hG2 rfl hG5
        have s6 : ∀ w, (Op.stringOp .add G0 G5).run Tryz.prog w = .ok (.string G6) w := fun w => add_big (vtT l j) (frL a b ++ [44] ++ frL c d ++ [59]) (by simp; omega) w _ _ _ hG0 hG5 (by rw [hG6, hnx])
        rw [← hG0]
        have HG6 := Lib.hid hG6
        have HB := Lib.hid hb
        clear ha hb' hc' hd hc0 hcv hzs his hcl hcg hjl hnx hln hfr hxl hlq hG0 hG1 hG2 hG5 hG6 hb
        go_wp2_with fail
        refine HCV.out.mono ?_
        rintro e w5 ⟨rfl, b5⟩
        have hS := Q4.new w5 a b c d
        have hbS : Below w2.heap.size w2 (w5.alloc (.cells #[.int .i64 a, .int .i64 b, .int .i64 c, .int .i64 d] 37)) := (bel2 HB.out b5).alloc (bel2 HB.out b5).size _
        clear hc b5
        go_upto_region 8 with fail
        go_region_held3 (fun w' => w'.cell? ⟨w5.heap.size, 0, none⟩ = some (.int .i64 a) ∧ w'.cell? ⟨w5.heap.size, 1, none⟩ = some (.int .i64 b) ∧ w'.cell? ⟨w5.heap.size, 2, none⟩ = some (.int .i64 c) ∧ w'.cell? ⟨w5.heap.size, 3, none⟩ = some (.int .i64 d) ∧ Below w2.heap.size w2 w') (repeat' (first | with_reducible exact C4.new hS hbS | with_reducible assumption | with_reducible refine C4.below ?_ (by assumption) | with_reducible refine C4.drew ?_ | with_reducible refine C4.drewN ?_ _)) (first | (go_at_call 12; refine (frText_any _ _ _ (by first | exact HFR.out.1 | exact HFR.out.2)).mono ?_; rintro e w6 ⟨rfl, b6⟩) | (fail))
        go_wp2
        go_roundw
        case rel => exact ⟨j + 1, by omega, by go_num, by rw [HG6.out], C4.bel (g := w5.heap.size) (a := a) (b := b) (c := c) (d := d) (by assumption)⟩
        case measure => simp [intOf]; omega
      · obtain rfl : j = n := by omega
        go_wp2
        go_ret2
        exact givesVT_yes HL.out (by rw [vtR_yes HL.out, HNC.out]) (bel2 HB2.out hb)
set_option maxHeartbeats 4000000 in
set_option maxRecDepth 100000 in
theorem implCurveText_any (w : World) (hP : Pows w) (B : Nat) (v : Value) (l : List Tm) (h : TmS w B v l) : Calls Tryz.prog 7 #[v] w fun e w' => GivesVT l w e w' := by
  have HPW := Lib.hid hP
  clear hP
  cases hl : plB l
  · have HL := Lib.hid hl
    clear hl
    go_enter Tryz.func7, Tryz.ntmps7
    go_wp2_with fail
    refine (implVerticesOf_any _ B _ l h).mono ?_
    rintro e w1 ⟨r, rfl, -, b1⟩
    rw [HL.out]
    go_wp2
    go_ret2
    exact givesVT_no HL.out b1
  · have HL := Lib.hid hl
    have hle := ceL_len (plB_le hl).2
    clear hl
    go_enter Tryz.func7, Tryz.ntmps7
    go_wp2_with fail
    refine (implVerticesOf_any _ B _ l h).mono ?_
    rintro e w1 ⟨r, rfl, hr, b1⟩
    rw [ceR_yes HL.out] at hr
    rw [HL.out]
    obtain ⟨A, cap, rfl, hm, hp⟩ := FS.parts hr
    obtain ⟨n, hn⟩ : ∃ n, n = (ceL l).length := ⟨_, rfl⟩
    have HN := Lib.hid hn
    have HP := Lib.hid (fun (j t : Nat) (hj : j < n) (ht : t < 4) => show ∃ g, A = some ⟨g, 0, none⟩ ∧ w1.cell? ⟨g, j * 4 + t, none⟩ = some (.int .i64 (gd (encX l ((ceL l).getD j [])) t)) from by
      rw [hn] at hj
      rw [← vsF_gd hj ht]
      exact hp (j * 4 + t) (by omega))
    rw [← hn] at hm hle ⊢
    unfold maxLen at hm
    have HLE := Lib.hid hle
    have HB1 := Lib.hid b1
    have HFB := Lib.hid (Lib.fresh_isBuilder 50 5 w1)
    clear hp hn hr b1 h hle
    go_wp2
    go_loopw [22] (fun i wr => ∃ k : Nat, k ≤ n ∧ i = .int .i64 k ∧ Bd wr w1.heap.size w1.heap.size (Lib.byteCells (vtT l k)) ∧ Below w1.heap.size w1 wr) (fun i _ => n - (intOf i).toNat)
    case atStart => exact ⟨0, by omega, rfl, HFB.out, (Below.refl _ _).alloc (Nat.le_refl _) _⟩
    case round =>
      obtain ⟨k, hk, rfl, hbd, hb⟩ := hrel
      have HBD := Lib.hid hbd
      have hs1 := hb.size
      clear hbd
      by_cases hlt : k < n
      · have hkl : k < (ceL l).length := by rw [← HN.out]; exact hlt
        obtain ⟨g, rfl, a0⟩ := HP.out k 0 hlt (by omega)
        obtain ⟨g', hg', a1⟩ := HP.out k 1 hlt (by omega)
        cases hg'
        obtain ⟨g', hg', a2⟩ := HP.out k 2 hlt (by omega)
        cases hg'
        obtain ⟨g', hg', a3⟩ := HP.out k 3 hlt (by omega)
        cases hg'
        have c0 := (hb.cell (cell_lt a0)).trans a0
        have c1 := (hb.cell (cell_lt a1)).trans a1
        have c2 := (hb.cell (cell_lt a2)).trans a2
        have c3 := (hb.cell (cell_lt a3)).trans a3
        have hg := cell_lt c0
        clear a0 a1 a2 a3
        have hnx := vtT_next hkl
        have hln := vtT_len HL.out k (by omega)
        have hfr := vx_fr HL.out (ceL_getm hkl)
        obtain ⟨zs, hzs⟩ : ∃ zs, zs = (ceL l).getD k [] := ⟨_, rfl⟩
        rw [← hzs] at c0 c1 c2 c3 hnx hfr
        unfold vtx at hnx
        obtain ⟨a, ha⟩ : ∃ a, a = vxN l zs := ⟨_, rfl⟩
        obtain ⟨b, hb'⟩ : ∃ a, a = vxD l zs := ⟨_, rfl⟩
        obtain ⟨c, hc'⟩ : ∃ a, a = vyN l zs := ⟨_, rfl⟩
        obtain ⟨d, hd⟩ : ∃ a, a = vyD l zs := ⟨_, rfl⟩
        rw [show gd (encX l zs) 0 = a from ha.symm] at c0
        rw [show gd (encX l zs) 1 = b from hb'.symm] at c1
        rw [show gd (encX l zs) 2 = c from hc'.symm] at c2
        rw [show gd (encX l zs) 3 = d from hd.symm] at c3
        rw [← ha, ← hb', ← hc', ← hd] at hnx hfr
        rw [Nat.add_zero] at c0
        have HFR := Lib.hid hfr
        have HFT := Lib.hid (And.intro (show ftL a b = frL a b from if_pos hfr.1) (show ftL c d = frL c d from if_pos hfr.2))
        have hxl := spx_len hfr.1 hfr.2
        unfold spx at hnx hxl
        have hxl2 := hxl
        simp only [List.length_append, List.length_cons, List.length_nil] at hxl
        have hlq := HLE.out
        obtain ⟨G1, hG1⟩ : ∃ G : ByteArray, G = ⟨(frL a b ++ [44]).toArray⟩ := ⟨_, rfl⟩
        obtain ⟨G2, hG2⟩ : ∃ G : ByteArray, G = ⟨(frL a b ++ [44] ++ frL c d).toArray⟩ := ⟨_, rfl⟩
        obtain ⟨G5, hG5⟩ : ∃ G : ByteArray, G = ⟨(frL a b ++ [44] ++ frL c d ++ [59]).toArray⟩ := ⟨_, rfl⟩
        have s1 : ∀ w, (Op.stringOp .add ⟨(frL a b).toArray⟩ ⟨#[44]⟩).run Tryz.prog w = .ok (.string G1) w := fun w => add_tm (frL a b) [44] (by simp; omega) w _ _ _ rfl rfl hG1
        have s2 : ∀ w, (Op.stringOp .add G1 ⟨(frL c d).toArray⟩).run Tryz.prog w = .ok (.string G2) w := fun w => add_tm (frL a b ++ [44]) (frL c d) (by simp; omega) w _ _ _ hG1 rfl hG2
        have s5 : ∀ w, (Op.stringOp .add G2 ⟨#[59]⟩).run Tryz.prog w = .ok (.string G5) w := fun w => add_tm (frL a b ++ [44] ++ frL c d) [59] (by simp; omega) w _ _ _ hG2 rfl hG5
        have HCELLS := Lib.hid (show Lib.byteCells (vtT l k) ++ Lib.strCells G5 = Lib.byteCells (vtT l (k + 1)) by rw [hnx, hG5, Lib.byteCells_append]; rfl)
        have HSZ := Lib.hid (show (Lib.byteCells (vtT l k)).length + G5.size ≤ 100000000 by
          have hs : G5.size = (frL a b ++ [44] ++ frL c d ++ [59]).length := by rw [hG5]; show (List.toArray _).size = _; simp
          rw [Lib.byteCells_length, hs]; omega)
        have hS := Q4.new wr a b c d
        have hbx := (Below.refl wr.heap.size wr).alloc (Nat.le_refl _) (.cells #[.int .i64 a, .int .i64 b, .int .i64 c, .int .i64 d] 37)
        have HBX := Lib.hid hbx
        have HW1 := Lib.hid (HPW.out.below (bel2 HB1.out hb))
        have HPX := Lib.hid (HW1.out.below hbx)
        have HB := Lib.hid hb
        clear ha hb' hc' hd hzs hkl hnx hln hfr hxl hxl2 hlq hG1 hG2 hG5 hbx hb
        go_wp2_with fail
        refine (implFracText_any a b _ HPX.out).mono ?_
        rintro e w2 ⟨rfl, b2⟩
        rw [HFT.out.1, HFR.out.1]
        have hS2 := hS.below b2
        obtain ⟨⟨d0, d1, d2, d3⟩, -⟩ := hS2.cells
        have hg2 := cell_lt d0
        have HP2 := Lib.hid (HW1.out.below (bel2 HBX.out b2))
        clear hS hS2
        go_wp2_with fail
        refine (implFracText_any c d _ HP2.out).mono ?_
        rintro e w3 ⟨rfl, b3⟩
        rw [HFT.out.2, HFR.out.2]
        have hb3 := bel2 (bel2 HBX.out b2) b3
        have HB3 := Lib.hid (HBD.out.below hb3)
        have HB4 := Lib.hid (bel2 HB.out hb3)
        have hs3 := HB4.out.size
        clear b2 b3 hb3
        go_wp2_with fail
        refine (writeString_any _ _ _ _ _ HB3.out HSZ.out hs3).mono ?_
        rintro e w4 ⟨rfl, hbd4, b4⟩
        rw [HCELLS.out] at hbd4
        go_wp2
        go_roundw
        case rel => exact ⟨k + 1, by omega, by go_num, .inr hbd4, HB4.out.trans b4⟩
        case measure => simp [intOf]; omega
      · obtain rfl : n = k := by omega
        go_wp2_with fail
        refine (Tryz.Builder_String_any _ _ _ _ HBD.out hs1).mono ?_
        rintro e w4 ⟨rfl, b4⟩
        go_wp2
        go_ret2
        exact givesVT_yes HL.out (by rw [vtR_yes HL.out, HN.out]) (bel2 HB1.out (hb.trans b4))
end Go.Proofs.YtbapepflfgcioaaGreatDoor

/-
  VertexOf and VerticesOf of both.
  Condition: the slice reads as the terms that are named.
-/
import Derived.Test.YthegkifhbgopoaaCuW
import Derived.Test.YthegkifhbgopoaaSSpot
namespace Go.Proofs.Ythegkifhbgopoaa
set_option linter.unusedSimpArgs false
set_option linter.unusedVariables false
open Go.ChangeShapes Go.WideShapes Go.ChangeAt Go.RowKit
open Go.Sort (grow)

/-- The vertex of the cell with a number, a part at a time. -/
def voR (l : List Tm) (i : Int) (f : List Tm → List Int → Int) : Int := if cpB l i = true then f l (cuR l i) else 0
theorem voR_yes {l : List Tm} {i : Int} (h : cpB l i = true) (f : List Tm → List Int → Int) : voR l i f = f l (cuR l i) := if_pos h
theorem voR_no {l : List Tm} {i : Int} (h : cpB l i = false) (f : List Tm → List Int → Int) : voR l i f = 0 := if_neg (by simp [h])
def GivesVo (l : List Tm) (i : Int) (w : World) (e : Ending) (w' : World) : Prop := e = .returned (.tuple #[spV (voR l i vxN) (voR l i vxD) (voR l i vyN) (voR l i vyD), .bool (cpB l i)]) ∧ Below w.heap.size w w'
theorem givesVo_no {l : List Tm} {i : Int} {w w' : World} (h : cpB l i = false) (hb : Below w.heap.size w w') : GivesVo l i w (.returned (.tuple #[spV 0 0 0 0, .bool false])) w' := by
  unfold GivesVo; rw [voR_no h, voR_no h, voR_no h, voR_no h, h]; exact ⟨rfl, hb⟩
theorem givesVo_yes {l : List Tm} {i : Int} {w w' : World} (h : cpB l i = true) (hb : Below w.heap.size w w') : GivesVo l i w (.returned (.tuple #[vxV l (cuR l i), .bool true])) w' := by
  unfold GivesVo; rw [voR_yes h, voR_yes h, voR_yes h, voR_yes h, h]; exact ⟨rfl, hb⟩
def encX (l : List Tm) (x : List Int) : List Int := [vxN l x, vxD l x, vyN l x, vyD l x]
theorem encX_len (l : List Tm) (x : List Int) : (encX l x).length = 4 := rfl
def vsF (l : List Tm) (cs : List (List Int)) : List Int := cs.flatMap (encX l)
theorem vsF_len (l : List Tm) (cs : List (List Int)) : (vsF l cs).length = cs.length * 4 := flat_len (encX_len l) cs
theorem vsF_gd {l : List Tm} {cs : List (List Int)} {j t : Nat} (hj : j < cs.length) (ht : t < 4) : gd (vsF l cs) (j * 4 + t) = gd (encX l (cs.getD j [])) t := by
  rw [List.getD_eq_getElem?_getD, List.getElem?_eq_getElem hj]
  exact flat_gd (encX_len l) cs j t hj ht
theorem vsF_next {l : List Tm} {cs : List (List Int)} {j : Nat} (hj : j < cs.length) : vsF l (cs.take (j + 1)) = vsF l (cs.take j) ++ encX l (cs.getD j []) := by
  unfold vsF
  rw [List.take_succ_eq_append_getElem hj, List.flatMap_append, List.getD_eq_getElem?_getD, List.getElem?_eq_getElem hj]
  simp only [List.flatMap_cons, List.flatMap_nil, List.append_nil, Option.getD_some]
theorem vsR_le (l : List Tm) : (ceR l).length ≤ 1048576 := by
  cases h : plB l
  · rw [ceR_no h]; simp
  · rw [ceR_yes h]; have := ceL_len (plB_le h).2; omega
theorem infoSpot : (Try.prog.info? 34).map (fun i => (i.zero, i.size, i.bytes)) = some (some (.agg #[.int .i64 0, .int .i64 0, .int .i64 0, .int .i64 0]), 4, 32) := by kernel_rfl
def GivesSp (l : List Tm) (w : World) (e : Ending) (w' : World) : Prop := ∃ r, e = .returned (.tuple #[r, .bool (plB l)]) ∧ FS 34 4 w' w.heap.size r (ceR l).length (vsF l (ceR l)) ∧ Below w.heap.size w w'
theorem givesSp_no {l : List Tm} {w w' : World} (h : plB l = false) (hb : Below w.heap.size w w') : GivesSp l w (.returned (.tuple #[.slice none 0 0, .bool false])) w' := by
  unfold GivesSp; rw [ceR_no h, h]; exact ⟨_, rfl, World.ownsRow_nil _ _ _ 4, hb⟩
theorem givesSp_yes {l : List Tm} {w w' : World} {r : Value} (h : plB l = true) (hr : FS 34 4 w' w.heap.size r (ceL l).length (vsF l (ceL l))) (hb : Below w.heap.size w w') : GivesSp l w (.returned (.tuple #[r, .bool true])) w' := by
  unfold GivesSp; rw [ceR_yes h, h]; exact ⟨_, rfl, hr, hb⟩
theorem part4 (zs : List Int) (j : Nat) (hj : j * 4 + 3 < zs.length) : ((((part zs (j * 4)).set (j * 4) (gd zs (j * 4))).set (j * 4 + 1) (gd zs (j * 4 + 1))).set (j * 4 + 2) (gd zs (j * 4 + 2))).set (j * 4 + 3) (gd zs (j * 4 + 3)) = part zs ((j + 1) * 4) := by
  rw [part_set zs (j * 4) (by omega), part_set zs (j * 4 + 1) (by omega), part_set zs (j * 4 + 2) (by omega), part_set zs (j * 4 + 3) hj]
  congr 1
  omega
theorem litSp (w : World) (a b c d : Int) : ∀ j u, (ints [a, b, c, d])[j]? = some u → (w.alloc (.cells #[.int .i64 a, .int .i64 b, .int .i64 c, .int .i64 d] 34)).cell? ((⟨w.heap.size, 0, none⟩ : Addr).add j) = some u := fun j u hu => by
  rw [add_zero]
  obtain ⟨⟨h0, h1, h2, h3⟩, -⟩ := (Q4.new w a b c d).cells
  match j, hu with
  | 0, hu => rw [h0]; exact hu
  | 1, hu => rw [h1]; exact hu
  | 2, hu => rw [h2]; exact hu
  | 3, hu => rw [h3]; exact hu
  | j + 4, hu => simp [ints] at hu
set_option maxHeartbeats 4000000 in
set_option maxRecDepth 100000 in
theorem implVerticesOf_any (w : World) (B : Nat) (v : Value) (l : List Tm) (h : TmS w B v l) : Calls Try.prog 55 #[v] w fun e w' => GivesSp l w e w' := by
  cases hl : plB l
  · have HL := Lib.hid hl
    clear hl
    go_enter Try.func55, Try.ntmps55
    go_wp2_with fail
    refine (implCellsOf_any _ B _ l h).mono ?_
    rintro e w1 ⟨r, P, rfl, hLS, hP, b1⟩
    rw [HL.out]
    clear hLS hP
    go_wp2
    go_ret2
    exact givesSp_no HL.out b1
  · have HL := Lib.hid hl
    have hle := ceL_len (plB_le hl).2
    clear hl
    go_enter Try.func55, Try.ntmps55
    go_wp2_with fail
    refine (implCellsOf_any _ B _ l h).mono ?_
    rintro e w2 ⟨r, C, rfl, hC, eC, b2⟩
    rw [ceR_yes HL.out] at eC
    rw [HL.out]
    have H2 := Lib.hid (FS.below h b2)
    have HB2 := Lib.hid b2
    obtain ⟨A, cap, rfl, -, hp⟩ := hC.parts
    have HP := Lib.hid hp
    have HV := Lib.hid hC.2
    have HEC := Lib.hid eC
    obtain ⟨n, hn⟩ : ∃ n, n = C.length := ⟨_, rfl⟩
    have hnc : n = (ceL l).length := by rw [hn, ← eC, lls_len]
    have HN := Lib.hid hn
    have HNC := Lib.hid hnc
    rw [← hnc] at hle
    rw [← hn]
    obtain ⟨At, capt, rfl, -, -⟩ := TmS.parts h
    obtain ⟨zs, hzs⟩ : ∃ zs, zs = vsF l (ceL l) := ⟨_, rfl⟩
    have HZL := Lib.hid (show zs.length = n * 4 by rw [hzs, vsF_len, hnc])
    have HZG := Lib.hid (fun (j t : Nat) (hj : j < n) (ht : t < 4) => show gd zs (j * 4 + t) = gd (encX l ((ceL l).getD j [])) t by rw [hzs]; exact vsF_gd (by rw [← hnc]; exact hj) ht)
    have HZS := Lib.hid hzs
    obtain ⟨i0, hi, hz0, hz1, hz2⟩ := info_parts infoSpot
    clear h b2 hC eC hp hn hnc hzs
    go_wp2_with (refine wpList_make_full _ rfl _ _ 81 rfl w2.heap.size 34 i0 (.agg #[.int .i64 0, .int .i64 0, .int .i64 0, .int .i64 0]) 4 Try.underlying81 hi hz0 hz1 .i64 .i64 _ _ n rfl rfl rfl rfl (by rw [hz2]; omega) (by simp only [maxLen]; omega) (Nat.le_refl _) ?_; intro w5 hown hgrow)
    have hrow0 : w5.ownsRow w2.heap.size 34 4 (.slice (some ⟨w2.heap.size, 0, none⟩) n n) n (ints (part zs 0)) := by
      rw [show (madeCells (.agg #[.int .i64 0, .int .i64 0, .int .i64 0, .int .i64 0] : Value).cells (n * 4)).toList = ints (part zs 0) from by
        rw [show part zs 0 = List.replicate (n * 4) 0 by simp [part, HZL.out]]
        exact made_ints 4 _ (by omega)] at hown
      exact hown
    have hb0 : Below w2.heap.size w2 w5 := (Below.refl _ _).grown hgrow (Nat.le_refl _) (fun _ h => by cases h)
    clear hown hgrow
    go_wp2
    go_loopw [21] (fun i wr => ∃ j : Nat, j ≤ n ∧ i = .int .i64 j ∧ wr.ownsRow w2.heap.size 34 4 (.slice (some ⟨w2.heap.size, 0, none⟩) n n) n (ints (part zs (j * 4))) ∧ Below w2.heap.size w2 wr) (fun i _ => n - (intOf i).toNat)
    case atStart => exact ⟨0, by omega, rfl, by rw [Nat.zero_mul]; exact hrow0, hb0⟩
    case round =>
      obtain ⟨j, hj, rfl, hrow, hb⟩ := hrel
      clear hrow0 hb0
      by_cases hlt : j < n
      · have hjc : j < C.length := by rw [← HN.out]; exact hlt
        obtain ⟨g, rfl, hc0⟩ := HP.out j hjc
        have hc := X3.below.box_old3 hc0 hb
        have his := (HV.out.at hjc).below hb
        have hcl := cell_in HEC.out hjc
        have hcg := pll_get HEC.out hjc
        have hG := fun (t : Nat) (ht : t < 4) => HZG.out j t hlt ht
        rw [← hcg] at hG
        obtain ⟨cv, hcv⟩ : ∃ cv, cv = pvl C j := ⟨_, rfl⟩
        obtain ⟨x, hx⟩ : ∃ x, x = pll C j := ⟨_, rfl⟩
        rw [← hcv] at hc his
        rw [← hx] at his hcl hG
        have HG := Lib.hid hG
        have HCV := Lib.hid (vertexOf_any wr B _ _ _ l x (FS.below H2.out hb) his HL.out hcl)
        have HROW := Lib.hid hrow
        have HB := Lib.hid hb
        have lg : g < wr.heap.size := cell_lt hc
        clear hc0 hcv hx his hcl hcg hrow hb hG
        go_wp2_with fail
        refine HCV.out.mono ?_
        rintro e w6 ⟨rfl, b6⟩
        have hrow6 := sl_below HROW.out b6
        have hb6 := bel2 HB.out b6
        have hl5 := HZL.out
        have f0 := World.ownsRow.frozenAt hrow6 (j * 4)
        have f1 := World.ownsRow.frozenAt hrow6 (j * 4 + 1)
        have f2 := World.ownsRow.frozenAt hrow6 (j * 4 + 2)
        have f3 := World.ownsRow.frozenAt hrow6 (j * 4 + 3)
        have hcell : ∀ q, q < n * 4 → w6.cell? ⟨w2.heap.size, q, none⟩ = some (.int .i64 (gd (part zs (j * 4)) q)) := fun q hq => by
          rw [World.ownsRow.cellAt hrow6 q hq, getD_ints _ q (by rw [part_len zs _ (by omega)]; omega)]
        have e0 := hcell (j * 4) (by omega)
        have e1 := hcell (j * 4 + 1) (by omega)
        have e2 := hcell (j * 4 + 2) (by omega)
        have e3 := hcell (j * 4 + 3) (by omega)
        have s0 := World.ownsRow.stored hrow6 (j * 4) (.int .i64 (gd zs (j * 4)))
        have s1 := World.ownsRow.stored s0.1 (j * 4 + 1) (.int .i64 (gd zs (j * 4 + 1)))
        have s2 := World.ownsRow.stored s1.1 (j * 4 + 2) (.int .i64 (gd zs (j * 4 + 2)))
        have s3 := World.ownsRow.stored s2.1 (j * 4 + 3) (.int .i64 (gd zs (j * 4 + 3)))
        have hrow7 := s3.1
        rw [show ((((ints (part zs (j * 4))).set (j * 4) (.int .i64 (gd zs (j * 4)))).set (j * 4 + 1) (.int .i64 (gd zs (j * 4 + 1)))).set (j * 4 + 2) (.int .i64 (gd zs (j * 4 + 2)))).set (j * 4 + 3) (.int .i64 (gd zs (j * 4 + 3))) = ints (part zs ((j + 1) * 4)) from by rw [← part4 zs j (by omega)]; unfold ints; simp only [List.map_set]] at hrow7
        have hb7 := belS (belS (belS (belS hb6 (Nat.le_refl _) (j * 4) (.int .i64 (gd zs (j * 4)))) (Nat.le_refl _) (j * 4 + 1) (.int .i64 (gd zs (j * 4 + 1)))) (Nat.le_refl _) (j * 4 + 2) (.int .i64 (gd zs (j * 4 + 2)))) (Nat.le_refl _) (j * 4 + 3) (.int .i64 (gd zs (j * 4 + 3)))
        have g0 : gd zs (j * 4) = vxN l x := HG.out 0 (by omega)
        have g1 : gd zs (j * 4 + 1) = vxD l x := HG.out 1 (by omega)
        have g2 : gd zs (j * 4 + 2) = vyN l x := HG.out 2 (by omega)
        have g3 : gd zs (j * 4 + 3) = vyD l x := HG.out 3 (by omega)
        rw [g0, g1, g2, g3] at hrow7 hb7
        have HH := Lib.hid (And.intro hrow7 hb7)
        clear s0 s1 s2 s3 hrow7 hb7 hrow6 hcell hl5 hb6 b6 HROW HCV g0 g1 g2 g3 HG hc lg
        go_wp2
        go_roundw
        case rel => exact ⟨j + 1, by omega, by go_num, HH.out.1, HH.out.2⟩
        case measure => simp [intOf]; omega
      · obtain rfl : j = n := by omega
        have hl5 := HZL.out
        rw [part_end zs _ (by omega), HZS.out] at hrow
        clear hl5
        go_wp2
        go_ret2
        refine givesSp_yes HL.out (FS.base (show FS 34 4 wr w2.heap.size _ (ceL l).length (vsF l (ceL l)) from ?_) HB2.out.size) (bel2 HB2.out hb)
        unfold FS
        rw [← HNC.out]
        exact hrow
end Go.Proofs.Ythegkifhbgopoaa

/-
  How often an end's direction is gone between two vertices: of the program.
  Conditions: the fractions are valid.
-/
import Derived.Test.YtbapepflfgcioaaGreatCuI
import Derived.Test.YtbapepflfgcioaaGreatCuW
namespace Go.Proofs.YtbapepflfgcioaaGreat
set_option linter.unusedSimpArgs false
set_option linter.unusedVariables false
open Go.ChangeShapes Go.WideShapes Go.ChangeAt Go.RowKit
open Go.Sort (grow)

theorem mk_fr {n d : Int} (h : mkB n d = true) : frB (mkN n d) (mkD n d) = true := by
  unfold mkN mkD
  rw [if_pos h, if_pos h]
  unfold mkB at h
  simp only [Bool.and_eq_true] at h
  exact h.2
theorem frB_whole {n : Int} (h : -1000000000 ≤ n ∧ n ≤ 1000000000) : frB n 1 = true := by
  unfold frB gI
  simp only [Bool.and_eq_true, inB_iff, beq_iff_eq]
  exact ⟨⟨by omega, by omega⟩, h, by simp⟩
/-- The way between two numbers, and how often a step leads along it. -/
def tyN (a b c d : Int) : Int := mkN (c * b - a * d) (d * b)
def tyD (a b c d : Int) : Int := mkD (c * b - a * d) (d * b)
def tyB (a b c d : Int) : Bool := mkB (c * b - a * d) (d * b)
def tqN (a b c d s : Int) : Int := if tyB a b c d = true then mkN (tyN a b c d) (tyD a b c d * s) else 0
def tqD (a b c d s : Int) : Int := if tyB a b c d = true then mkD (tyN a b c d) (tyD a b c d * s) else 0
def tqB (a b c d s : Int) : Bool := tyB a b c d && mkB (tyN a b c d) (tyD a b c d * s)
def GivesTq (a b c d s : Int) (w : World) (e : Ending) (w' : World) : Prop := GivesF (tqN a b c d s) (tqD a b c d s) (tqB a b c d s) w e w'
theorem givesTq_no {a b c d s : Int} {w w' : World} (h : tyB a b c d = false) (hb : Below w.heap.size w w') : GivesTq a b c d s w (.returned (.tuple #[fracV 0 0, .bool false])) w' := by
  unfold GivesTq tqN tqD tqB
  rw [h]
  exact ⟨rfl, hb⟩
theorem givesTq_yes {a b c d s q r : Int} {t : Bool} {w w' : World} (h : tyB a b c d = true) (hq : q = mkN (tyN a b c d) (tyD a b c d * s)) (hr : r = mkD (tyN a b c d) (tyD a b c d * s)) (ht : t = mkB (tyN a b c d) (tyD a b c d * s)) (hb : Below w.heap.size w w') : GivesTq a b c d s w (.returned (.tuple #[fracV q r, .bool t])) w' := by
  unfold GivesTq tqN tqD tqB
  rw [h, if_pos rfl, if_pos rfl, ← hq, ← hr, ← ht]
  exact ⟨rfl, hb⟩
theorem sub_yes {a b c d : Int} (h1 : frB a b = true) (h2 : frB c d = true) (w : World) : Calls Tryz.prog 124 #[fracV c d, fracV a b] w fun x w' => GivesF (tyN a b c d) (tyD a b c d) (tyB a b c d) w x w' :=
  (implSubtractFracs_any c d a b w).mono fun e w' h => by
    unfold GivesOp at h
    rw [show twoB c d a b = true by unfold twoB; rw [h1, h2]; rfl] at h
    simpa [okF, tyN, tyD, tyB] using h
theorem div_yes {a b c d : Int} (h1 : frB a b = true) (h2 : frB c d = true) (w : World) : Calls Tryz.prog 125 #[fracV a b, fracV c d] w fun x w' => GivesF (mkN (a * d) (b * c)) (mkD (a * d) (b * c)) (mkB (a * d) (b * c)) w x w' :=
  (implDivideFracs_any a b c d w).mono fun e w' h => by
    unfold GivesOp at h
    rw [show twoB a b c d = true by unfold twoB; rw [h1, h2]; rfl] at h
    simpa [okF] using h
theorem wholeFrac_any (n : Int) (w : World) : Calls Tryz.prog 126 #[.int .i64 n] w fun e w' => e = .returned (fracV n 1) ∧ Below w.heap.size w w' := by
  go_enter Tryz.func126, Tryz.ntmps126
  go_wp2
  go_returns
  exact ⟨rfl, by go_grown⟩
theorem frInt_any (n : Int) (w : World) : Calls Tryz.prog 58 #[.int .i64 n] w fun e w' => e = .returned (fracV n 1) ∧ Below w.heap.size w w' := by
  go_enter Tryz.func58, Tryz.ntmps58
  go_wp2
  go_returns
  exact ⟨rfl, by go_grown⟩
set_option maxHeartbeats 4000000 in
theorem timesBetween_any (a b c d s : Int) (w : World) (h1 : frB a b = true) (h2 : frB c d = true) (hs : -1000 ≤ s ∧ s ≤ 1000) : Calls Tryz.prog 93 #[fracV a b, fracV c d, .int .i64 s] w fun x w' => GivesTq a b c d s w x w' := by
  have HS := Lib.hid (fun W => sub_yes h1 h2 W)
  cases ht : tyB a b c d
  · have HT := Lib.hid ht
    clear ht h1 h2
    go_enter Tryz.func93, Tryz.ntmps93
    go_wp2_with fail
    refine (HS.out _).mono ?_
    rintro x w1 ⟨rfl, b1⟩
    rw [HT.out]
    have C1 := F3.below (box3 w a b c d) b1
    obtain ⟨-, -, c0, c1, f0, f1⟩ := id C1
    have hg := cell_lt c0
    go_wp2_with fail
    have hB : Below w.heap.size w w1 := bel2 (by go_grown) b1
    refine bodyPost_ret ((F2.old (F2.store ⟨c0, c1, f0, f1⟩ _ _) _).results rfl rfl rfl) rfl ?_
    exact givesTq_no HT.out (belA1 (belS (belS hB (by omega) _ _) (by omega) _ _) _)
  · have HT := Lib.hid ht
    have HD := Lib.hid (fun W => show Calls Tryz.prog 125 #[fracV (tyN a b c d) (tyD a b c d), fracV s 1] W (fun x w' => GivesF (mkN (tyN a b c d) (tyD a b c d * s)) (mkD (tyN a b c d) (tyD a b c d * s)) (mkB (tyN a b c d) (tyD a b c d * s)) W x w') from by
      have := div_yes (mk_fr (show mkB (c * b - a * d) (d * b) = true from ht)) (frB_whole (n := s) (by omega)) W
      rw [Int.mul_one] at this
      exact this)
    clear ht h1 h2
    go_enter Tryz.func93, Tryz.ntmps93
    go_wp2_with fail
    refine (HS.out _).mono ?_
    rintro x w1 ⟨rfl, b1⟩
    rw [HT.out]
    have C1 := F3.below (box3 w a b c d) b1
    obtain ⟨-, -, c0, c1, f0, f1⟩ := id C1
    have hg := cell_lt c0
    have H6 := Lib.hid (F2.old (show F2 w1 (w.heap.size + 1 + 1) 0 0 from ⟨c0, c1, f0, f1⟩) (.cells #[.int .i64 (tyN a b c d), .int .i64 (tyD a b c d)] 39))
    have H8 := Lib.hid (F2.new w1 (tyN a b c d) (tyD a b c d))
    have HB := Lib.hid (show Below w.heap.size w (w1.alloc (.cells #[.int .i64 (tyN a b c d), .int .i64 (tyD a b c d)] 39)) from (show Below w.heap.size w w1 from bel2 (by go_grown) b1).alloc (show Below w.heap.size w w1 from bel2 (by go_grown) b1).size _)
    go_upto_region 4 with fail
    generalize w1.alloc (.cells #[.int .i64 (tyN a b c d), .int .i64 (tyD a b c d)] 39) = w5 at H6 H8 HB ⊢
    obtain ⟨d0, d1, -, -⟩ := id H8.out
    obtain ⟨e0, e1, e2, e3⟩ := id H6.out
    clear C1 c0 c1 f0 f1 hg b1
    go_region_with (first | (go_at_call 126; refine (wholeFrac_any _ _).mono ?_; rintro e x1 ⟨rfl, b1⟩; (obtain ⟨d0a, d1a, -, -⟩ := H8.out.drew.below b1); (have H6a := Lib.hid (H6.out.drew.below b1)); (have HBa := Lib.hid (bel2 HB.out.drew b1))) | (go_at_call 125; refine (HD.out _).mono ?_; rintro e x2 ⟨rfl, b2⟩; obtain ⟨e0b, e1b, e2b, e3b⟩ := id (H6a.out.below b2); (have HBb := Lib.hid (bel2 HBa.out b2))))
    all_goals
      go_wp2_with fail
      refine bodyPost_ret ((F2.store ⟨e0b, e1b, e2b, e3b⟩ _ _).results rfl rfl rfl) rfl ?_
      exact givesTq_yes HT.out rfl rfl rfl (belS (belS HBb.out (by omega) _ _) (by omega) _ _)
/-- How often an end's direction is gone. -/
def sgN (dx dy a b c d a' b' c' d' : Int) : Int := if dx = 0 then tqN c d c' d' dy else tqN a b a' b' dx
def sgD (dx dy a b c d a' b' c' d' : Int) : Int := if dx = 0 then tqD c d c' d' dy else tqD a b a' b' dx
def sgB (dx dy a b c d a' b' c' d' : Int) : Bool := if dx = 0 then tqB c d c' d' dy else tqB a b a' b' dx
set_option maxHeartbeats 4000000 in
theorem timesGone_any (i k dx dy t a b c d a' b' c' d' : Int) (w : World) (h1 : frB a b = true) (h2 : frB c d = true) (h3 : frB a' b' = true) (h4 : frB c' d' = true) (hx : -1000 ≤ dx ∧ dx ≤ 1000) (hy : -1000 ≤ dy ∧ dy ≤ 1000) :
    Calls Tryz.prog 60 #[.agg #[.int .i64 i, .int .i64 k, .int .i64 dx, .int .i64 dy, .int .i64 t], spV a b c d, spV a' b' c' d'] w fun x w' => GivesF (sgN dx dy a b c d a' b' c' d') (sgD dx dy a b c d a' b' c' d') (sgB dx dy a b c d a' b' c' d') w x w' := by
  have hR := Lib.hid (F2.new_ (w := ((w.alloc (.cells #[.int .i64 i, .int .i64 k, .int .i64 dx, .int .i64 dy, .int .i64 t] 69)).alloc (.cells #[.int .i64 a, .int .i64 b, .int .i64 c, .int .i64 d] 76)).alloc (.cells #[.int .i64 a', .int .i64 b', .int .i64 c', .int .i64 d'] 76)) 0 0 (show _ = w.heap.size + 1 + 1 + 1 by simp))
  have HB := Lib.hid (show Below w.heap.size w ((((w.alloc (.cells #[.int .i64 i, .int .i64 k, .int .i64 dx, .int .i64 dy, .int .i64 t] 69)).alloc (.cells #[.int .i64 a, .int .i64 b, .int .i64 c, .int .i64 d] 76)).alloc (.cells #[.int .i64 a', .int .i64 b', .int .i64 c', .int .i64 d'] 76)).alloc (.cells #[.int .i64 0, .int .i64 0] 39)) by go_grown)
  have HX := Lib.hid (And.intro (fun W => timesBetween_any c d c' d' dy W h2 h4 hy) (fun W => timesBetween_any a b a' b' dx W h1 h3 hx))
  clear h1 h2 h3 h4
  by_cases h0 : dx = 0
  · subst h0
    go_enter Tryz.func60, Tryz.ntmps60
    go_wp2_with fail
    refine (HX.out.1 _).mono ?_
    rintro x w1 ⟨rfl, b1⟩
    obtain ⟨c0, c1, f0, f1⟩ := hR.out.below b1
    have hB := bel2 HB.out b1
    clear b1
    go_wp2_with fail
    refine bodyPost_ret ((F2.store ⟨c0, c1, f0, f1⟩ _ _).results rfl rfl rfl) rfl ?_
    exact ⟨rfl, belS (belS hB (by omega) _ _) (by omega) _ _⟩
  · have e1 : sgN dx dy a b c d a' b' c' d' = tqN a b a' b' dx := if_neg h0
    have e2 : sgD dx dy a b c d a' b' c' d' = tqD a b a' b' dx := if_neg h0
    have e3 : sgB dx dy a b c d a' b' c' d' = tqB a b a' b' dx := if_neg h0
    rw [e1, e2, e3]
    clear e1 e2 e3
    go_enter Tryz.func60, Tryz.ntmps60
    go_wp2_with fail
    refine (HX.out.2 _).mono ?_
    rintro x w1 ⟨rfl, b1⟩
    obtain ⟨c0, c1, f0, f1⟩ := hR.out.below b1
    have hB := bel2 HB.out b1
    clear b1
    go_wp2_with fail
    refine bodyPost_ret ((F2.store ⟨c0, c1, f0, f1⟩ _ _).results rfl rfl rfl) rfl ?_
    exact ⟨rfl, belS (belS hB (by omega) _ _) (by omega) _ _⟩
theorem clL_in {l : List Tm} {n : Nat} {e : List Int} {x : Int} (h : x ∈ clL l n e) : ∃ c : Nat, x = (c : Int) ∧ c < n ∧ e ∈ sdL l ((ceL l).getD c []) := by
  unfold clL at h
  obtain ⟨c, hc, rfl⟩ := List.mem_map.1 h
  obtain ⟨h1, h2⟩ := List.mem_filter.1 hc
  exact ⟨c, rfl, List.mem_range.1 h1, of_decide_eq_true h2⟩
theorem cl_two {l : List Tm} {n : Nat} {e : List Int} (h : (clL l n e).length = 2) : ∃ c d : Nat, clL l n e = [(c : Int), (d : Int)] ∧ (c < n ∧ e ∈ sdL l ((ceL l).getD c [])) ∧ (d < n ∧ e ∈ sdL l ((ceL l).getD d [])) := by
  obtain ⟨L, hL⟩ : ∃ L, L = clL l n e := ⟨_, rfl⟩
  have hi := fun x (hx : x ∈ L) => clL_in (hL ▸ hx)
  rw [← hL] at h ⊢
  clear hL
  match L, h with
  | [a, b], _ =>
    obtain ⟨c, rfl, h1⟩ := hi a (by simp)
    obtain ⟨d, rfl, h2⟩ := hi b (by simp)
    exact ⟨c, d, rfl, h1, h2⟩
def slC (l : List Tm) (i k : Int) : List Int := clL l (ceL l).length [i, k]
def slX (l : List Tm) (i k : Int) (n : Nat) : List Int := (ceL l).getD (gd (slC l i k) n).toNat []
def slE (l : List Tm) (i k : Int) : List Int := enT l (slX l i k 0) i.toNat k.toNat
def slB (l : List Tm) (i k : Int) : Bool := plB l && decide ((slC l i k).length = 2)
def slW {α : Type} (l : List Tm) (i k : Int) (z : α) (f : Int → Int → Int → Int → Int → Int → Int → Int → Int → Int → α) : α :=
  if slB l i k = true then f (gd (slE l i k) 0) (gd (slE l i k) 1) (vxN l (slX l i k 0)) (vxD l (slX l i k 0)) (vyN l (slX l i k 0)) (vyD l (slX l i k 0)) (vxN l (slX l i k 1)) (vxD l (slX l i k 1)) (vyN l (slX l i k 1)) (vyD l (slX l i k 1)) else z
def GivesSl (l : List Tm) (i k : Int) (w : World) (e : Ending) (w' : World) : Prop := GivesF (slW l i k 0 sgN) (slW l i k 0 sgD) (slW l i k false sgB) w e w'
theorem givesSl_no {l : List Tm} {i k : Int} {w w' : World} (h : slB l i k = false) (hb : Below w.heap.size w w') : GivesSl l i k w (.returned (.tuple #[fracV 0 0, .bool false])) w' := by
  unfold GivesSl slW
  rw [h]
  exact ⟨rfl, hb⟩
theorem slB_pl {l : List Tm} {i k : Int} (h : plB l = false) : slB l i k = false := by unfold slB; rw [h]; rfl
theorem slB_ln {l : List Tm} {i k : Int} (h : (slC l i k).length ≠ 2) : slB l i k = false := by unfold slB; rw [decide_eq_false h, Bool.and_false]
theorem vx_fr {l : List Tm} (hl : plB l = true) {x : List Int} (hx : x ∈ ceL l) : frB (vxN l x) (vxD l x) = true ∧ frB (vyN l x) (vyD l x) = true := by
  obtain ⟨v1, v2, v3⟩ := nvO_bd hl hx
  have hv0 := nvO_ne hx
  exact ⟨mk_fr (lo_bd v1 hv0 v3), mk_fr (lo_bd v2 hv0 v3)⟩
/-- What is known of an inner edge. -/
structure Sl (l : List Tm) (i k : Nat) (c d : Nat) (x y : List Int) : Prop where
  cl : slC l i k = [(c : Int), (d : Int)]
  ce : clL l (ceL l).length [(i : Int), (k : Int)] = [(c : Int), (d : Int)]
  hc : c < (ceL l).length
  hd : d < (ceL l).length
  hx : x = (ceL l).getD c []
  hy : y = (ceL l).getD d []
  mx : x ∈ ceL l
  my : y ∈ ceL l
  sx : [(i : Int), (k : Int)] ∈ sdL l x
  ik : i < k
  kl : k < l.length
  yes : ∀ (α : Type) (z : α) (f : Int → Int → Int → Int → Int → Int → Int → Int → Int → Int → α), slW l i k z f = f (gd (enT l x i k) 0) (gd (enT l x i k) 1) (vxN l x) (vxD l x) (vyN l x) (vyD l x) (vxN l y) (vxD l y) (vyN l y) (vyD l y)
theorem Sl.of {l : List Tm} {i k : Int} (hl : plB l = true) (h : (slC l i k).length = 2) : ∃ (i' k' c d : Nat) (x y : List Int), i = i' ∧ k = k' ∧ Sl l i' k' c d x y := by
  obtain ⟨c, d, e, ⟨h1, h2⟩, h3, h4⟩ := cl_two (show (clL l (ceL l).length [i, k]).length = 2 from h)
  obtain ⟨i', k', hik, hkl, e3, -, -⟩ := side_of hl (getD_in h1) h2
  simp only [List.cons.injEq, and_true] at e3
  obtain ⟨rfl, rfl⟩ := e3
  refine ⟨i', k', c, d, _, _, rfl, rfl, e, e, h1, h3, rfl, rfl, getD_in h1, getD_in h3, h2, hik, hkl, fun α z f => ?_⟩
  have hx : slX l i' k' 0 = (ceL l).getD c [] := by unfold slX slC; rw [e]; rfl
  have hy : slX l i' k' 1 = (ceL l).getD d [] := by unfold slX slC; rw [e]; rfl
  unfold slW slE
  rw [if_pos (by unfold slB; rw [hl, decide_eq_true h]; rfl), hx, hy]
  rfl
theorem en_bd {l : List Tm} (hl : plB l = true) {i k : Nat} (hi : i < l.length) (hk : k < l.length) (h : i ≠ k) (x : List Int) : (-1000 ≤ gd (enT l x i k) 0 ∧ gd (enT l x i k) 0 ≤ 1000) ∧ (-1000 ≤ gd (enT l x i k) 1 ∧ gd (enT l x i k) 1 ≤ 1000) := by
  have hb := wt_bd (in6_of (plB_at hl hi)) (in6_of (plB_at hl hk)) (ptO_ne hl hi hk h)
  unfold enT
  split
  · show (-1000 ≤ -dxP _ _ ∧ -dxP _ _ ≤ 1000) ∧ (-1000 ≤ -dyP _ _ ∧ -dyP _ _ ≤ 1000)
    omega
  · show (-1000 ≤ dxP _ _ ∧ dxP _ _ ≤ 1000) ∧ (-1000 ≤ dyP _ _ ∧ dyP _ _ ≤ 1000)
    omega
set_option maxHeartbeats 4000000 in
set_option maxRecDepth 100000 in
theorem implSegmentLength_any (w : World) (B : Nat) (v : Value) (l : List Tm) (i k : Int) (h : TmS w B v l) (wi : (Lit.int .i64 i).wf = true) (wk : (Lit.int .i64 k).wf = true) : Calls Tryz.prog 26 #[v, .int .i64 i, .int .i64 k] w fun e w' => GivesSl l i k w e w' := by
  have HW := Lib.hid (And.intro wi wk)
  have h0 := FS.below h ((Below.refl _ _).alloc (Nat.le_refl _) (.cells #[.int .i64 0, .int .i64 0] 39))
  have HR := Lib.hid (F2.new w 0 0)
  have HB0 := Lib.hid (show Below w.heap.size w (w.alloc (.cells #[.int .i64 0, .int .i64 0] 39)) from (Below.refl _ _).alloc (Nat.le_refl _) _)
  clear wi wk
  cases hl : plB l
  · have HL := Lib.hid hl
    clear hl
    go_enter Tryz.func26, Tryz.ntmps26
    go_wp2_with fail
    refine (implCellsOf_any _ B _ l h0).mono ?_
    rintro e w1 ⟨r, P, rfl, hLS, hP, b1⟩
    rw [HL.out]
    obtain ⟨c0, c1, f0, f1⟩ := HR.out.below b1
    have hB := bel2 HB0.out b1
    clear hLS hP b1 h h0
    go_wp2_with fail
    refine bodyPost_ret ((F2.store ⟨c0, c1, f0, f1⟩ _ _).results rfl rfl rfl) rfl ?_
    exact givesSl_no (slB_pl HL.out) (belS (belS hB (by omega) _ _) (by omega) _ _)
  · have HL := Lib.hid hl
    have H12 := Lib.hid (plB_le hl).2
    clear hl
    go_enter Tryz.func26, Tryz.ntmps26
    go_wp2_with fail
    refine (implCellsOf_any _ B _ l h0).mono ?_
    rintro e w1 ⟨r, C, rfl, hC, eC, b1⟩
    rw [ceR_yes HL.out] at eC
    rw [HL.out]
    have HT := Lib.hid (FS.below h0 b1)
    have HR1 := Lib.hid (HR.out.below b1)
    have HB1 := Lib.hid (bel2 HB0.out b1)
    have HC := Lib.hid hC
    have HEC := Lib.hid eC
    obtain ⟨Ac, capc, rfl, -, -⟩ := hC.parts
    obtain ⟨nc, hnc⟩ : ∃ n, n = C.length := ⟨_, rfl⟩
    have HNC := Lib.hid (show nc = (ceL l).length by rw [hnc, ← eC, lls_len])
    have HN := Lib.hid hnc
    rw [← hnc] at HC ⊢
    obtain ⟨At, capt, rfl, -, -⟩ := TmS.parts h
    clear b1 hC eC hnc h h0
    go_upto_region 5 with fail
    have hA : Below w1.heap.size w1 (w1.alloc (.cells #[.int .i64 i, .int .i64 k] 59)) := (Below.refl _ _).alloc (Nat.le_refl _) _
    have HS3 := Lib.hid (P2.new w1 (i, k) 59)
    have HT3 := Lib.hid (FS.below HT.out hA)
    have HR3 := Lib.hid (HR1.out.below hA)
    have HC3 := Lib.hid (HC.out.below hA)
    have HB3 := Lib.hid (bel2 HB1.out hA)
    clear hA HT HR1 HC HB1
    generalize w1.alloc (.cells #[.int .i64 i, .int .i64 k] 59) = w3 at HS3 HT3 HR3 HC3 HB3 ⊢
    generalize w1.heap.size = gs at HS3 ⊢
    obtain ⟨d0, d1⟩ := id HS3.out
    go_region_with (go_at_call 38; refine (cellsAtEdges_any _ B _ l (FS.drew HT3.out) HL.out).mono ?_; rintro e x1 ⟨b, nn, lo, hi0, rfl, hwb, -, hE, b2⟩; obtain ⟨vv, hlook, hvv⟩ := ed_get H12.out hE HW.out.1 HW.out.2; obtain ⟨Av, capv, rfl, -, -⟩ := hvv.parts; (obtain ⟨d0a, d1a⟩ := P2.below (show P2 w3.drew gs (i, k) from HS3.out) b2); (have HVV := Lib.hid hvv); (have HBX := Lib.hid (show Below w3.heap.size w3 x1 from (Below.refl _ _).drew.trans b2)); clear hvv hE b2 hwb)
    all_goals clear d0 d1
    all_goals have h2t := clL_two HL.out [i, k]
    all_goals by_cases h2 : (clL l (ceL l).length [i, k]).length = 2
    case' neg =>
      obtain ⟨c0, c1, f0, f1⟩ := HR3.out.below HBX.out
      have hB := bel2 HB3.out HBX.out
      clear hlook d0a d1a
      go_wp2_with fail
      refine bodyPost_ret ((F2.store ⟨c0, c1, f0, f1⟩ _ _).results rfl rfl rfl) rfl ?_
      exact givesSl_no (slB_ln h2) (belS (belS hB (by omega) _ _) (by omega) _ _)
    case' neg =>
      obtain ⟨c0, c1, f0, f1⟩ := HR3.out.below HBX.out
      have hB := bel2 HB3.out HBX.out
      clear hlook d0a d1a
      go_wp2_with fail
      refine bodyPost_ret ((F2.store ⟨c0, c1, f0, f1⟩ _ _).results rfl rfl rfl) rfl ?_
      exact givesSl_no (slB_ln h2) (belS (belS hB (by omega) _ _) (by omega) _ _)
    all_goals
      obtain ⟨i', k', c, d, x, y, rfl, rfl, S⟩ := Sl.of HL.out h2
      have HSL := Lib.hid S
      have hvv := HVV.out
      rw [h2] at hvv hlook ⊢
      rw [S.ce] at hvv
      clear hlook h2 h2t HVV S
      obtain ⟨A', cap', he, -, hp⟩ := hvv.parts
      simp only [Value.slice.injEq] at he
      obtain ⟨rfl, -, -⟩ := he
      obtain ⟨gv, rfl, v0⟩ := hp 0 (by simp)
      obtain ⟨gv', hgv, v1⟩ := hp 1 (by simp)
      cases hgv
      have hC := HC3.out.below HBX.out
      obtain ⟨A', cap', he, -, hpc⟩ := hC.parts
      simp only [Value.slice.injEq] at he
      obtain ⟨rfl, -, -⟩ := he
      have hcC : c < C.length := by rw [← HN.out, HNC.out]; exact HSL.out.hc
      have hdC : d < C.length := by rw [← HN.out, HNC.out]; exact HSL.out.hd
      obtain ⟨gc, rfl, e0⟩ := hpc c hcC
      obtain ⟨gc', hgc, e1⟩ := hpc d hdC
      cases hgc
      have is0 := hC.2.at hcC
      have is1 := hC.2.at hdC
      rw [pll_get HEC.out hcC, ← HSL.out.hx] at is0
      rw [pll_get HEC.out hdC, ← HSL.out.hy] at is1
      obtain ⟨cv, hcv⟩ : ∃ cv, cv = pvl C c := ⟨_, rfl⟩
      obtain ⟨dv, hdv⟩ : ∃ dv, dv = pvl C d := ⟨_, rfl⟩
      rw [← hcv] at e0 is0
      rw [← hdv] at e1 is1
      rw [← HN.out] at hcC hdC
      have HI0 := Lib.hid is0
      have HI1 := Lib.hid is1
      have HR5 := Lib.hid (HR3.out.below HBX.out)
      have HB5 := Lib.hid (bel2 HB3.out HBX.out)
      have HT5 := Lib.hid (FS.below HT3.out HBX.out)
      rw [show gd [(c : Int), (d : Int)] 0 = (c : Int) from rfl] at v0
      rw [show gd [(c : Int), (d : Int)] 1 = (d : Int) from rfl] at v1
      clear is0 is1 hcv hdv hp hpc hC hvv HC3 HR3 HT3 HBX HB3
      go_upto_region 8 with fail
      go_quiet (fail)
      have hd0 : (x1.drewN nq).cell? ⟨gs, 0, none⟩ = some (.int .i64 (i' : Int)) := d0a
      have hd1 : (x1.drewN nq).cell? ⟨gs, 1, none⟩ = some (.int .i64 (k' : Int)) := d1a
      have HI6 := Lib.hid (show IS (x1.drewN nq) _ cv x from HI0.out)
      have HI7 := Lib.hid (show IS (x1.drewN nq) _ dv y from HI1.out)
      have HR6 := Lib.hid (show F2 (x1.drewN nq) w.heap.size 0 0 from HR5.out)
      have HB6 := Lib.hid (belN HB5.out nq)
      have HT6 := Lib.hid (FS.drewN HT5.out nq)
      clear d0a d1a v0 v1 e0 e1 HI0 HI1 HR5 HB5 HT5 hcC hdC
      generalize x1.drewN nq = w6 at hd0 hd1 HI6 HI7 HR6 HB6 HT6 ⊢
      have HEB := Lib.hid (en_bd HL.out (Nat.lt_trans HSL.out.ik HSL.out.kl) HSL.out.kl (Nat.ne_of_lt HSL.out.ik) x)
      have HFX := Lib.hid (vx_fr HL.out HSL.out.mx)
      have HFY := Lib.hid (vx_fr HL.out HSL.out.my)
      go_wp2_with fail
      refine (endOfSide_any _ B _ _ _ l x i' k' HT6.out HI6.out HL.out HSL.out.mx (Nat.lt_trans HSL.out.ik HSL.out.kl) HSL.out.kl (Nat.ne_of_lt HSL.out.ik)).mono ?_
      rintro e w7 ⟨rfl, b7⟩
      clear hd0 hd1
      go_wp2_with fail
      refine (vertexOf_any _ B _ _ _ l x (FS.below HT6.out b7) (HI6.out.below b7) HL.out HSL.out.mx).mono ?_
      rintro e w8 ⟨rfl, b8⟩
      go_wp2_with fail
      refine (vertexOf_any _ B _ _ _ l y (FS.below (FS.below HT6.out b7) b8) ((HI7.out.below b7).below b8) HL.out HSL.out.my).mono ?_
      rintro e w9 ⟨rfl, b9⟩
      go_wp2_with fail
      refine (timesGone_any _ _ _ _ _ _ _ _ _ _ _ _ _ _ HFX.out.1 HFX.out.2 HFY.out.1 HFY.out.2 HEB.out.1 HEB.out.2).mono ?_
      rintro e w10 ⟨rfl, b10⟩
      obtain ⟨c0, c1, f0, f1⟩ := (((HR6.out.below b7).below b8).below b9).below b10
      have hB := bel2 (bel2 (bel2 (bel2 HB6.out b7) b8) b9) b10
      clear b7 b8 b9 b10
      go_wp2_with fail
      refine bodyPost_ret ((F2.store ⟨c0, c1, f0, f1⟩ _ _).results rfl rfl rfl) rfl ?_
      unfold GivesSl
      rw [HSL.out.yes, HSL.out.yes, HSL.out.yes]
      exact ⟨rfl, belS (belS hB (by omega) _ _) (by omega) _ _⟩
end Go.Proofs.YtbapepflfgcioaaGreat

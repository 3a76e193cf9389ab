import Derived.Test.YtijmnbgmpakllaaMeS
import Derived.Test.YtijmnbgmpakllaaPg
import Derived.Handy
/-
  Paths through a point and what meets, in the program: what each call returns.
  Conditions: the numbers are within bounds, where a contract says so.
-/
namespace Go.Proofs.Ytijmnbgmpakllaa
set_option linter.unusedSimpArgs false
set_option linter.unusedVariables false
open Go.ChangeShapes Go.WideShapes Go.ChangeAt Go.RowKit
open Go.Sort (grow)

/-- Whoever only drew and made blocks of its own, and wrote into these alone: it only grew. -/
theorem Gr.ofM {w w' : World} (h : Below w.heap.size w w') (hd : w.drawn ≤ w'.drawn) : Gr w w' := by
  refine ⟨w'.drawn - w.drawn, w'.heap.extract w.heap.size w'.heap.size, ?_⟩
  obtain ⟨h1, h2, h3, h4, h5⟩ := h
  cases w' with
  | mk heap tape drawn os output =>
    dsimp only at h1 h2 h3 h4 h5 hd ⊢
    have hh : heap = w.heap ++ heap.extract w.heap.size heap.size := by
      apply Array.ext_getElem?
      intro i
      by_cases hi : i < w.heap.size
      · rw [h5 i hi, Array.getElem?_append_left hi]
      · rw [Array.getElem?_append_right (by omega), Array.getElem?_extract]
        split
        · congr 1; omega
        · rw [Array.getElem?_eq_none (by omega)]
    have hk : w.drawn + (drawn - w.drawn) = drawn := by omega
    have e2 : (w.drewN (drawn - w.drawn)).drawn = drawn := by
      refine Eq.trans ?_ hk
      simp [World.drewN]
    subst h1
    subst h2
    subst h3
    show World.mk heap w.tape drawn w.os w.output = World.mk (w.heap ++ heap.extract w.heap.size heap.size) w.tape (w.drewN (drawn - w.drawn)).drawn w.os w.output
    rw [e2, ← hh]
theorem Gr.drawnM {w w' : World} (h : Gr w w') : w.drawn ≤ w'.drawn := by
  obtain ⟨q, os, rfl⟩ := h
  show w.drawn ≤ (w.drewN q).drawn
  simp [World.drewN]
theorem Gr.set2M {x w : World} (h : Gr x w) {g : Nat} (hg : x.heap.size ≤ g) (a b : Value) : Gr x ((w.setCell ⟨g, 0, none⟩ a).setCell ⟨g, 1, none⟩ b) :=
  Gr.ofM ((h.below.setCell hg _).setCell hg _) h.drawnM
/-- The signs of the model by products. -/
theorem sgM_ne (d : Int) : sgM d ≠ 0 ↔ d ≠ 0 := by unfold sgM; split <;> (try split) <;> omega
theorem sgM_mul {d m : Int} (hd : d ≠ 0) : sgM m = sgM d ↔ 0 < d * m := by
  rcases Int.lt_or_lt_of_ne hd with h | h
  · have h1 : sgM d = -1 := by unfold sgM; rw [if_pos h]
    rw [h1]
    constructor
    · intro h2
      have hm : m < 0 := by unfold sgM at h2; split at h2 <;> (try split at h2) <;> omega
      exact Int.mul_pos_of_neg_of_neg h hm
    · intro h2
      have hm : m < 0 := by
        rcases Int.lt_or_le m 0 with q | q
        · exact q
        · have := Int.mul_nonpos_of_nonpos_of_nonneg (Int.le_of_lt h) q; omega
      unfold sgM; rw [if_pos hm]
  · have h1 : sgM d = 1 := by unfold sgM; rw [if_neg (by omega), if_pos h]
    rw [h1]
    constructor
    · intro h2
      have hm : 0 < m := by unfold sgM at h2; split at h2 <;> (try split at h2) <;> omega
      exact Int.mul_pos h hm
    · intro h2
      have hm : 0 < m := by
        rcases Int.lt_or_le 0 m with q | q
        · exact q
        · have := Int.mul_nonpos_of_nonneg_of_nonpos (Int.le_of_lt h) q; omega
      unfold sgM; rw [if_neg (by omega), if_pos hm]
/-- Have two rays without their beginnings one point in common, the one through v. -/
def hvB (a b v : Pt) : Bool := decide (cr a b ≠ 0) && (decide (0 < cr a b * cr v b) && decide (0 < cr a b * cr v a))
/-- A ray's steps. -/
def soP (t : Tm) : Pt := (t.1, t.2.1)
theorem cr_so (s t : Tm) : cr (soP s) (soP t) = dtR s t := rfl
theorem cr_mv (v : Pt) (t : Tm) : cr v (soP t) = mvX v.1 v.2 t := rfl
theorem hvB_me (s t : Tm) (v : Pt) : hvB (soP s) (soP t) v = meB s t v.1 v.2 := by
  unfold hvB meB
  rw [cr_so, cr_mv, cr_mv]
  by_cases h : dtR s t = 0
  · rw [h]; rfl
  · rw [decide_eq_true h, decide_eq_true ((sgM_ne _).2 h)]
    congr 1
    congr 1 <;> exact decide_eq_decide.2 (sgM_mul h).symm
theorem crossG_any (p q : Pt) (w : World) (b1 : -20000 ≤ p.1 * q.2 ∧ p.1 * q.2 ≤ 20000) (b2 : -20000 ≤ p.2 * q.1 ∧ p.2 * q.1 ≤ 20000) : Calls Try.prog 78 #[ptV p, ptV q] w fun e w' => e = .returned (.int .i64 (cr p q)) ∧ Gr w w' := by
  obtain ⟨a, b⟩ := p
  obtain ⟨c, d⟩ := q
  have HC := Lib.hid (show cr (a, b) (c, d) = a * d - b * c from rfl)
  rw [HC.out]
  simp only at b1 b2
  have q1 : IntKind.i64.wrap (a * d) = a * d := IntWalk.i64_in _ (by omega)
  have q2 : IntKind.i64.wrap (b * c) = b * c := IntWalk.i64_in _ (by omega)
  have q3 : IntKind.i64.wrap (a * d - b * c) = a * d - b * c := IntWalk.i64_in _ (by omega)
  clear b1 b2 HC
  go_enter Try.func78, Try.ntmps78
  go_wp2
  go_ret
  exact ⟨rfl, gr2 _ _ _⟩
theorem stepsRP_any (p : Pt) (w : World) : Calls Try.prog 110 #[ptV p] w fun e w' => e = .returned (ptV p) ∧ Gr w w' := by
  obtain ⟨a, b⟩ := p
  go_enter Try.func110, Try.ntmps110
  go_wp2
  refine bodyPost_ret (P2.result (t := (a, b)) (g := w.heap.size + 1) ?_ rfl rfl) rfl ⟨rfl, gr2 _ _ _⟩
  have := P2.new (w.alloc (.cells #[.int .i64 a, .int .i64 b] 87)) (a, b) 62
  rwa [World.size_alloc] at this
theorem stepsLP_any (p : Pt) (w : World) : Calls Try.prog 109 #[ptV p] w fun e w' => e = .returned (ptV p) ∧ Gr w w' := by
  obtain ⟨a, b⟩ := p
  go_enter Try.func109, Try.ntmps109
  go_wp2
  refine bodyPost_ret (P2.result (t := (a, b)) (g := w.heap.size + 1) ?_ rfl rfl) rfl ⟨rfl, gr2 _ _ _⟩
  have := P2.new (w.alloc (.cells #[.int .i64 a, .int .i64 b] 86)) (a, b) 62
  rwa [World.size_alloc] at this
theorem assert_is {P : Program} (t xT : TypeId) (fs : Array Field) (h : P.underlying t = some (.struct fs)) (v : Value) (w : World) : (Instr.typeAssert (.iface t v) xT t true).run P w = .ok (.tuple #[v, .bool true]) w := by
  simp [Instr.typeAssert, run_underlying h, go_sem, Result.andThen]
theorem assert_no {P : Program} (t u xT : TypeId) (fs : Array Field) (h : P.underlying u = some (.struct fs)) (hne : t ≠ u) (z : Value) (hz : (P.info? u).map (·.zero) = some (some z)) (v : Value) (w : World) : (Instr.typeAssert (.iface t v) xT u true).run P w = .ok (.tuple #[z, .bool false]) w := by
  obtain ⟨i, hi, hz'⟩ := Option.map_eq_some_iff.1 hz
  simp [Instr.typeAssert, run_underlying h, go_sem, Result.andThen, hne, zeroValue, typeInfo, hi, hz']
set_option maxRecDepth 100000 in
theorem goesRP_any (p : Pt) (n : Int) (w : World) : Calls Try.prog 88 #[.iface 87 (ptV p), .int .i64 n] w fun e w' => e = .returned (.bool (decide (0 < n))) ∧ w = w' := by
  have h1 := assert_is (P := Try.prog) 87 92 _ Try.underlying87 (ptV p) w
  by_cases hn : 0 < n
  · go_enter Try.func88, Try.ntmps88
    go_wp2
    go_ret
    exact ⟨ret_bool (by simp [hn]), rfl⟩
  · go_enter Try.func88, Try.ntmps88
    go_wp2
    go_ret
    exact ⟨ret_bool (by simp [hn]), rfl⟩
set_option maxRecDepth 100000 in
theorem goesLP_any (p : Pt) (n : Int) (w : World) : Calls Try.prog 88 #[.iface 86 (ptV p), .int .i64 n] w fun e w' => e = .returned (.bool true) ∧ w = w' := by
  have h1 := assert_no (P := Try.prog) 86 87 92 _ Try.underlying87 (by decide) (.agg #[.int .i64 0, .int .i64 0]) (by kernel_rfl) (ptV p) w
  have h2 := assert_is (P := Try.prog) 86 92 _ Try.underlying86 (ptV p) w
  go_enter Try.func88, Try.ntmps88
  go_wp2
  go_ret
  exact ⟨rfl, rfl⟩
set_option maxHeartbeats 2000000 in
set_option maxRecDepth 100000 in
theorem haveRP_any (a b v : Pt) (w : World) (hab1 : -20000 ≤ a.1 * b.2 ∧ a.1 * b.2 ≤ 20000) (hab2 : -20000 ≤ a.2 * b.1 ∧ a.2 * b.1 ≤ 20000) (hvb1 : -20000 ≤ v.1 * b.2 ∧ v.1 * b.2 ≤ 20000) (hvb2 : -20000 ≤ v.2 * b.1 ∧ v.2 * b.1 ≤ 20000) (hva1 : -20000 ≤ v.1 * a.2 ∧ v.1 * a.2 ≤ 20000) (hva2 : -20000 ≤ v.2 * a.1 ∧ v.2 * a.1 ≤ 20000) : Calls Try.prog 79 #[.iface 87 (ptV a), .iface 87 (ptV b), ptV v] w fun e w' => e = .returned (.bool (hvB a b v)) ∧ Gr w w' := by
  have HA := Lib.hid (fun W => stepsRP_any a W)
  have HB := Lib.hid (fun W => stepsRP_any b W)
  have HAB := Lib.hid (fun W => crossG_any a b W hab1 hab2)
  have HVB := Lib.hid (fun W => crossG_any v b W hvb1 hvb2)
  have HVA := Lib.hid (fun W => crossG_any v a W hva1 hva2)
  have bab : -40000 ≤ cr a b ∧ cr a b ≤ 40000 := by unfold cr; omega
  have bvb : -40000 ≤ cr v b ∧ cr v b ≤ 40000 := by unfold cr; omega
  have bva : -40000 ≤ cr v a ∧ cr v a ≤ 40000 := by unfold cr; omega
  clear hab1 hab2 hvb1 hvb2 hva1 hva2
  unfold hvB
  generalize cr a b = d at HAB bab ⊢
  generalize cr v b = m at HVB bvb ⊢
  generalize cr v a = n at HVA bva ⊢
  have q1 := mul_bdI bab bvb
  have q2 := mul_bdI bab bva
  have q3 : IntKind.i64.wrap (d * m) = d * m := IntWalk.i64_in _ (by omega)
  have q4 : IntKind.i64.wrap (d * n) = d * n := IntWalk.i64_in _ (by omega)
  have HG1 := Lib.hid (fun W => show Calls Try.prog 88 #[.iface 87 (ptV a), .int .i64 (d * m)] W fun e w' => e = .returned (.bool (decide (0 < d * m))) ∧ Gr W w' from (goesRP_any a (d * m) W).mono fun e w' h => ⟨h.1, h.2 ▸ gr_same W⟩)
  have HG2 := Lib.hid (fun W => show Calls Try.prog 88 #[.iface 87 (ptV b), .int .i64 (d * n)] W fun e w' => e = .returned (.bool (decide (0 < d * n))) ∧ Gr W w' from (goesRP_any b (d * n) W).mono fun e w' h => ⟨h.1, h.2 ▸ gr_same W⟩)
  have hgr := gr1 w (.cells #[.int .i64 v.1, .int .i64 v.2] 62)
  have hP := P2.new w v 62
  have HGR := Lib.hid hgr
  have HP := Lib.hid hP
  clear hgr hP bab bvb bva q1 q2
  by_cases hd : d = 0
  · subst hd
    go_enter Try.func79, Try.ntmps79
    go_wp2_with fail
    refine (HA.out _).mono ?_
    rintro e w1 ⟨rfl, g1⟩
    go_wp2_with fail
    refine (HB.out _).mono ?_
    rintro e w2 ⟨rfl, g2⟩
    go_wp2_with fail
    refine (HAB.out _).mono ?_
    rintro e w3 ⟨rfl, g3⟩
    go_wp2
    go_ret
    exact ⟨rfl, HGR.out.trans (g1.trans (g2.trans g3))⟩
  · have hd1 : (d == 0) = false := by simpa using hd
    by_cases hg : 0 < d * m
    · rw [decide_eq_true hg] at HG1
      go_enter Try.func79, Try.ntmps79
      go_wp2_with fail
      refine (HA.out _).mono ?_
      rintro e w1 ⟨rfl, g1⟩
      go_wp2_with fail
      refine (HB.out _).mono ?_
      rintro e w2 ⟨rfl, g2⟩
      go_wp2_with fail
      refine (HAB.out _).mono ?_
      rintro e w3 ⟨rfl, g3⟩
      have G3 := Lib.hid (HGR.out.trans (g1.trans (g2.trans g3)))
      have hp := HP.out.below (g1.trans (g2.trans g3)).below
      obtain ⟨p0, p1⟩ := P2.grown hp
      have hl := cell_lt hp.1
      clear g1 g2 g3 hp
      go_wp2_with fail
      refine wp_region_quiet_grown (by kernel_rfl) (by kernel_rfl) ?_
      repeat (go_big_quiet_step ((first | (with_reducible exact Calls.grown_of (HVB.out _)) | (with_reducible exact Calls.grown_of (HVA.out _)) | (with_reducible exact Calls.grown_of (HG1.out _)) | (with_reducible exact Calls.grown_of (HG2.out _)) | (go_invoke; go_simp; first | (with_reducible exact Calls.grown_of (HA.out _)) | (with_reducible exact Calls.grown_of (HB.out _))))))
      refine wpQuiet_nil ?_
      intro _ hw'
      obtain ⟨⟨nq, osq⟩, hw''⟩ := hw'
      subst hw''
      go_wp2
      go_ret
      exact ⟨ret_bool (by simp [hd, hg]), G3.out.trans ⟨nq, osq, rfl⟩⟩
    · rw [decide_eq_false hg] at HG1
      go_enter Try.func79, Try.ntmps79
      go_wp2_with fail
      refine (HA.out _).mono ?_
      rintro e w1 ⟨rfl, g1⟩
      go_wp2_with fail
      refine (HB.out _).mono ?_
      rintro e w2 ⟨rfl, g2⟩
      go_wp2_with fail
      refine (HAB.out _).mono ?_
      rintro e w3 ⟨rfl, g3⟩
      have G3 := Lib.hid (HGR.out.trans (g1.trans (g2.trans g3)))
      have hp := HP.out.below (g1.trans (g2.trans g3)).below
      obtain ⟨p0, p1⟩ := P2.grown hp
      have hl := cell_lt hp.1
      clear g1 g2 g3 hp
      go_wp2_with fail
      refine wp_region_quiet_grown (by kernel_rfl) (by kernel_rfl) ?_
      repeat (go_big_quiet_step ((first | (with_reducible exact Calls.grown_of (HVB.out _)) | (with_reducible exact Calls.grown_of (HVA.out _)) | (with_reducible exact Calls.grown_of (HG1.out _)) | (with_reducible exact Calls.grown_of (HG2.out _)) | (go_invoke; go_simp; first | (with_reducible exact Calls.grown_of (HA.out _)) | (with_reducible exact Calls.grown_of (HB.out _))))))
      refine wpQuiet_nil ?_
      intro _ hw'
      obtain ⟨⟨nq, osq⟩, hw''⟩ := hw'
      subst hw''
      go_wp2
      go_ret
      exact ⟨ret_bool (by rw [decide_eq_false (show ¬ 0 < d * m by omega)]; simp), G3.out.trans ⟨nq, osq, rfl⟩⟩
set_option maxHeartbeats 2000000 in
set_option maxRecDepth 100000 in
theorem haveLP_any (a b v : Pt) (w : World) (hab1 : -20000 ≤ a.1 * b.2 ∧ a.1 * b.2 ≤ 20000) (hab2 : -20000 ≤ a.2 * b.1 ∧ a.2 * b.1 ≤ 20000) (hvb1 : -20000 ≤ v.1 * b.2 ∧ v.1 * b.2 ≤ 20000) (hvb2 : -20000 ≤ v.2 * b.1 ∧ v.2 * b.1 ≤ 20000) (hva1 : -20000 ≤ v.1 * a.2 ∧ v.1 * a.2 ≤ 20000) (hva2 : -20000 ≤ v.2 * a.1 ∧ v.2 * a.1 ≤ 20000) : Calls Try.prog 79 #[.iface 86 (ptV a), .iface 86 (ptV b), ptV v] w fun e w' => e = .returned (.bool (decide (cr a b ≠ 0))) ∧ Gr w w' := by
  have HA := Lib.hid (fun W => stepsLP_any a W)
  have HB := Lib.hid (fun W => stepsLP_any b W)
  have HAB := Lib.hid (fun W => crossG_any a b W hab1 hab2)
  have HVB := Lib.hid (fun W => crossG_any v b W hvb1 hvb2)
  have HVA := Lib.hid (fun W => crossG_any v a W hva1 hva2)
  have bab : -40000 ≤ cr a b ∧ cr a b ≤ 40000 := by unfold cr; omega
  have bvb : -40000 ≤ cr v b ∧ cr v b ≤ 40000 := by unfold cr; omega
  have bva : -40000 ≤ cr v a ∧ cr v a ≤ 40000 := by unfold cr; omega
  clear hab1 hab2 hvb1 hvb2 hva1 hva2
  generalize cr a b = d at HAB bab ⊢
  generalize cr v b = m at HVB bvb
  generalize cr v a = n at HVA bva
  have q1 := mul_bdI bab bvb
  have q2 := mul_bdI bab bva
  have q3 : IntKind.i64.wrap (d * m) = d * m := IntWalk.i64_in _ (by omega)
  have q4 : IntKind.i64.wrap (d * n) = d * n := IntWalk.i64_in _ (by omega)
  have HG1 := Lib.hid (fun W => show Calls Try.prog 88 #[.iface 86 (ptV a), .int .i64 (d * m)] W fun e w' => e = .returned (.bool (true)) ∧ Gr W w' from (goesLP_any a (d * m) W).mono fun e w' h => ⟨h.1, h.2 ▸ gr_same W⟩)
  have HG2 := Lib.hid (fun W => show Calls Try.prog 88 #[.iface 86 (ptV b), .int .i64 (d * n)] W fun e w' => e = .returned (.bool (true)) ∧ Gr W w' from (goesLP_any b (d * n) W).mono fun e w' h => ⟨h.1, h.2 ▸ gr_same W⟩)
  have hgr := gr1 w (.cells #[.int .i64 v.1, .int .i64 v.2] 62)
  have hP := P2.new w v 62
  have HGR := Lib.hid hgr
  have HP := Lib.hid hP
  clear hgr hP bab bvb bva q1 q2
  by_cases hd : d = 0
  · subst hd
    go_enter Try.func79, Try.ntmps79
    go_wp2_with fail
    refine (HA.out _).mono ?_
    rintro e w1 ⟨rfl, g1⟩
    go_wp2_with fail
    refine (HB.out _).mono ?_
    rintro e w2 ⟨rfl, g2⟩
    go_wp2_with fail
    refine (HAB.out _).mono ?_
    rintro e w3 ⟨rfl, g3⟩
    go_wp2
    go_ret
    exact ⟨rfl, HGR.out.trans (g1.trans (g2.trans g3))⟩
  · have hd1 : (d == 0) = false := by simpa using hd
    go_enter Try.func79, Try.ntmps79
    go_wp2_with fail
    refine (HA.out _).mono ?_
    rintro e w1 ⟨rfl, g1⟩
    go_wp2_with fail
    refine (HB.out _).mono ?_
    rintro e w2 ⟨rfl, g2⟩
    go_wp2_with fail
    refine (HAB.out _).mono ?_
    rintro e w3 ⟨rfl, g3⟩
    have G3 := Lib.hid (HGR.out.trans (g1.trans (g2.trans g3)))
    have hp := HP.out.below (g1.trans (g2.trans g3)).below
    obtain ⟨p0, p1⟩ := P2.grown hp
    have hl := cell_lt hp.1
    clear g1 g2 g3 hp
    go_wp2_with fail
    refine wp_region_quiet_grown (by kernel_rfl) (by kernel_rfl) ?_
    repeat (go_big_quiet_step ((first | (with_reducible exact Calls.grown_of (HVB.out _)) | (with_reducible exact Calls.grown_of (HVA.out _)) | (with_reducible exact Calls.grown_of (HG1.out _)) | (with_reducible exact Calls.grown_of (HG2.out _)) | (go_invoke; go_simp; first | (with_reducible exact Calls.grown_of (HA.out _)) | (with_reducible exact Calls.grown_of (HB.out _))))))
    refine wpQuiet_nil ?_
    intro _ hw'
    obtain ⟨⟨nq, osq⟩, hw''⟩ := hw'
    subst hw''
    go_wp2
    go_ret
    exact ⟨ret_bool (by simp [hd]), G3.out.trans ⟨nq, osq, rfl⟩⟩
set_option maxRecDepth 100000 in
theorem areAlong_any (a b : Pt) (w : World) (hab1 : -20000 ≤ a.1 * b.2 ∧ a.1 * b.2 ≤ 20000) (hab2 : -20000 ≤ a.2 * b.1 ∧ a.2 * b.1 ≤ 20000) : Calls Try.prog 53 #[ptV a, ptV b] w fun e w' => e = .returned (.bool (decide (cr a b = 0))) ∧ Gr w w' := by
  have HH := Lib.hid (fun W => show Calls Try.prog 79 #[.iface 86 (ptV a), .iface 86 (ptV b), .agg #[.int .i64 0, .int .i64 0]] W fun e w' => e = .returned (.bool (decide (cr a b ≠ 0))) ∧ Gr W w' from haveLP_any a b (0, 0) W hab1 hab2 (by simp) (by simp) (by simp) (by simp))
  have HG := Lib.hid (gr2 w (.cells #[.int .i64 a.1, .int .i64 a.2] 62) (.cells #[.int .i64 b.1, .int .i64 b.2] 62))
  clear hab1 hab2
  by_cases h : cr a b = 0
  · rw [decide_eq_false (show ¬ cr a b ≠ 0 from fun k => k h)] at HH
    rw [decide_eq_true h]
    clear h
    go_enter Try.func53, Try.ntmps53
    go_wp2_with fail
    refine (HH.out _).mono ?_
    rintro e w1 ⟨rfl, g1⟩
    go_wp2
    go_ret
    exact ⟨rfl, HG.out.trans g1⟩
  · rw [decide_eq_true (show cr a b ≠ 0 from h)] at HH
    rw [decide_eq_false h]
    clear h
    go_enter Try.func53, Try.ntmps53
    go_wp2_with fail
    refine (HH.out _).mono ?_
    rintro e w1 ⟨rfl, g1⟩
    go_wp2
    go_ret
    exact ⟨rfl, HG.out.trans g1⟩
theorem stepsOf_any (t : Tm) (w : World) : Calls Try.prog 54 #[tmV t] w fun e w' => e = .returned (ptV (soP t)) ∧ Gr w w' := by
  obtain ⟨a, b, c⟩ := t
  go_enter Try.func54, Try.ntmps54
  go_wp2
  refine bodyPost_ret (P2.result (t := (a, b)) (g := w.heap.size + 1) ?_ rfl rfl) rfl ⟨rfl, gr2 _ _ _⟩
  have := P2.new (w.alloc (.cells #[.int .i64 a, .int .i64 b, .int .i64 c] 26)) (a, b) 62
  rwa [World.size_alloc] at this
set_option maxRecDepth 100000 in
theorem doMeet_any (s t : Tm) (v : Pt) (w : World) (hs : ryT s = true) (ht : ryT t = true) (hm : mvM v.1 v.2 = true) : Calls Try.prog 58 #[tmV s, tmV t, ptV v] w fun e w' => e = .returned (.bool (meB s t v.1 v.2)) ∧ Gr w w' := by
  have HM := Lib.hid (fun W => show Calls Try.prog 79 #[.iface 87 (ptV (soP s)), .iface 87 (ptV (soP t)), ptV v] W fun e w' => e = .returned (.bool (meB s t v.1 v.2)) ∧ Gr W w' by
    obtain ⟨d1, d2, -⟩ := dt_bd hs ht
    obtain ⟨m1, m2, -⟩ := (mvM_iff _ _).1 hm
    obtain ⟨e1, e2, -⟩ := mv_bd hs m1 m2
    obtain ⟨f1, f2, -⟩ := mv_bd ht m1 m2
    have := haveRP_any (soP s) (soP t) v W (by unfold soP; dsimp only; omega) (by unfold soP; dsimp only; omega) (by unfold soP; dsimp only; omega) (by unfold soP; dsimp only; omega) (by unfold soP; dsimp only; omega) (by unfold soP; dsimp only; omega)
    rwa [hvB_me] at this)
  have H1 := Lib.hid (fun W => stepsOf_any s W)
  have H2 := Lib.hid (fun W => stepsOf_any t W)
  have hg := (gr_two w s t 26 26).trans (gr1 _ (.cells #[.int .i64 v.1, .int .i64 v.2] 62))
  have hS := S6.new w s t 26 26
  have hP : P2 (((w.alloc (.cells #[.int .i64 s.1, .int .i64 s.2.1, .int .i64 s.2.2] 26)).alloc (.cells #[.int .i64 t.1, .int .i64 t.2.1, .int .i64 t.2.2] 26)).alloc (.cells #[.int .i64 v.1, .int .i64 v.2] 62)) (w.heap.size + 1 + 1) v := by
    have := P2.new ((w.alloc (.cells #[.int .i64 s.1, .int .i64 s.2.1, .int .i64 s.2.2] 26)).alloc (.cells #[.int .i64 t.1, .int .i64 t.2.1, .int .i64 t.2.2] 26)) v 62
    rwa [World.size_alloc, World.size_alloc] at this
  have hS := hS.below (gr1 _ (.cells #[.int .i64 v.1, .int .i64 v.2] 62)).below
  clear hs ht hm
  generalize soP s = sp at HM H1
  generalize soP t = tp at HM H2
  generalize meB s t v.1 v.2 = u at HM ⊢
  go_enter Try.func58, Try.ntmps58
  go_upto_region 1 with fail
  generalize ((w.alloc (.cells #[.int .i64 s.1, .int .i64 s.2.1, .int .i64 s.2.2] 26)).alloc (.cells #[.int .i64 t.1, .int .i64 t.2.1, .int .i64 t.2.2] 26)).alloc (.cells #[.int .i64 v.1, .int .i64 v.2] 62) = W0 at hS hg hP ⊢
  obtain ⟨x0, x1, x2⟩ := T3.grown (t := s) ⟨hS.1, hS.2.1, hS.2.2.1⟩
  obtain ⟨y0, y1, y2⟩ := T3.grown (t := t) ⟨hS.2.2.2.1, hS.2.2.2.2.1, hS.2.2.2.2.2⟩
  obtain ⟨z0, z1⟩ := P2.grown hP
  have l1 := cell_lt hS.1
  have l2 := cell_lt hS.2.2.2.1
  have l3 := cell_lt hP.1
  refine wp_region_quiet_grown (by kernel_rfl) (by kernel_rfl) ?_
  repeat (go_big_quiet_step ((first | (with_reducible exact Calls.grown_of (H1.out _)) | (with_reducible exact Calls.grown_of (H2.out _)) | (with_reducible exact Calls.grown_of (HM.out _)))))
  refine wpQuiet_nil ?_
  intro _ hw'
  obtain ⟨⟨nq, osq⟩, hw''⟩ := hw'
  subst hw''
  go_wp2
  go_ret
  exact ⟨rfl, hg.trans ⟨nq, osq, rfl⟩⟩
set_option maxRecDepth 100000 in
theorem multOf_any (s t : Tm) (w : World) (hs : ryT s = true) (ht : ryT t = true) : Calls Try.prog 51 #[tmV s, tmV t] w fun e w' => e = .returned (.int .i64 (muR s t)) ∧ Gr w w' := by
  have HM := Lib.hid (fun W => show Calls Try.prog 78 #[ptV (soP s), ptV (soP t)] W fun e w' => e = .returned (.int .i64 (dtR s t)) ∧ Gr W w' by
    obtain ⟨d1, d2, -⟩ := dt_bd hs ht
    exact crossG_any (soP s) (soP t) W (by unfold soP; dsimp only; omega) (by unfold soP; dsimp only; omega))
  have H1 := Lib.hid (fun W => stepsOf_any s W)
  have H2 := Lib.hid (fun W => stepsOf_any t W)
  obtain ⟨-, -, d1, d2⟩ := dt_bd hs ht
  obtain ⟨m1, m2⟩ := mu_bd hs ht
  unfold muR at m2 ⊢
  generalize dtR s t = d at HM d1 d2 m2 ⊢
  have hg := gr_two w s t 26 26
  have hS := S6.new w s t 26 26
  have q0 : IntKind.i64.wrap (-d) = -d := IntWalk.i64_in _ (by omega)
  have q1 : IntKind.i64.wrap (s.2.2 * t.2.2) = s.2.2 * t.2.2 := IntWalk.i64_in _ (by omega)
  have q2 : IntKind.i64.wrap (s.2.2 * t.2.2 * (d.natAbs : Int)) = s.2.2 * t.2.2 * (d.natAbs : Int) := IntWalk.i64_in _ (by omega)
  clear hs ht m1 m2
  generalize soP s = sp at HM H1
  generalize soP t = tp at HM H2
  by_cases hd : d < 0
  · rw [show (d.natAbs : Int) = -d by omega] at q2 ⊢
    have hl : d < -d := by omega
    go_enter Try.func51, Try.ntmps51
    go_upto_region 1 with fail
    generalize (w.alloc (.cells #[.int .i64 s.1, .int .i64 s.2.1, .int .i64 s.2.2] 26)).alloc (.cells #[.int .i64 t.1, .int .i64 t.2.1, .int .i64 t.2.2] 26) = W0 at hS hg ⊢
    obtain ⟨x0, x1, x2⟩ := T3.grown (t := s) ⟨hS.1, hS.2.1, hS.2.2.1⟩
    obtain ⟨y0, y1, y2⟩ := T3.grown (t := t) ⟨hS.2.2.2.1, hS.2.2.2.2.1, hS.2.2.2.2.2⟩
    have l1 := cell_lt hS.1
    have l2 := cell_lt hS.2.2.2.1
    refine wp_region_quiet_grown (by kernel_rfl) (by kernel_rfl) ?_
    repeat (go_big_quiet_step ((first | (with_reducible exact Calls.grown_of (H1.out _)) | (with_reducible exact Calls.grown_of (H2.out _)) | (with_reducible exact Calls.grown_of (HM.out _)))))
    refine wpQuiet_nil ?_
    intro _ hw'
    obtain ⟨⟨nq, osq⟩, hw''⟩ := hw'
    subst hw''
    go_wp2
    go_ret
    exact ⟨rfl, hg.trans ⟨nq, osq, rfl⟩⟩
  · rw [show (d.natAbs : Int) = d by omega] at q2 ⊢
    have hl : ¬ d < -d := by omega
    go_enter Try.func51, Try.ntmps51
    go_upto_region 1 with fail
    generalize (w.alloc (.cells #[.int .i64 s.1, .int .i64 s.2.1, .int .i64 s.2.2] 26)).alloc (.cells #[.int .i64 t.1, .int .i64 t.2.1, .int .i64 t.2.2] 26) = W0 at hS hg ⊢
    obtain ⟨x0, x1, x2⟩ := T3.grown (t := s) ⟨hS.1, hS.2.1, hS.2.2.1⟩
    obtain ⟨y0, y1, y2⟩ := T3.grown (t := t) ⟨hS.2.2.2.1, hS.2.2.2.2.1, hS.2.2.2.2.2⟩
    have l1 := cell_lt hS.1
    have l2 := cell_lt hS.2.2.2.1
    refine wp_region_quiet_grown (by kernel_rfl) (by kernel_rfl) ?_
    repeat (go_big_quiet_step ((first | (with_reducible exact Calls.grown_of (H1.out _)) | (with_reducible exact Calls.grown_of (H2.out _)) | (with_reducible exact Calls.grown_of (HM.out _)))))
    refine wpQuiet_nil ?_
    intro _ hw'
    obtain ⟨⟨nq, osq⟩, hw''⟩ := hw'
    subst hw''
    go_wp2
    go_ret
    exact ⟨rfl, hg.trans ⟨nq, osq, rfl⟩⟩
set_option maxHeartbeats 1000000 in
set_option maxRecDepth 100000 in
theorem isMove_any (x y : Int) (w : World) : Calls Try.prog 57 #[.int .i64 x, .int .i64 y] w fun e w' => e = .returned (.bool (mvM x y)) ∧ w = w' := by
  have HX := Lib.hid (fun W => isWithin_any x 1000 (by omega) W)
  have HY := Lib.hid (fun W => isWithin_any y 1000 (by omega) W)
  have HB := Lib.hid (show mvM x y = (inB x (-1000) 1000 && (inB y (-1000) 1000 && (decide (x ≠ 0) || decide (y ≠ 0)))) from rfl)
  rw [HB.out]
  generalize inB x (-1000) 1000 = p at HX ⊢
  generalize inB y (-1000) 1000 = q at HY ⊢
  clear HB
  cases p
  · go_enter Try.func57, Try.ntmps57
    go_wp2_with (go_at_call 81; refine (HX.out _).mono ?_; rintro e w' ⟨rfl, rfl⟩)
    go_ret
    exact ⟨rfl, rfl⟩
  · cases q
    · go_enter Try.func57, Try.ntmps57
      go_wp2_with fail
      refine (HX.out _).mono ?_
      rintro e w' ⟨rfl, rfl⟩
      go_wp2_with fail
      refine (HY.out _).mono ?_
      rintro e w' ⟨rfl, rfl⟩
      go_wp2
      go_ret
      exact ⟨rfl, rfl⟩
    · by_cases h1 : x = 0
      · by_cases h2 : y = 0
        · subst h1; subst h2
          go_enter Try.func57, Try.ntmps57
          go_wp2_with fail
          refine (HX.out _).mono ?_
          rintro e w' ⟨rfl, rfl⟩
          go_wp2_with fail
          refine (HY.out _).mono ?_
          rintro e w' ⟨rfl, rfl⟩
          go_wp2
          go_ret
          exact ⟨rfl, rfl⟩
        · subst h1
          go_enter Try.func57, Try.ntmps57
          go_wp2_with fail
          refine (HX.out _).mono ?_
          rintro e w' ⟨rfl, rfl⟩
          go_wp2_with fail
          refine (HY.out _).mono ?_
          rintro e w' ⟨rfl, rfl⟩
          go_wp2
          go_ret
          exact ⟨ret_bool (by simp [h2]), rfl⟩
      · go_enter Try.func57, Try.ntmps57
        go_wp2_with fail
        refine (HX.out _).mono ?_
        rintro e w' ⟨rfl, rfl⟩
        go_wp2_with fail
        refine (HY.out _).mono ?_
        rintro e w' ⟨rfl, rfl⟩
        go_wp2
        go_ret
        exact ⟨ret_bool (by simp [h1]), rfl⟩
end Go.Proofs.Ytijmnbgmpakllaa

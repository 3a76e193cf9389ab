/-
  The functions on single fractions, of the program and of the model: what each call returns.
  Condition: the integers lie within bounds where a contract names them.
-/
import Derived.Test.YtklcildhfcomnaaGreatDoorGcd
import Derived.Below
import Derived.OwnWalk
import Derived.Laws.OwnMore
import Derived.LoopTactic
import Derived.Deep.QuietTactic
import Derived.BigQuiet
import Derived.RegionTactic
import Derived.Deep.RegionWith
import Derived.Handy
import Derived.Laws.ResultCell
import Derived.Lib.Hide
namespace Go.Proofs.YtklcildhfcomnaaGreatDoor
set_option linter.unusedSimpArgs false
set_option linter.unusedVariables false
open Go.ChangeShapes Go.WideShapes Go.ChangeAt Go.RowKit

/-! ### Plain facts -/
/-- Is it a fraction. -/
def frB (n d : Int) : Bool := inB d 1 1000000000 && (inB n (-1000000000) 1000000000 && gI n d == 1)
/-- The divisor of both parts, with the sign of the second one. -/
def sg (n d : Int) : Int := if d < 0 then -gI n d else gI n d
def loN (n d : Int) : Int := n.tdiv (sg n d)
def loD (n d : Int) : Int := d.tdiv (sg n d)
/-- Is the quotient a fraction; its parts, or 0. -/
def mkB (n d : Int) : Bool := d != 0 && frB (loN n d) (loD n d)
def mkN (n d : Int) : Int := if mkB n d = true then loN n d else 0
def mkD (n d : Int) : Int := if mkB n d = true then loD n d else 0
/-- A fraction's value; what a call gives that makes one. -/
abbrev fracV (n d : Int) : Value := .agg #[.int .i64 n, .int .i64 d]
def GivesF (n d : Int) (b : Bool) (w : World) (e : Ending) (w' : World) : Prop := e = .returned (.tuple #[fracV n d, .bool b]) ∧ Below w.heap.size w w'
theorem frB_bd {n d : Int} (h : frB n d = true) : (-1000000000 ≤ n ∧ n ≤ 1000000000) ∧ (1 ≤ d ∧ d ≤ 1000000000) ∧ gI n d = 1 := by
  unfold frB at h
  simp only [Bool.and_eq_true, inB_iff, beq_iff_eq] at h
  exact ⟨h.2.1, h.1, h.2.2⟩
theorem sg_ne {n d : Int} (h : d ≠ 0) : sg n d ≠ 0 := by
  have := gI_pos (n := n) h
  unfold sg; split <;> omega
theorem wide_tdiv {a b : Int} (ha : wide a) : wide (a.tdiv b) := by
  have h1 := Int.natAbs_tdiv a b
  have h2 := Nat.div_le_self a.natAbs b.natAbs
  unfold wide at *
  have h3 : (a.tdiv b).natAbs ≤ a.natAbs := by rw [h1]; exact h2
  omega
theorem frGood_any (n d : Int) (w : World) : Calls Tryz.prog 40 #[fracV n d] w fun e w' => e = .returned (.bool (frB n d)) ∧ Below w.heap.size w w' := by
  cases hd : inB d 1 1000000000
  · go_enter Tryz.func40, Tryz.ntmps40
    go_wp2_with (go_at_call 58; refine (l1In_any _ _ _ _).mono ?_; rintro e w' ⟨rfl, rfl⟩)
    go_ret
    exact ⟨ret_bool (by simp [frB, hd]), by go_grown⟩
  · cases hn : inB n (-1000000000) 1000000000
    · go_enter Tryz.func40, Tryz.ntmps40
      go_wp2_with (go_at_call 58; refine (l1In_any _ _ _ _).mono ?_; rintro e w' ⟨rfl, rfl⟩)
      go_ret
      exact ⟨ret_bool (by simp [frB, hn]), by go_grown⟩
    · have h1 := (inB_iff _ _ _).1 hd
      have h2 := (inB_iff _ _ _).1 hn
      go_enter Tryz.func40, Tryz.ntmps40
      go_wp2_with (first | (go_at_call 58; refine (l1In_any _ _ _ _).mono ?_; rintro e w' ⟨rfl, rfl⟩) | (go_at_call 78; refine (frGcd_any _ _ _ ?_ ?_).mono ?_; (unfold wide; omega); (unfold wide; omega); rintro e w' ⟨rfl, rfl⟩))
      go_ret
      exact ⟨ret_bool (by simp [frB, hd, hn]), by go_grown⟩
theorem isFrac_any (n d : Int) (w : World) : Calls Tryz.prog 34 #[fracV n d] w fun e w' => e = .returned (.bool (frB n d)) ∧ Below w.heap.size w w' := by
  by_cases h1 : n < -1000000000
  · go_enter Tryz.func34, Tryz.ntmps34
    go_wp2
    go_ret
    exact ⟨ret_bool (by simp [frB, inB]; omega), by go_grown⟩
  · by_cases h2 : 1000000000 < n
    · go_enter Tryz.func34, Tryz.ntmps34
      go_wp2
      go_ret
      exact ⟨ret_bool (by simp [frB, inB]; omega), by go_grown⟩
    · by_cases h3 : d < 1
      · go_enter Tryz.func34, Tryz.ntmps34
        go_wp2
        go_ret
        exact ⟨ret_bool (by simp [frB, inB]; omega), by go_grown⟩
      · by_cases h4 : 1000000000 < d
        · go_enter Tryz.func34, Tryz.ntmps34
          go_wp2
          go_ret
          exact ⟨ret_bool (by simp [frB, inB]; omega), by go_grown⟩
        · have hd : inB d 1 1000000000 = true := (inB_iff _ _ _).2 (by omega)
          have hn : inB n (-1000000000) 1000000000 = true := (inB_iff _ _ _).2 (by omega)
          go_enter Tryz.func34, Tryz.ntmps34
          go_wp2_with (go_at_call 70; refine (greatestDivisor_any _ _ _ ?_ ?_).mono ?_; (unfold wide; omega); (unfold wide; omega); rintro e w' ⟨rfl, nq, rfl⟩)
          go_ret
          exact ⟨ret_bool (by simp [frB, hd, hn]), belN (by go_grown) nq⟩
theorem fracV_eq {a b c d : Int} (h : a = c) (h' : b = d) : fracV a b = fracV c d := by rw [h, h']
theorem givesF_no {n d : Int} {w w' : World} (h : mkB n d = false) (hb : Below w.heap.size w w') : GivesF (mkN n d) (mkD n d) (mkB n d) w (.returned (.tuple #[fracV 0 0, .bool false])) w' := by
  refine ⟨?_, hb⟩
  rw [show mkN n d = 0 from if_neg (by simp [h]), show mkD n d = 0 from if_neg (by simp [h]), h]
theorem givesF_yes {n d q r : Int} {w w' : World} (h : mkB n d = true) (hq : q = loN n d) (hr : r = loD n d) (hb : Below w.heap.size w w') : GivesF (mkN n d) (mkD n d) (mkB n d) w (.returned (.tuple #[fracV q r, .bool true])) w' := by
  refine ⟨?_, hb⟩
  rw [show mkN n d = loN n d from if_pos h, show mkD n d = loD n d from if_pos h, h, hq, hr]
theorem sg_pos {n d : Int} (h : ¬ d < 0) : sg n d = gI n d := if_neg h
theorem sg_neg {n d : Int} (h : d < 0) : sg n d = -gI n d := if_pos h
theorem gI_wide {n d : Int} (h : d ≠ 0) (hw : wide d) : 1 ≤ gI n d ∧ gI n d ≤ 4000000000000000000 := by
  have h1 := gI_pos (n := n) h
  have h2 := gI_le (n := n) h
  unfold wide at hw
  omega
/-- A fraction's two cells in a block of the call's own. -/
def F2 (w : World) (g : Nat) (a b : Int) : Prop := w.cell? ⟨g, 0, none⟩ = some (.int .i64 a) ∧ w.cell? ⟨g, 1, none⟩ = some (.int .i64 b) ∧ w.frozen? ⟨g, 0, none⟩ = false ∧ w.frozen? ⟨g, 1, none⟩ = false
theorem F2.below {w w' : World} {g : Nat} {a b : Int} (h : F2 w g a b) (hb : Below w.heap.size w w') : F2 w' g a b := by
  obtain ⟨h1, h2, h3, h4⟩ := h
  have hg := cell_lt h1
  refine ⟨(hb.cell (p := ⟨g, 0, none⟩) hg).trans h1, (hb.cell (p := ⟨g, 1, none⟩) hg).trans h2, (hb.frozen (p := ⟨g, 0, none⟩) hg).trans h3, (hb.frozen (p := ⟨g, 1, none⟩) hg).trans h4⟩
theorem F2.new (w : World) (a b : Int) : F2 (w.alloc (.cells #[.int .i64 a, .int .i64 b] 35)) w.heap.size a b := by
  refine ⟨?_, ?_, ?_, ?_⟩ <;> simp [go_sem]
theorem F2.old {w : World} {g : Nat} {a b : Int} (h : F2 w g a b) (o : Obj) : F2 (w.alloc o) g a b := h.below ((Below.refl _ _).alloc (Nat.le_refl _) o)
theorem F2.drew {w : World} {g : Nat} {a b : Int} (h : F2 w g a b) : F2 w.drew g a b := h
theorem F2.drewN {w : World} {g : Nat} {a b : Int} (h : F2 w g a b) (n : Nat) : F2 (w.drewN n) g a b := h
theorem F2.new_ {w : World} {g : Nat} (a b : Int) (hg : w.heap.size = g) : F2 (w.alloc (.cells #[.int .i64 a, .int .i64 b] 35)) g a b := hg ▸ F2.new w a b
theorem F2.store {w : World} {g : Nat} {a b : Int} (h : F2 w g a b) (q r : Int) : F2 ((w.setCell ⟨g, 0, none⟩ (.int .i64 q)).setCell ⟨g, 1, none⟩ (.int .i64 r)) g q r := by
  obtain ⟨h1, h2, h3, h4⟩ := h
  have e1 : (w.setCell ⟨g, 0, none⟩ (.int .i64 q)).cell? ⟨g, 0, none⟩ = some (.int .i64 q) := World.cell?_setCell_same _ _ _ h1
  have e2 : (w.setCell ⟨g, 0, none⟩ (.int .i64 q)).cell? ⟨g, 1, none⟩ = some (.int .i64 b) := (World.cell?_setCell_other _ _ _ _ (by simp)).trans h2
  refine ⟨(World.cell?_setCell_other _ _ _ _ (by simp)).trans e1, World.cell?_setCell_same _ _ _ e2, ?_, ?_⟩ <;> simp [h3, h4]
theorem F2.load {w : World} {g : Nat} {a b : Int} (h : F2 w g a b) : (loadVar 35 ⟨g, 0, none⟩).run Tryz.prog w = .ok (fracV a b) w := by
  obtain ⟨h1, h2, -, -⟩ := h
  simp [loadVar, go_sem, h1, h2]
/-- A struct in a cell and a slot are handed back. -/
theorem F2.results {w : World} {g : Nat} {a b : Int} (h : F2 w g a b) {fn : Func} {p u : Tmp} {ts : Array Value} {v : Value} (hr : fn.results = #[.cell p 35, .tmp u]) (hp : ts.getD p undef = .pointer (some ⟨g, 0, none⟩)) (hu : ts.getD u undef = v) : (results fn ts).run Tryz.prog w = .ok (.tuple #[fracV a b, v]) w := by
  rw [results_cell_tmp hr, hp, hu]
  rw [show (asAddr (Value.pointer (some ⟨g, 0, none⟩))).run Tryz.prog w = .ok ⟨g, 0, none⟩ w from rfl]
  simp only [Result.andThen]
  rw [h.load]
theorem bel_two {w W w1 : World} (b0 : Below w.heap.size w W) (b1 : Below W.heap.size W w1) (u v : Value) : Below w.heap.size w ((w1.setCell ⟨w.heap.size, 0, none⟩ u).setCell ⟨w.heap.size, 1, none⟩ v) :=
  ((bel2 b0 b1).setCell (Nat.le_refl _) u).setCell (Nat.le_refl _) v
set_option maxHeartbeats 1000000 in
theorem frMake_any (n d : Int) (w : World) (hn : wide n) (hd : wide d) : Calls Tryz.prog 59 #[.int .i64 n, .int .i64 d] w fun e w' => GivesF (mkN n d) (mkD n d) (mkB n d) w e w' := by
  by_cases hz : d = 0
  · subst hz
    go_enter Tryz.func59, Tryz.ntmps59
    go_wp2
    go_returns
    exact givesF_no (by simp [mkB]) (by go_grown)
  · obtain ⟨g, hg⟩ : ∃ g, g = gI n d := ⟨_, rfl⟩
    have hgb := gI_wide (n := n) hz hd
    rw [← hg] at hgb
    obtain ⟨hg1, hg2⟩ := hgb
    have HG := Lib.hid hg
    have hdz : (d == 0) = false := by simpa using hz
    have HD := Lib.hid hd
    have HN := Lib.hid hn
    obtain ⟨q, hq⟩ : ∃ q, q = loN n d := ⟨_, rfl⟩
    obtain ⟨r, hr⟩ : ∃ r, r = loD n d := ⟨_, rfl⟩
    have hqw : wide q := by rw [hq]; exact wide_tdiv hn
    have hrw : wide r := by rw [hr]; exact wide_tdiv hd
    have hm : mkB n d = frB q r := by unfold mkB; rw [← hq, ← hr]; simp [hz]
    have HM := Lib.hid hm
    have HQ := Lib.hid hq
    have HR := Lib.hid hr
    obtain ⟨hq1, hq2⟩ := hqw
    obtain ⟨hr1, hr2⟩ := hrw
    clear hm
    by_cases hneg : d < 0
    · have hs := sg_neg (n := n) hneg
      rw [← hg] at hs
      have e1 : n.tdiv (-g) = q := by rw [hq, ← hs]; rfl
      have e2 : d.tdiv (-g) = r := by rw [hr, ← hs]; rfl
      have hgn : (-g == 0) = false := by simp; omega
      clear hs hq hr hg
      cases hB : frB q r
      all_goals have HB := Lib.hid (HM.out.trans hB)
      all_goals
        go_enter Tryz.func59, Tryz.ntmps59
        go_wp2_with (go_at_call 78; refine (frGcd_any _ _ _ HN.out HD.out).mono ?_; rw [← HG.out]; rintro e w' ⟨rfl, rfl⟩)
        go_region
        all_goals
          go_wp2_with (go_at_call 40; refine (frGood_any _ _ _).mono ?_; rintro e w1 ⟨rfl, b1⟩; obtain ⟨c0, c1, f0, f1⟩ := ((F2.new w 0 0).old (.cells #[.int .i64 q, .int .i64 r] 35)).drew.below b1; obtain ⟨c2, c3, -, -⟩ := (F2.new_ (w := w.alloc (.cells #[.int .i64 0, .int .i64 0] 35)) (g := w.heap.size + 1) q r (World.size_alloc _ _)).drew.below b1)
          have C0 : F2 w1 w.heap.size 0 0 := ⟨c0, c1, f0, f1⟩
          refine bodyPost_ret ((C0.store _ _).results rfl rfl rfl) rfl ?_
          have B0 := bel_two ((((Below.refl _ _).alloc (Nat.le_refl _) _).alloc (by simp) _).drew) b1
          first | exact givesF_no HB.out (B0 _ _) | exact givesF_yes HB.out HQ.out HR.out (B0 _ _)
    · have hs := sg_pos (n := n) hneg
      rw [← hg] at hs
      have e1 : n.tdiv g = q := by rw [hq, ← hs]; rfl
      have e2 : d.tdiv g = r := by rw [hr, ← hs]; rfl
      have hgn : (g == 0) = false := by simp; omega
      clear hs hq hr hg
      cases hB : frB q r
      all_goals have HB := Lib.hid (HM.out.trans hB)
      all_goals
        go_enter Tryz.func59, Tryz.ntmps59
        go_wp2_with (go_at_call 78; refine (frGcd_any _ _ _ HN.out HD.out).mono ?_; rw [← HG.out]; rintro e w' ⟨rfl, rfl⟩)
        go_region
        all_goals
          go_wp2_with (go_at_call 40; refine (frGood_any _ _ _).mono ?_; rintro e w1 ⟨rfl, b1⟩; obtain ⟨c0, c1, f0, f1⟩ := ((F2.new w 0 0).old (.cells #[.int .i64 q, .int .i64 r] 35)).drew.below b1; obtain ⟨c2, c3, -, -⟩ := (F2.new_ (w := w.alloc (.cells #[.int .i64 0, .int .i64 0] 35)) (g := w.heap.size + 1) q r (World.size_alloc _ _)).drew.below b1)
          have C0 : F2 w1 w.heap.size 0 0 := ⟨c0, c1, f0, f1⟩
          refine bodyPost_ret ((C0.store _ _).results rfl rfl rfl) rfl ?_
          have B0 := bel_two ((((Below.refl _ _).alloc (Nat.le_refl _) _).alloc (by simp) _).drew) b1
          first | exact givesF_no HB.out (B0 _ _) | exact givesF_yes HB.out HQ.out HR.out (B0 _ _)
set_option maxHeartbeats 1000000 in
theorem quotientOrNone_any (n d : Int) (w : World) (hn : wide n) (hd : wide d) : Calls Tryz.prog 87 #[.int .i64 n, .int .i64 d] w fun e w' => GivesF (mkN n d) (mkD n d) (mkB n d) w e w' := by
  by_cases hz : d = 0
  · subst hz
    go_enter Tryz.func87, Tryz.ntmps87
    go_wp2
    go_returns
    exact givesF_no (by simp [mkB]) (by go_grown)
  · obtain ⟨g, hg⟩ : ∃ g, g = gI n d := ⟨_, rfl⟩
    have hgb := gI_wide (n := n) hz hd
    rw [← hg] at hgb
    obtain ⟨hg1, hg2⟩ := hgb
    have HG := Lib.hid hg
    have hdz : (d == 0) = false := by simpa using hz
    have HD := Lib.hid hd
    have HN := Lib.hid hn
    obtain ⟨q, hq⟩ : ∃ q, q = loN n d := ⟨_, rfl⟩
    obtain ⟨r, hr⟩ : ∃ r, r = loD n d := ⟨_, rfl⟩
    have hqw : wide q := by rw [hq]; exact wide_tdiv hn
    have hrw : wide r := by rw [hr]; exact wide_tdiv hd
    have hm : mkB n d = frB q r := by unfold mkB; rw [← hq, ← hr]; simp [hz]
    have HM := Lib.hid hm
    have HQ := Lib.hid hq
    have HR := Lib.hid hr
    obtain ⟨hq1, hq2⟩ := hqw
    obtain ⟨hr1, hr2⟩ := hrw
    clear hm
    by_cases hneg : d < 0
    · have hs := sg_neg (n := n) hneg
      rw [← hg] at hs
      have e1 : n.tdiv (-g) = q := by rw [hq, ← hs]; rfl
      have e2 : d.tdiv (-g) = r := by rw [hr, ← hs]; rfl
      have hgn : (-g == 0) = false := by simp; omega
      clear hs hq hr hg
      cases hB : frB q r
      all_goals have HB := Lib.hid (HM.out.trans hB)
      all_goals
        go_enter Tryz.func87, Tryz.ntmps87
        go_wp2_with (go_at_call 70; refine (greatestDivisor_any _ _ _ HN.out HD.out).mono ?_; rw [← HG.out]; rintro e w' ⟨rfl, nq, rfl⟩)
        go_region
        all_goals
          go_wp2_with (go_at_call 34; refine (isFrac_any _ _ _).mono ?_; rintro e w1 ⟨rfl, b1⟩; obtain ⟨c0, c1, f0, f1⟩ := (((F2.new w 0 0).drewN (nq + 1)).old (.cells #[.int .i64 q, .int .i64 r] 35)).below b1; obtain ⟨c2, c3, -, -⟩ := (F2.new_ (w := (w.alloc (.cells #[.int .i64 0, .int .i64 0] 35)).drewN (nq + 1)) (g := w.heap.size + 1) q r (World.size_alloc _ _)).below b1)
          have C0 : F2 w1 w.heap.size 0 0 := ⟨c0, c1, f0, f1⟩
          refine bodyPost_ret ((C0.store _ _).results rfl rfl rfl) rfl ?_
          have B0 := bel_two ((belN ((Below.refl _ _).alloc (Nat.le_refl _) _) (nq + 1)).alloc (show w.heap.size ≤ (w.alloc _).heap.size by simp) _) b1
          first | exact givesF_no HB.out (B0 _ _) | exact givesF_yes HB.out HQ.out HR.out (B0 _ _)
    · have hs := sg_pos (n := n) hneg
      rw [← hg] at hs
      have e1 : n.tdiv g = q := by rw [hq, ← hs]; rfl
      have e2 : d.tdiv g = r := by rw [hr, ← hs]; rfl
      have hgn : (g == 0) = false := by simp; omega
      clear hs hq hr hg
      cases hB : frB q r
      all_goals have HB := Lib.hid (HM.out.trans hB)
      all_goals
        go_enter Tryz.func87, Tryz.ntmps87
        go_wp2_with (go_at_call 70; refine (greatestDivisor_any _ _ _ HN.out HD.out).mono ?_; rw [← HG.out]; rintro e w' ⟨rfl, nq, rfl⟩)
        go_region
        all_goals
          go_wp2_with (go_at_call 34; refine (isFrac_any _ _ _).mono ?_; rintro e w1 ⟨rfl, b1⟩; obtain ⟨c0, c1, f0, f1⟩ := (((F2.new w 0 0).drewN (nq + 1)).old (.cells #[.int .i64 q, .int .i64 r] 35)).below b1; obtain ⟨c2, c3, -, -⟩ := (F2.new_ (w := (w.alloc (.cells #[.int .i64 0, .int .i64 0] 35)).drewN (nq + 1)) (g := w.heap.size + 1) q r (World.size_alloc _ _)).below b1)
          have C0 : F2 w1 w.heap.size 0 0 := ⟨c0, c1, f0, f1⟩
          refine bodyPost_ret ((C0.store _ _).results rfl rfl rfl) rfl ?_
          have B0 := bel_two ((belN ((Below.refl _ _).alloc (Nat.le_refl _) _) (nq + 1)).alloc (show w.heap.size ≤ (w.alloc _).heap.size by simp) _) b1
          first | exact givesF_no HB.out (B0 _ _) | exact givesF_yes HB.out HQ.out HR.out (B0 _ _)
end Go.Proofs.YtklcildhfcomnaaGreatDoor
/-
  The operations on two fractions, of the program and of the model: what each call returns.
  No condition but that the parts are integers of Go's int.
-/
namespace Go.Proofs.YtklcildhfcomnaaGreatDoor
set_option linter.unusedSimpArgs false
set_option linter.unusedVariables false
open Go.ChangeShapes Go.WideShapes Go.ChangeAt Go.RowKit

/-- Are both fractions. -/
def twoB (a b c d : Int) : Bool := frB a b && frB c d
/-- A number, or 0. -/
def okF (g : Bool) (v : Int) : Int := if g = true then v else 0
/-- What an operation gives whose parts are n and e. -/
def GivesOp (g : Bool) (n e : Int) (w : World) (x : Ending) (w' : World) : Prop := GivesF (okF g (mkN n e)) (okF g (mkD n e)) (g && mkB n e) w x w'
theorem givesOp_no {g : Bool} {n e : Int} {w w' : World} (h : g = false) (hb : Below w.heap.size w w') : GivesOp g n e w (.returned (.tuple #[fracV 0 0, .bool false])) w' := by
  subst h; exact ⟨rfl, hb⟩
theorem givesOp_yes {g : Bool} {n e q r : Int} {b : Bool} {w w' : World} (h : g = true) (hq : q = mkN n e) (hr : r = mkD n e) (hm : b = mkB n e) (hb : Below w.heap.size w w') : GivesOp g n e w (.returned (.tuple #[fracV q r, .bool b])) w' := by
  subst h hq hr hm; exact ⟨rfl, hb⟩
theorem mul9 {a b : Int} (ha : -1000000000 ≤ a ∧ a ≤ 1000000000) (hb : -1000000000 ≤ b ∧ b ≤ 1000000000) : -1000000000000000000 ≤ a * b ∧ a * b ≤ 1000000000000000000 := by
  have h1 : (a * b).natAbs ≤ 1000000000 * 1000000000 := by
    rw [Int.natAbs_mul]; exact Nat.mul_le_mul (by omega) (by omega)
  omega
/-- The parts lie within a fraction's limits. -/
def Lim (a : Int) : Prop := -1000000000 ≤ a ∧ a ≤ 1000000000
theorem frB_lim {n d : Int} (h : frB n d = true) : Lim n ∧ Lim d := by
  have := frB_bd h
  unfold Lim
  omega
theorem bel_at {w W w1 : World} {g : Nat} (hg : w.heap.size ≤ g) (b0 : Below w.heap.size w W) (b1 : Below W.heap.size W w1) (u v : Value) : Below w.heap.size w ((w1.setCell ⟨g, 0, none⟩ u).setCell ⟨g, 1, none⟩ v) :=
  ((bel2 b0 b1).setCell hg u).setCell hg v
/-- Two boxed fractions and a cell for the result. -/
theorem box2 (w : World) (a b c d : Int) : F2 ((w.alloc (.cells #[.int .i64 a, .int .i64 b] 35)).alloc (.cells #[.int .i64 c, .int .i64 d] 35)) w.heap.size a b ∧ F2 ((w.alloc (.cells #[.int .i64 a, .int .i64 b] 35)).alloc (.cells #[.int .i64 c, .int .i64 d] 35)) (w.heap.size + 1) c d :=
  ⟨(F2.new w a b).old _, F2.new_ c d (World.size_alloc _ _)⟩
theorem box3 (w : World) (a b c d : Int) : F2 (((w.alloc (.cells #[.int .i64 a, .int .i64 b] 35)).alloc (.cells #[.int .i64 c, .int .i64 d] 35)).alloc (.cells #[.int .i64 0, .int .i64 0] 35)) w.heap.size a b ∧ F2 (((w.alloc (.cells #[.int .i64 a, .int .i64 b] 35)).alloc (.cells #[.int .i64 c, .int .i64 d] 35)).alloc (.cells #[.int .i64 0, .int .i64 0] 35)) (w.heap.size + 1) c d ∧ F2 (((w.alloc (.cells #[.int .i64 a, .int .i64 b] 35)).alloc (.cells #[.int .i64 c, .int .i64 d] 35)).alloc (.cells #[.int .i64 0, .int .i64 0] 35)) (w.heap.size + 1 + 1) 0 0 :=
  ⟨((F2.new w a b).old _).old _, (F2.new_ c d (World.size_alloc _ _)).old _, F2.new_ 0 0 (by simp)⟩
set_option maxHeartbeats 1000000 in
theorem frAdd_any (a b c d : Int) (w : World) (h1 : frB a b = true) (h2 : frB c d = true) : Calls Tryz.prog 51 #[fracV a b, fracV c d] w fun x w' => GivesF (mkN (a * d + c * b) (b * d)) (mkD (a * d + c * b) (b * d)) (mkB (a * d + c * b) (b * d)) w x w' := by
  obtain ⟨ha, hb⟩ := frB_lim h1
  obtain ⟨hc, hd⟩ := frB_lim h2
  obtain ⟨p1, p2⟩ := mul9 ha hd
  obtain ⟨q1, q2⟩ := mul9 hc hb
  obtain ⟨r1, r2⟩ := mul9 hb hd
  obtain ⟨s1, s2⟩ := mul9 ha hc
  obtain ⟨t1, t2⟩ := mul9 hb hc
  clear ha hb hc hd h1 h2
  go_enter Tryz.func51, Tryz.ntmps51
  go_wp2_with fail
  refine (frMake_any _ _ _ ?_ ?_).mono ?_
  · unfold wide; omega
  · unfold wide; omega
  rintro x w1 ⟨rfl, b1⟩
  have C0 := (box3 w a b c d).2.2.below b1
  obtain ⟨c0, c1, f0, f1⟩ := C0
  go_wp2_with fail
  refine bodyPost_ret ((F2.store ⟨c0, c1, f0, f1⟩ _ _).results rfl rfl rfl) rfl ?_
  exact ⟨rfl, bel_at (by omega) (by go_grown) b1 _ _⟩
set_option maxHeartbeats 1000000 in
theorem addition_parts (a b c d : Int) (w : World) (h1 : frB a b = true) (h2 : frB c d = true) : Calls Tryz.prog 125 #[.agg #[], fracV a b, fracV c d] w fun x w' => x = .returned (.tuple #[.int .i64 (a * d + c * b), .int .i64 (b * d)]) ∧ Below w.heap.size w w' := by
  obtain ⟨ha, hb⟩ := frB_lim h1
  obtain ⟨hc, hd⟩ := frB_lim h2
  obtain ⟨p1, p2⟩ := mul9 ha hd
  obtain ⟨q1, q2⟩ := mul9 hc hb
  obtain ⟨r1, r2⟩ := mul9 hb hd
  obtain ⟨s1, s2⟩ := mul9 ha hc
  obtain ⟨t1, t2⟩ := mul9 hb hc
  clear ha hb hc hd h1 h2
  go_enter Tryz.func125, Tryz.ntmps125
  go_wp2
  go_quiet (fail)
  go_wp2
  go_ret2
  exact ⟨rfl, belN (by go_grown) nq⟩
set_option maxHeartbeats 1000000 in
theorem frMul_any (a b c d : Int) (w : World) (h1 : frB a b = true) (h2 : frB c d = true) : Calls Tryz.prog 50 #[fracV a b, fracV c d] w fun x w' => GivesF (mkN (a * c) (b * d)) (mkD (a * c) (b * d)) (mkB (a * c) (b * d)) w x w' := by
  obtain ⟨ha, hb⟩ := frB_lim h1
  obtain ⟨hc, hd⟩ := frB_lim h2
  obtain ⟨p1, p2⟩ := mul9 ha hd
  obtain ⟨q1, q2⟩ := mul9 hc hb
  obtain ⟨r1, r2⟩ := mul9 hb hd
  obtain ⟨s1, s2⟩ := mul9 ha hc
  obtain ⟨t1, t2⟩ := mul9 hb hc
  clear ha hb hc hd h1 h2
  go_enter Tryz.func50, Tryz.ntmps50
  go_wp2_with fail
  refine (frMake_any _ _ _ ?_ ?_).mono ?_
  · unfold wide; omega
  · unfold wide; omega
  rintro x w1 ⟨rfl, b1⟩
  have C0 := (box3 w a b c d).2.2.below b1
  obtain ⟨c0, c1, f0, f1⟩ := C0
  go_wp2_with fail
  refine bodyPost_ret ((F2.store ⟨c0, c1, f0, f1⟩ _ _).results rfl rfl rfl) rfl ?_
  exact ⟨rfl, bel_at (by omega) (by go_grown) b1 _ _⟩
set_option maxHeartbeats 1000000 in
theorem multiplication_parts (a b c d : Int) (w : World) (h1 : frB a b = true) (h2 : frB c d = true) : Calls Tryz.prog 124 #[.agg #[], fracV a b, fracV c d] w fun x w' => x = .returned (.tuple #[.int .i64 (a * c), .int .i64 (b * d)]) ∧ Below w.heap.size w w' := by
  obtain ⟨ha, hb⟩ := frB_lim h1
  obtain ⟨hc, hd⟩ := frB_lim h2
  obtain ⟨p1, p2⟩ := mul9 ha hd
  obtain ⟨q1, q2⟩ := mul9 hc hb
  obtain ⟨r1, r2⟩ := mul9 hb hd
  obtain ⟨s1, s2⟩ := mul9 ha hc
  obtain ⟨t1, t2⟩ := mul9 hb hc
  clear ha hb hc hd h1 h2
  go_enter Tryz.func124, Tryz.ntmps124
  go_wp2
  go_quiet (fail)
  go_wp2
  go_ret2
  exact ⟨rfl, belN (by go_grown) nq⟩
theorem F3.below {w w1 : World} {g h k : Nat} {a b c d : Int} (H : F2 w g a b ∧ F2 w h c d ∧ F2 w k 0 0) (hb : Below w.heap.size w w1) : F2 w1 g a b ∧ F2 w1 h c d ∧ F2 w1 k 0 0 := ⟨H.1.below hb, H.2.1.below hb, H.2.2.below hb⟩
theorem addition_wide {a b c d : Int} (h1 : frB a b = true) (h2 : frB c d = true) : wide (a * d + c * b) ∧ wide (b * d) := by
  obtain ⟨ha, hb⟩ := frB_lim h1
  obtain ⟨hc, hd⟩ := frB_lim h2
  have p := mul9 ha hd
  have q := mul9 hc hb
  have r := mul9 hb hd
  have s := mul9 ha hc
  have t := mul9 hb hc
  unfold wide
  omega
theorem subtraction_wide {a b c d : Int} (h1 : frB a b = true) (h2 : frB c d = true) : wide (a * d - c * b) ∧ wide (b * d) := by
  obtain ⟨ha, hb⟩ := frB_lim h1
  obtain ⟨hc, hd⟩ := frB_lim h2
  have p := mul9 ha hd
  have q := mul9 hc hb
  have r := mul9 hb hd
  have s := mul9 ha hc
  have t := mul9 hb hc
  unfold wide
  omega
theorem multiplication_wide {a b c d : Int} (h1 : frB a b = true) (h2 : frB c d = true) : wide (a * c) ∧ wide (b * d) := by
  obtain ⟨ha, hb⟩ := frB_lim h1
  obtain ⟨hc, hd⟩ := frB_lim h2
  have p := mul9 ha hd
  have q := mul9 hc hb
  have r := mul9 hb hd
  have s := mul9 ha hc
  have t := mul9 hb hc
  unfold wide
  omega
theorem division_wide {a b c d : Int} (h1 : frB a b = true) (h2 : frB c d = true) : wide (a * d) ∧ wide (b * c) := by
  obtain ⟨ha, hb⟩ := frB_lim h1
  obtain ⟨hc, hd⟩ := frB_lim h2
  have p := mul9 ha hd
  have q := mul9 hc hb
  have r := mul9 hb hd
  have s := mul9 ha hc
  have t := mul9 hb hc
  unfold wide
  omega
set_option maxHeartbeats 1000000 in
theorem operate_addition (a b c d : Int) (w : World) : Calls Tryz.prog 95 #[.iface 105 (.agg #[]), fracV a b, fracV c d] w fun x w' => GivesOp (twoB a b c d) (a * d + c * b) (b * d) w x w' := by
  cases h1 : frB a b
  · go_enter Tryz.func95, Tryz.ntmps95
    go_wp2_with fail
    refine (isFrac_any _ _ _).mono ?_
    rw [h1]
    rintro x w1 ⟨rfl, b1⟩
    obtain ⟨⟨x0, x1, -, -⟩, ⟨y0, y1, -, -⟩, c0, c1, f0, f1⟩ := F3.below (box3 w a b c d) b1
    go_wp2_with fail
    refine bodyPost_ret ((F2.store ⟨c0, c1, f0, f1⟩ _ _).results rfl rfl rfl) rfl ?_
    exact givesOp_no (by simp [twoB, h1]) (bel_at (by omega) (by go_grown) b1 _ _)
  · cases h2 : frB c d
    · go_enter Tryz.func95, Tryz.ntmps95
      go_wp2_with fail
      refine (isFrac_any _ _ _).mono ?_
      rw [h1]
      rintro x w1 ⟨rfl, b1⟩
      have C1 := F3.below (box3 w a b c d) b1
      obtain ⟨⟨x0, x1, -, -⟩, ⟨y0, y1, -, -⟩, -⟩ := id C1
      go_wp2_with fail
      refine (isFrac_any _ _ _).mono ?_
      rw [h2]
      rintro x w2 ⟨rfl, b2⟩
      obtain ⟨-, -, c0, c1, f0, f1⟩ := F3.below C1 b2
      go_wp2_with fail
      refine bodyPost_ret ((F2.store ⟨c0, c1, f0, f1⟩ _ _).results rfl rfl rfl) rfl ?_
      exact givesOp_no (by simp [twoB, h2]) (bel_at (by omega) (by go_grown) (bel2 b1 b2) _ _)
    · have HW := Lib.hid (addition_wide h1 h2)
      go_enter Tryz.func95, Tryz.ntmps95
      go_wp2_with fail
      refine (isFrac_any _ _ _).mono ?_
      rw [h1]
      rintro x w1 ⟨rfl, b1⟩
      have C1 := F3.below (box3 w a b c d) b1
      obtain ⟨⟨x0, x1, -, -⟩, ⟨y0, y1, -, -⟩, -⟩ := id C1
      go_wp2_with fail
      refine (isFrac_any _ _ _).mono ?_
      rw [h2]
      rintro x w2 ⟨rfl, b2⟩
      have C2 := F3.below C1 b2
      obtain ⟨⟨u0, u1, -, -⟩, ⟨v0, v1, -, -⟩, -⟩ := id C2
      go_wp2_with fail
      refine (addition_parts _ _ _ _ _ h1 h2).mono ?_
      rintro x w3 ⟨rfl, b3⟩
      have C3 := F3.below C2 b3
      go_wp2_with fail
      refine (quotientOrNone_any _ _ _ HW.out.1 HW.out.2).mono ?_
      rintro x w4 ⟨rfl, b4⟩
      obtain ⟨-, -, c0, c1, f0, f1⟩ := F3.below C3 b4
      go_wp2_with fail
      refine bodyPost_ret ((F2.store ⟨c0, c1, f0, f1⟩ _ _).results rfl rfl rfl) rfl ?_
      exact givesOp_yes (by simp [twoB, h1, h2]) rfl rfl rfl (bel_at (by omega) (by go_grown) (bel2 (bel2 (bel2 b1 b2) b3) b4) _ _)
set_option maxHeartbeats 1000000 in
theorem implAddFracs_any (a b c d : Int) (w : World) : Calls Tryz.prog 81 #[fracV a b, fracV c d] w fun x w' => GivesOp (twoB a b c d) (a * d + c * b) (b * d) w x w' := by
  go_enter Tryz.func81, Tryz.ntmps81
  go_wp2_with fail
  refine (operate_addition _ _ _ _ _).mono ?_
  rintro x w1 ⟨rfl, b1⟩
  obtain ⟨-, -, c0, c1, f0, f1⟩ := F3.below (box3 w a b c d) b1
  go_wp2_with fail
  refine bodyPost_ret ((F2.store ⟨c0, c1, f0, f1⟩ _ _).results rfl rfl rfl) rfl ?_
  exact ⟨rfl, bel_at (by omega) (by go_grown) b1 _ _⟩
set_option maxHeartbeats 1000000 in
theorem operate_multiplication (a b c d : Int) (w : World) : Calls Tryz.prog 95 #[.iface 104 (.agg #[]), fracV a b, fracV c d] w fun x w' => GivesOp (twoB a b c d) (a * c) (b * d) w x w' := by
  cases h1 : frB a b
  · go_enter Tryz.func95, Tryz.ntmps95
    go_wp2_with fail
    refine (isFrac_any _ _ _).mono ?_
    rw [h1]
    rintro x w1 ⟨rfl, b1⟩
    obtain ⟨⟨x0, x1, -, -⟩, ⟨y0, y1, -, -⟩, c0, c1, f0, f1⟩ := F3.below (box3 w a b c d) b1
    go_wp2_with fail
    refine bodyPost_ret ((F2.store ⟨c0, c1, f0, f1⟩ _ _).results rfl rfl rfl) rfl ?_
    exact givesOp_no (by simp [twoB, h1]) (bel_at (by omega) (by go_grown) b1 _ _)
  · cases h2 : frB c d
    · go_enter Tryz.func95, Tryz.ntmps95
      go_wp2_with fail
      refine (isFrac_any _ _ _).mono ?_
      rw [h1]
      rintro x w1 ⟨rfl, b1⟩
      have C1 := F3.below (box3 w a b c d) b1
      obtain ⟨⟨x0, x1, -, -⟩, ⟨y0, y1, -, -⟩, -⟩ := id C1
      go_wp2_with fail
      refine (isFrac_any _ _ _).mono ?_
      rw [h2]
      rintro x w2 ⟨rfl, b2⟩
      obtain ⟨-, -, c0, c1, f0, f1⟩ := F3.below C1 b2
      go_wp2_with fail
      refine bodyPost_ret ((F2.store ⟨c0, c1, f0, f1⟩ _ _).results rfl rfl rfl) rfl ?_
      exact givesOp_no (by simp [twoB, h2]) (bel_at (by omega) (by go_grown) (bel2 b1 b2) _ _)
    · have HW := Lib.hid (multiplication_wide h1 h2)
      go_enter Tryz.func95, Tryz.ntmps95
      go_wp2_with fail
      refine (isFrac_any _ _ _).mono ?_
      rw [h1]
      rintro x w1 ⟨rfl, b1⟩
      have C1 := F3.below (box3 w a b c d) b1
      obtain ⟨⟨x0, x1, -, -⟩, ⟨y0, y1, -, -⟩, -⟩ := id C1
      go_wp2_with fail
      refine (isFrac_any _ _ _).mono ?_
      rw [h2]
      rintro x w2 ⟨rfl, b2⟩
      have C2 := F3.below C1 b2
      obtain ⟨⟨u0, u1, -, -⟩, ⟨v0, v1, -, -⟩, -⟩ := id C2
      go_wp2_with fail
      refine (multiplication_parts _ _ _ _ _ h1 h2).mono ?_
      rintro x w3 ⟨rfl, b3⟩
      have C3 := F3.below C2 b3
      go_wp2_with fail
      refine (quotientOrNone_any _ _ _ HW.out.1 HW.out.2).mono ?_
      rintro x w4 ⟨rfl, b4⟩
      obtain ⟨-, -, c0, c1, f0, f1⟩ := F3.below C3 b4
      go_wp2_with fail
      refine bodyPost_ret ((F2.store ⟨c0, c1, f0, f1⟩ _ _).results rfl rfl rfl) rfl ?_
      exact givesOp_yes (by simp [twoB, h1, h2]) rfl rfl rfl (bel_at (by omega) (by go_grown) (bel2 (bel2 (bel2 b1 b2) b3) b4) _ _)
set_option maxHeartbeats 1000000 in
theorem implMultiplyFracs_any (a b c d : Int) (w : World) : Calls Tryz.prog 80 #[fracV a b, fracV c d] w fun x w' => GivesOp (twoB a b c d) (a * c) (b * d) w x w' := by
  go_enter Tryz.func80, Tryz.ntmps80
  go_wp2_with fail
  refine (operate_multiplication _ _ _ _ _).mono ?_
  rintro x w1 ⟨rfl, b1⟩
  obtain ⟨-, -, c0, c1, f0, f1⟩ := F3.below (box3 w a b c d) b1
  go_wp2_with fail
  refine bodyPost_ret ((F2.store ⟨c0, c1, f0, f1⟩ _ _).results rfl rfl rfl) rfl ?_
  exact ⟨rfl, bel_at (by omega) (by go_grown) b1 _ _⟩
end Go.Proofs.YtklcildhfcomnaaGreatDoor
/-
  Quotients, order, rounding and means, of the program and of the model: what each call returns.
  No condition but that the parts are integers of Go's int, and that a slice reads as the list that is named.
-/
namespace Go.Proofs.YtklcildhfcomnaaGreatDoor
set_option linter.unusedSimpArgs false
set_option linter.unusedVariables false
open Go.ChangeShapes Go.WideShapes Go.ChangeAt Go.RowKit

/-- Are both numbers a quotient's parts. -/
def partB (n : Int) : Bool := inB n (-1000000000000) 1000000000000
theorem partB_wide {n : Int} (h : partB n = true) : wide n := by
  have := (inB_iff _ _ _).1 h
  unfold wide; omega
theorem new1 (w : World) : F2 (w.alloc (.cells #[.int .i64 0, .int .i64 0] 35)) w.heap.size 0 0 := F2.new w 0 0
theorem isPart_any (n : Int) (w : World) : Calls Tryz.prog 86 #[.int .i64 n] w fun e w' => e = .returned (.bool (partB n)) ∧ w = w' := by
  by_cases h2 : -1000000000000 ≤ n
  · by_cases h3 : n ≤ 1000000000000
    all_goals
      go_enter Tryz.func86, Tryz.ntmps86
      go_wp2
      go_ret
      exact ⟨ret_bool (by simp [partB, inB, h2, h3]), rfl⟩
  · go_enter Tryz.func86, Tryz.ntmps86
    go_wp2
    go_ret
    exact ⟨ret_bool (by simp [partB, inB]; omega), rfl⟩
set_option maxHeartbeats 1000000 in
theorem implFracOf_any (n d : Int) (w : World) : Calls Tryz.prog 56 #[.int .i64 n, .int .i64 d] w fun x w' => GivesOp (partB n && partB d) n d w x w' := by
  cases h1 : partB n
  case' true => cases h2 : partB d
  case true.true =>
    have HN := Lib.hid (partB_wide h1)
    have HD := Lib.hid (partB_wide h2)
    go_enter Tryz.func56, Tryz.ntmps56
    go_wp2_with (first | (go_at_call 86; refine (isPart_any _ _).mono ?_; rintro e w' ⟨rfl, rfl⟩) | (go_at_call 87; refine (quotientOrNone_any _ _ _ HN.out HD.out).mono ?_; rintro x w1 ⟨rfl, b1⟩; obtain ⟨c0, c1, f0, f1⟩ := (new1 w).below b1))
    refine bodyPost_ret ((F2.store ⟨c0, c1, f0, f1⟩ _ _).results rfl rfl rfl) rfl ?_
    exact givesOp_yes rfl rfl rfl rfl (bel_at (by omega) (by go_grown) b1 _ _)
  all_goals
    go_enter Tryz.func56, Tryz.ntmps56
    go_wp2_with (go_at_call 86; refine (isPart_any _ _).mono ?_; rintro e w' ⟨rfl, rfl⟩)
    go_returns
    exact givesOp_no (by simp [partB, *]) (by go_grown)
/-- The order of two numbers. -/
def cmpI (x y : Int) : Int := if x < y then -1 else if y < x then 1 else 0
theorem F2.below2 {w w1 : World} {g h : Nat} {a b c d : Int} (H : F2 w g a b ∧ F2 w h c d) (hb : Below w.heap.size w w1) : F2 w1 g a b ∧ F2 w1 h c d := ⟨H.1.below hb, H.2.below hb⟩
def GivesC (g : Bool) (v : Int) (w : World) (x : Ending) (w' : World) : Prop := x = .returned (.tuple #[.int .i64 (okF g v), .bool g]) ∧ Below w.heap.size w w'
theorem givesC_no {g : Bool} {v : Int} {w w' : World} (h : g = false) (hb : Below w.heap.size w w') : GivesC g v w (.returned (.tuple #[.int .i64 0, .bool false])) w' := by subst h; exact ⟨rfl, hb⟩
theorem givesC_yes {g : Bool} {u v : Int} {w w' : World} (h : g = true) (hu : u = v) (hb : Below w.heap.size w w') : GivesC g v w (.returned (.tuple #[.int .i64 u, .bool true])) w' := by subst h hu; exact ⟨rfl, hb⟩
theorem okWide {a b c d : Int} (h1 : frB a b = true) (h2 : frB c d = true) : (-1000000000000000000 ≤ a * d ∧ a * d ≤ 1000000000000000000) ∧ (-1000000000000000000 ≤ c * b ∧ c * b ≤ 1000000000000000000) := by
  obtain ⟨ha, hb⟩ := frB_lim h1
  obtain ⟨hc, hd⟩ := frB_lim h2
  exact ⟨mul9 ha hd, mul9 hc hb⟩
theorem l1SignC_any (n : Int) (w : World) : Calls Tryz.prog 82 #[.int .i64 n] w fun e w' => e = .returned (.int .i64 (cmpI n 0)) ∧ w = w' := by
  go_enter Tryz.func82, Tryz.ntmps82
  go_wp2
  all_goals
    go_ret
    exact ⟨ret_i64 (by unfold cmpI; (repeat' split) <;> omega), rfl⟩
theorem frCmp_any (a b c d : Int) (w : World) (h1 : frB a b = true) (h2 : frB c d = true) : Calls Tryz.prog 49 #[fracV a b, fracV c d] w fun e w' => e = .returned (.int .i64 (cmpI (a * d) (c * b))) ∧ Below w.heap.size w w' := by
  obtain ⟨⟨p1, p2⟩, q1, q2⟩ := okWide h1 h2
  clear h1 h2
  go_enter Tryz.func49, Tryz.ntmps49
  go_wp2_with fail
  refine (l1SignC_any _ _).mono ?_
  rintro e w' ⟨rfl, rfl⟩
  go_wp2
  go_ret
  exact ⟨ret_i64 (by unfold cmpI; (repeat' split) <;> omega), by go_grown⟩
theorem isNaN_any (n : Int) (w : World) : Calls Tryz.prog 71 #[.int .i64 n] w fun e w' => e = .returned (.bool false) ∧ w = w' := by
  go_enter Tryz.func71, Tryz.ntmps71
  go_wp2
  go_ret
  exact ⟨ret_bool (by simp), rfl⟩
theorem cmpCompare_any (x y : Int) (w : World) : Calls Tryz.prog 35 #[.int .i64 x, .int .i64 y] w fun e w' => e = .returned (.int .i64 (cmpI x y)) ∧ w = w' := by
  by_cases h : x < y
  case' neg => by_cases h' : y < x
  all_goals
    go_enter Tryz.func35, Tryz.ntmps35
    go_wp2_with (go_at_call 71; refine (isNaN_any _ _).mono ?_; rintro e w' ⟨rfl, rfl⟩)
    go_ret
    exact ⟨ret_i64 (by unfold cmpI; (repeat' split) <;> omega), rfl⟩
theorem implCompareFracs_any (a b c d : Int) (w : World) : Calls Tryz.prog 14 #[fracV a b, fracV c d] w fun x w' => GivesC (twoB a b c d) (cmpI (a * d) (c * b)) w x w' := by
  cases h1 : frB a b
  · go_enter Tryz.func14, Tryz.ntmps14
    go_wp2_with fail
    refine (isFrac_any _ _ _).mono ?_
    rw [h1]
    rintro x w1 ⟨rfl, b1⟩
    go_wp2_with fail
    go_ret2
    exact givesC_no (by simp [twoB, h1]) (bel2 (by go_grown) b1)
  · cases h2 : frB c d
    · go_enter Tryz.func14, Tryz.ntmps14
      go_wp2_with fail
      refine (isFrac_any _ _ _).mono ?_
      rw [h1]
      rintro x w1 ⟨rfl, b1⟩
      obtain ⟨⟨x0, x1, -, -⟩, ⟨y0, y1, -, -⟩⟩ := F2.below2 (box2 w a b c d) b1
      go_wp2_with fail
      refine (isFrac_any _ _ _).mono ?_
      rw [h2]
      rintro x w2 ⟨rfl, b2⟩
      go_wp2_with fail
      go_ret2
      exact givesC_no (by simp [twoB, h2]) (bel2 (by go_grown) (bel2 b1 b2))
    · obtain ⟨⟨p1, p2⟩, q1, q2⟩ := okWide h1 h2
      go_enter Tryz.func14, Tryz.ntmps14
      go_wp2_with fail
      refine (isFrac_any _ _ _).mono ?_
      rw [h1]
      rintro x w1 ⟨rfl, b1⟩
      have C1 := F2.below2 (box2 w a b c d) b1
      obtain ⟨⟨x0, x1, -, -⟩, ⟨y0, y1, -, -⟩⟩ := id C1
      go_wp2_with fail
      refine (isFrac_any _ _ _).mono ?_
      rw [h2]
      rintro x w2 ⟨rfl, b2⟩
      obtain ⟨⟨u0, u1, -, -⟩, ⟨v0, v1, -, -⟩⟩ := F2.below2 C1 b2
      go_wp2_with fail
      refine (cmpCompare_any _ _ _).mono ?_
      rintro e w' ⟨rfl, rfl⟩
      go_wp2_with fail
      go_ret2
      exact givesC_yes (by simp [twoB, h1, h2]) rfl (bel2 (by go_grown) (bel2 b1 b2))
/-- A quotient rounded down. -/
def floorI (n d : Int) : Int := if n.tmod d < 0 then n.tdiv d - 1 else n.tdiv d
theorem tmod_sign (n d : Int) : (n < 0 ∧ n.tmod d ≠ 0) ↔ n.tmod d < 0 := by
  constructor
  · rintro ⟨h1, h2⟩
    have h3 : (-n).tmod d = -(n.tmod d) := Int.neg_tmod n d
    have h4 := Int.tmod_nonneg d (show 0 ≤ -n by omega)
    omega
  · intro h
    refine ⟨?_, by omega⟩
    by_cases h0 : 0 ≤ n
    · have := Int.tmod_nonneg d h0
      omega
    · omega
theorem tdiv_lim {n d : Int} (h : Lim n) : Lim (n.tdiv d) := by
  have h1 := Int.natAbs_tdiv n d
  have h2 := Nat.div_le_self n.natAbs d.natAbs
  unfold Lim at *
  have h3 : (n.tdiv d).natAbs ≤ n.natAbs := by rw [h1]; exact h2
  omega
theorem floorI_lim {n d : Int} (h : Lim n) : -1000000001 ≤ floorI n d ∧ floorI n d ≤ 1000000001 := by
  have := tdiv_lim (d := d) h
  unfold Lim at this
  unfold floorI
  split <;> omega
theorem wf_lo {n : Int} (h : (Lit.int .i64 n).wf = true) : -9223372036854775808 ≤ n := by
  simp [Lit.wf, IntKind.min, IntKind.max, IntKind.signed, IntKind.bits] at h
  omega
theorem wf_hi {n : Int} (h : (Lit.int .i64 n).wf = true) : n ≤ 9223372036854775807 := by
  simp [Lit.wf, IntKind.min, IntKind.max, IntKind.signed, IntKind.bits] at h
  omega
end Go.Proofs.YtklcildhfcomnaaGreatDoor
/-
  Means of lists, of the program and of the model; copies and comparisons of fractions: what each call returns.
  Condition: the slice reads as the list that is named.
-/
namespace Go.Proofs.YtklcildhfcomnaaGreatDoor
set_option linter.unusedSimpArgs false
set_option linter.unusedVariables false
open Go.ChangeShapes Go.WideShapes Go.ChangeAt Go.RowKit

/-- The sum of a list. -/
def sumI (zs : List Int) : Int := zs.foldl (· + ·) 0
theorem sumI_next (zs : List Int) (k : Nat) (hk : k < zs.length) : sumI (zs.take (k + 1)) = sumI (zs.take k) + gd zs k := by
  unfold sumI; rw [take_succ_gd zs k hk, List.foldl_append]; rfl
theorem sumI_end (zs : List Int) (k : Nat) (hk : ¬ k < zs.length) : sumI (zs.take k) = sumI zs := by rw [List.take_of_length_le (by omega)]
/-- Has the list a mean. -/
def meanB (zs : List Int) : Bool := inB zs.length 1 40 && zs.all finB
theorem fin_bad (zs : List Int) (k : Nat) (hk : k < zs.length) (h : finB (gd zs k) = false) : zs.all finB = false := by
  rw [List.all_eq_false]
  exact ⟨zs[k], List.getElem_mem hk, by rw [gd_eq zs k hk] at h; simpa using h⟩
theorem fin_next (zs : List Int) (k : Nat) (hk : k < zs.length) (h0 : (zs.take k).all finB = true) (h : finB (gd zs k) = true) : (zs.take (k + 1)).all finB = true := by
  rw [take_succ_gd zs k hk, List.all_append, h0]; simpa using h
theorem fin_end (zs : List Int) (k : Nat) (hk : ¬ k < zs.length) (h0 : (zs.take k).all finB = true) : zs.all finB = true := by
  rwa [List.take_of_length_le (by omega)] at h0
theorem fin_at {zs : List Int} (h : zs.all finB = true) (k : Nat) (hk : k < zs.length) : -1000000 ≤ gd zs k ∧ gd zs k ≤ 1000000 := by
  have := List.all_eq_true.1 h zs[k] (List.getElem_mem hk)
  rw [gd_eq zs k hk]
  exact (finB_iff _).1 this
/-- What lay there before a call lies there behind it: two rules for the walk. -/
theorem cellAt {W w1 : World} (b : Below W.heap.size W w1) : ∀ g k, g < W.heap.size → w1.cell? ⟨g, k, none⟩ = W.cell? ⟨g, k, none⟩ := fun g k h => b.cell (p := ⟨g, k, none⟩) h
theorem frozenAt {W w1 : World} (b : Below W.heap.size W w1) : ∀ g k, g < W.heap.size → w1.frozen? ⟨g, k, none⟩ = W.frozen? ⟨g, k, none⟩ := fun g k h => b.frozen (p := ⟨g, k, none⟩) h
/-- One fraction's box: its two cells. -/
abbrev S2 (w' : World) (g : Nat) (a b : Int) : Prop := w'.cell? ⟨g, 0, none⟩ = some (.int .i64 a) ∧ w'.cell? ⟨g, 1, none⟩ = some (.int .i64 b)
theorem S2.new (w : World) (a b : Int) (t : TypeId) : S2 (w.alloc (.cells #[.int .i64 a, .int .i64 b] t)) w.heap.size a b := by
  refine ⟨?_, ?_⟩ <;> simp [World.cell?_alloc_at]
theorem S2.drew {w : World} {g : Nat} {a b : Int} (h : S2 w g a b) : S2 w.drew g a b := h
theorem S2.below {w w' : World} {g : Nat} {a b : Int} (h : S2 w g a b) (hb : Below w.heap.size w w') : S2 w' g a b := by
  obtain ⟨h1, h2⟩ := h
  have l1 := cell_lt h1
  exact ⟨(cellAt hb g 0 l1).trans h1, (cellAt hb g 1 l1).trans h2⟩
theorem S2.alloc {w : World} {g : Nat} {a b : Int} (h : S2 w g a b) (o : Obj) : S2 (w.alloc o) g a b := h.below ((Below.refl _ _).alloc (Nat.le_refl _) o)
theorem F2.far {w : World} {g h i : Nat} {a b : Int} {v : Value} (H : F2 w g a b) (hn : h ≠ g) : F2 (w.setCell ⟨h, i, none⟩ v) g a b := by
  obtain ⟨h1, h2, h3, h4⟩ := H
  refine ⟨(World.cell?_setCell_other _ _ _ _ (by simp [hn])).trans h1, (World.cell?_setCell_other _ _ _ _ (by simp [hn])).trans h2, ?_, ?_⟩ <;> simp [h3, h4]
end Go.Proofs.YtklcildhfcomnaaGreatDoor
/-
  Fractions in lowest terms, as numbers: what is true of them, whatever program makes them.
  Condition: the divisors are not 0.
-/
namespace Go.Proofs.YtklcildhfcomnaaGreatDoor
set_option linter.unusedSimpArgs false
set_option linter.unusedVariables false
open Go.ChangeShapes Go.WideShapes Go.ChangeAt Go.RowKit

theorem sg_dvd (n d : Int) : sg n d ∣ n ∧ sg n d ∣ d := by
  unfold sg gI
  split
  · exact ⟨Int.neg_dvd.2 (Int.gcd_dvd_left ..), Int.neg_dvd.2 (Int.gcd_dvd_right ..)⟩
  · exact ⟨Int.gcd_dvd_left .., Int.gcd_dvd_right ..⟩
theorem sg_abs (n d : Int) : (sg n d).natAbs = Int.gcd n d := by
  unfold sg gI; split <;> simp
/-- A quotient is taken down to lowest terms by one factor. -/
theorem red (n d : Int) (hd : d ≠ 0) : ∃ k, k ≠ 0 ∧ n = loN n d * k ∧ d = loD n d * k ∧ 0 < loD n d ∧ Int.gcd (loN n d) (loD n d) = 1 := by
  obtain ⟨h1, h2⟩ := sg_dvd n d
  have hk := sg_ne (n := n) hd
  have e1 : loN n d * sg n d = n := Int.tdiv_mul_cancel h1
  have e2 : loD n d * sg n d = d := Int.tdiv_mul_cancel h2
  have ha := sg_abs n d
  refine ⟨sg n d, hk, e1.symm, e2.symm, ?_, ?_⟩
  · have hg := gI_pos (n := n) hd
    rcases Int.lt_trichotomy (loD n d) 0 with h | h | h
    · exfalso
      by_cases hn : d < 0
      · have hs : sg n d = -gI n d := sg_neg hn
        have := Int.mul_pos_of_neg_of_neg h (show sg n d < 0 by omega)
        omega
      · have hs : sg n d = gI n d := sg_pos hn
        have := Int.mul_neg_of_neg_of_pos h (show 0 < sg n d by omega)
        omega
    · rw [h, Int.zero_mul] at e2; exact absurd e2.symm hd
    · exact h
  · have hg : Int.gcd n d = Int.gcd (loN n d) (loD n d) * Int.gcd n d := by
      have := Int.gcd_mul_right (loN n d) (sg n d) (loD n d)
      rw [e1, e2, ha] at this
      exact this
    have hp : 0 < Int.gcd n d := by have := gI_pos (n := n) hd; unfold gI at this; omega
    exact Nat.eq_of_mul_eq_mul_right hp (by rw [Nat.one_mul]; exact hg.symm)
theorem cop_dvd {a b q : Int} (h : Int.gcd a b = 1) (hd : b ∣ a * q) : b ∣ q := by
  have h1 : Nat.Coprime b.natAbs a.natAbs := (Nat.coprime_comm).1 h
  have h2 : b.natAbs ∣ a.natAbs * q.natAbs := by rw [← Int.natAbs_mul]; exact Int.natAbs_dvd_natAbs.2 hd
  exact Int.natAbs_dvd_natAbs.1 (h1.dvd_of_dvd_mul_left h2)
/-- There is one fraction in lowest terms. -/
theorem uniq {a b p q : Int} (hb : 0 < b) (hg : Int.gcd a b = 1) (hq : q ≠ 0) (h : p * b = a * q) : loN p q = a ∧ loD p q = b := by
  obtain ⟨k, hk, e1, e2, hQ, hG⟩ := red p q hq
  generalize loN p q = P at *
  generalize loD p q = Q at *
  have h1 : P * b = a * Q := by
    refine Int.eq_of_mul_eq_mul_right hk ?_
    rw [e1, e2] at h
    rw [Int.mul_right_comm, h, Int.mul_assoc]
  have d1 : b ∣ Q := cop_dvd hg ⟨P, by rw [← h1, Int.mul_comm]⟩
  have d2 : Q ∣ b := cop_dvd hG ⟨a, by rw [h1, Int.mul_comm]⟩
  have hQb : Q = b := by
    have l1 := Int.le_of_dvd hQ d1
    have l2 := Int.le_of_dvd hb d2
    omega
  subst hQb
  exact ⟨Int.eq_of_mul_eq_mul_right (by omega) h1, rfl⟩
theorem frB_pos {a b : Int} (h : frB a b = true) : 0 < b ∧ Int.gcd a b = 1 := by
  obtain ⟨-, ⟨h1, -⟩, h2⟩ := frB_bd h
  exact ⟨by omega, by unfold gI at h2; omega⟩
theorem mk_uniq {a b p q : Int} (h : frB a b = true) (hq : q ≠ 0) (e : p * b = a * q) : mkB p q = true ∧ mkN p q = a ∧ mkD p q = b := by
  obtain ⟨hb, hg⟩ := frB_pos h
  obtain ⟨e1, e2⟩ := uniq hb hg hq e
  have hm : mkB p q = true := by unfold mkB; rw [e1, e2, h]; simpa using hq
  exact ⟨hm, by rw [mkN, if_pos hm, e1], by rw [mkD, if_pos hm, e2]⟩
/-- What is made is a fraction, and the same number. -/
theorem mk_parts {p q : Int} (h : mkB p q = true) : q ≠ 0 ∧ frB (mkN p q) (mkD p q) = true ∧ p * mkD p q = mkN p q * q := by
  have hm := h
  unfold mkB at h
  simp only [Bool.and_eq_true, bne_iff_ne, ne_eq] at h
  rw [mkN, mkD, if_pos hm, if_pos hm]
  refine ⟨h.1, h.2, ?_⟩
  obtain ⟨k, -, e1, e2, -, -⟩ := red p q h.1
  generalize loN p q = P at *
  generalize loD p q = Q at *
  rw [e1, e2, Int.mul_right_comm, Int.mul_assoc]
theorem mk_small {n d : Int} (hn : -1000000000 ≤ n ∧ n ≤ 1000000000) (hd : 1 ≤ d ∧ d ≤ 1000000000) : mkB n d = true := by
  obtain ⟨k, hk, e1, e2, hQ, hG⟩ := red n d (by omega)
  have hk1 : 1 ≤ k.natAbs := by omega
  have l1 : (loN n d).natAbs ≤ n.natAbs := by
    have : n.natAbs = (loN n d).natAbs * k.natAbs := by rw [← Int.natAbs_mul, ← e1]
    rw [this]; exact Nat.le_mul_of_pos_right _ hk1
  have l2 : (loD n d).natAbs ≤ d.natAbs := by
    have : d.natAbs = (loD n d).natAbs * k.natAbs := by rw [← Int.natAbs_mul, ← e2]
    rw [this]; exact Nat.le_mul_of_pos_right _ hk1
  have hf : frB (loN n d) (loD n d) = true := by
    unfold frB gI
    rw [(inB_iff _ _ _).2 (by omega), (inB_iff _ _ _).2 (by omega), hG]
    rfl
  unfold mkB
  rw [hf]
  simp; omega
theorem mul_ne {a b : Int} (ha : 0 < a) (hb : 0 < b) : a * b ≠ 0 := Int.ne_of_gt (Int.mul_pos ha hb)
/-- A sum can be taken back. -/
theorem sum_back {a b c d : Int} (h1 : frB a b = true) (h2 : frB c d = true) (hm : mkB (a * d + c * b) (b * d) = true) :
    twoB (mkN (a * d + c * b) (b * d)) (mkD (a * d + c * b) (b * d)) c d = true ∧ mkB (mkN (a * d + c * b) (b * d) * d - c * mkD (a * d + c * b) (b * d)) (mkD (a * d + c * b) (b * d) * d) = true ∧
    mkN (mkN (a * d + c * b) (b * d) * d - c * mkD (a * d + c * b) (b * d)) (mkD (a * d + c * b) (b * d) * d) = a ∧ mkD (mkN (a * d + c * b) (b * d) * d - c * mkD (a * d + c * b) (b * d)) (mkD (a * d + c * b) (b * d) * d) = b := by
  obtain ⟨hq, hf, he⟩ := mk_parts hm
  generalize mkN (a * d + c * b) (b * d) = s at *
  generalize mkD (a * d + c * b) (b * d) = t at *
  have hd := (frB_pos h2).1
  have hb := (frB_pos h1).1
  have ht := (frB_pos hf).1
  refine ⟨by unfold twoB; rw [hf, h2]; rfl, mk_uniq h1 (mul_ne ht hd) ?_⟩
  refine Int.eq_of_mul_eq_mul_right (Int.ne_of_gt hd) ?_
  grind
/-- A product can be divided again. -/
theorem product_back {a b c d : Int} (h1 : frB a b = true) (h2 : frB c d = true) (hc : c ≠ 0) (hm : mkB (a * c) (b * d) = true) :
    twoB (mkN (a * c) (b * d)) (mkD (a * c) (b * d)) c d = true ∧ mkB (mkN (a * c) (b * d) * d) (mkD (a * c) (b * d) * c) = true ∧
    mkN (mkN (a * c) (b * d) * d) (mkD (a * c) (b * d) * c) = a ∧ mkD (mkN (a * c) (b * d) * d) (mkD (a * c) (b * d) * c) = b := by
  obtain ⟨hq, hf, he⟩ := mk_parts hm
  generalize mkN (a * c) (b * d) = s at *
  generalize mkD (a * c) (b * d) = t at *
  have ht := (frB_pos hf).1
  refine ⟨by unfold twoB; rw [hf, h2]; rfl, mk_uniq h1 (Int.mul_ne_zero (Int.ne_of_gt ht) hc) ?_⟩
  grind
/-- The sign of a difference is the order. -/
theorem difference_sign {a b c d : Int} (h1 : frB a b = true) (h2 : frB c d = true) (hm : mkB (a * d - c * b) (b * d) = true) :
    (cmpI (a * d) (c * b) < 0 ↔ mkN (a * d - c * b) (b * d) < 0) ∧ (cmpI (a * d) (c * b) = 0 ↔ mkN (a * d - c * b) (b * d) = 0) := by
  obtain ⟨hq, hf, he⟩ := mk_parts hm
  generalize mkN (a * d - c * b) (b * d) = s at *
  generalize mkD (a * d - c * b) (b * d) = t at *
  have ht := (frB_pos hf).1
  have hbd : 0 < b * d := Int.mul_pos (frB_pos h1).1 (frB_pos h2).1
  generalize b * d = q at *
  have hx : ∀ x : Int, x = a * d - c * b → ((x < 0 ↔ s < 0) ∧ (x = 0 ↔ s = 0)) := fun x hx => by
    rw [← hx] at he
    rcases Int.lt_trichotomy x 0 with h | h | h
    · have l1 := Int.mul_neg_of_neg_of_pos h ht
      have : s < 0 := by
        by_cases h' : s < 0
        · exact h'
        · have := Int.mul_nonneg (show 0 ≤ s by omega) (Int.le_of_lt hbd); omega
      omega
    · subst h
      rw [Int.zero_mul] at he
      have : s = 0 := by
        rcases Int.mul_eq_zero.1 he.symm with h' | h'
        · exact h'
        · omega
      omega
    · have l1 := Int.mul_pos h ht
      have : 0 < s := by
        by_cases h' : 0 < s
        · exact h'
        · have := Int.mul_nonpos_of_nonpos_of_nonneg (show s ≤ 0 by omega) (Int.le_of_lt hbd); omega
      omega
  have := hx _ rfl
  unfold cmpI
  generalize a * d = u at *
  generalize c * b = v at *
  split
  · omega
  · split <;> omega
end Go.Proofs.YtklcildhfcomnaaGreatDoor

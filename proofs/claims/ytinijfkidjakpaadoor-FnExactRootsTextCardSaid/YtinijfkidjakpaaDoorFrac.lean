/-
  The functions on single fractions, of the program and of the model: what each call returns.
  Condition: the integers lie within bounds where a contract names them.
-/
import Derived.Test.YtinijfkidjakpaaDoorList
import Derived.Below
import Derived.OwnWalk
import Derived.Laws.OwnMore
import Derived.LoopTactic
import Derived.Deep.QuietTactic
import Derived.BigQuiet
import Derived.RegionTactic
import Derived.Deep.RegionWith
import Derived.Handy
import Derived.Laws.ResultCell
import Derived.Lib.Hide
namespace Go.Proofs.YtinijfkidjakpaaDoor
set_option linter.unusedSimpArgs false
set_option linter.unusedVariables false
open Go.ChangeShapes Go.WideShapes Go.ChangeAt Go.RowKit

/-! ### Plain facts -/
/-- The greatest common divisor. -/
def gI (a b : Int) : Int := (Int.gcd a b : Int)
theorem gcd_step (a b : Int) : Int.gcd b (a.tmod b) = Int.gcd a b := by
  unfold Int.gcd
  rw [Int.natAbs_tmod, Nat.gcd_comm a.natAbs, Nat.gcd_rec b.natAbs a.natAbs, Nat.gcd_comm]
theorem tmod_lt (a b : Int) (h : b ≠ 0) : (a.tmod b).natAbs < b.natAbs := by
  rw [Int.natAbs_tmod]; exact Nat.mod_lt _ (by omega)
theorem gcd_end (a b x : Int) (h : Int.gcd x 0 = Int.gcd a b) : gI a b = (x.natAbs : Int) := by
  unfold gI; rw [← h]; simp [Int.gcd]
/-- Within what an int holds, with room. -/
def wide (a : Int) : Prop := -4000000000000000000 ≤ a ∧ a ≤ 4000000000000000000
/-- Is it a fraction. -/
def frB (n d : Int) : Bool := inB d 1 1000000000 && (inB n (-1000000000) 1000000000 && gI n d == 1)
/-- The divisor of both parts, with the sign of the second one. -/
def sg (n d : Int) : Int := if d < 0 then -gI n d else gI n d
def loN (n d : Int) : Int := n.tdiv (sg n d)
def loD (n d : Int) : Int := d.tdiv (sg n d)
/-- Is the quotient a fraction; its parts, or 0. -/
def mkB (n d : Int) : Bool := d != 0 && frB (loN n d) (loD n d)
def mkN (n d : Int) : Int := if mkB n d = true then loN n d else 0
def mkD (n d : Int) : Int := if mkB n d = true then loD n d else 0
/-- A fraction's value; what a call gives that makes one. -/
abbrev fracV (n d : Int) : Value := .agg #[.int .i64 n, .int .i64 d]
def GivesF (n d : Int) (b : Bool) (w : World) (e : Ending) (w' : World) : Prop := e = .returned (.tuple #[fracV n d, .bool b]) ∧ Below w.heap.size w w'
theorem wide_tmod {a b : Int} (ha : wide a) (hb : b ≠ 0) (hw : wide b) : wide (a.tmod b) := by
  have := tmod_lt a b hb
  unfold wide at *
  omega
theorem frB_bd {n d : Int} (h : frB n d = true) : (-1000000000 ≤ n ∧ n ≤ 1000000000) ∧ (1 ≤ d ∧ d ≤ 1000000000) ∧ gI n d = 1 := by
  unfold frB at h
  simp only [Bool.and_eq_true, inB_iff, beq_iff_eq] at h
  exact ⟨h.2.1, h.1, h.2.2⟩
theorem gI_pos {n d : Int} (h : d ≠ 0) : 1 ≤ gI n d := by
  unfold gI
  have : 0 < Int.gcd n d := Int.gcd_pos_iff.2 (.inr h)
  omega
theorem gI_le {n d : Int} (h : d ≠ 0) : gI n d ≤ d.natAbs := by
  unfold gI
  have : Int.gcd n d ≤ d.natAbs := Nat.le_of_dvd (by omega) (Nat.gcd_dvd_right _ _)
  omega
theorem sg_ne {n d : Int} (h : d ≠ 0) : sg n d ≠ 0 := by
  have := gI_pos (n := n) h
  unfold sg; split <;> omega
theorem wide_tdiv {a b : Int} (ha : wide a) : wide (a.tdiv b) := by
  have h1 := Int.natAbs_tdiv a b
  have h2 := Nat.div_le_self a.natAbs b.natAbs
  unfold wide at *
  have h3 : (a.tdiv b).natAbs ≤ a.natAbs := by rw [h1]; exact h2
  omega
set_option maxHeartbeats 400000 in
theorem greatestDivisor_any (a b : Int) (w : World) (ha : wide a) (hb : wide b) : Calls Tryd.prog 33 #[.int .i64 a, .int .i64 b] w fun e w' => e = .returned (.int .i64 (gI a b)) ∧ ∃ n, w' = w.drewN n := by
  go_enter Tryd.func33, Tryd.ntmps33
  go_wp2
  go_loopw [0, 1] (fun x y wr => ∃ a' b' : Int, x = .int .i64 a' ∧ y = .int .i64 b' ∧ Hid (wide a') ∧ Hid (wide b') ∧ Hid (Int.gcd a' b' = Int.gcd a b) ∧ ∃ n, wr = w.drewN n) (fun _ y _ => (intOf y).natAbs)
  case atStart => exact ⟨a, b, rfl, rfl, Lib.hid ha, Lib.hid hb, Lib.hid rfl, 0, rfl⟩
  case round =>
    obtain ⟨a', b', rfl, rfl, h1, h2, h3, n, rfl⟩ := hrel
    obtain ⟨hx1, hx2⟩ := h1.out
    obtain ⟨hy1, hy2⟩ := h2.out
    by_cases hz : b' = 0
    · subst hz
      go_wp2
      all_goals
        go_ret
        exact ⟨ret_i64 (by rw [gcd_end a b a' h3.out]; omega), n, rfl⟩
    · have hne : (b' == 0) = false := by simpa using hz
      go_wp2
      go_quiet (fail)
      go_wp2
      go_roundw
      case rel => exact ⟨b', a'.tmod b', rfl, by go_num, h2, Lib.hid (wide_tmod h1.out hz h2.out), Lib.hid (by rw [gcd_step]; exact h3.out), _, World.drewN_drewN _ _ _⟩
      case measure => simp only [intOf]; exact tmod_lt a' b' hz
theorem l1Most_any (a b : Int) (w : World) : Calls Tryd.prog 49 #[.int .i64 a, .int .i64 b] w fun e w' => e = .returned (.int .i64 (max a b)) ∧ w = w' := by
  go_enter Tryd.func49, Tryd.ntmps49
  go_wp2
  all_goals
    go_ret
    exact ⟨ret_i64 (by omega), rfl⟩
theorem l1Abs_any (a : Int) (w : World) (ha : wide a) : Calls Tryd.prog 36 #[.int .i64 a] w fun e w' => e = .returned (.int .i64 (a.natAbs : Int)) ∧ w = w' := by
  obtain ⟨h1, h2⟩ := ha
  go_enter Tryd.func36, Tryd.ntmps36
  go_wp2_with (go_at_call 49; refine (l1Most_any _ _ _).mono ?_; rintro e w' ⟨rfl, rfl⟩)
  go_ret
  exact ⟨ret_i64 (by omega), rfl⟩
set_option maxHeartbeats 400000 in
theorem frGcd_any (a b : Int) (w : World) (ha : wide a) (hb : wide b) : Calls Tryd.prog 28 #[.int .i64 a, .int .i64 b] w fun e w' => e = .returned (.int .i64 (gI a b)) ∧ w = w' := by
  go_enter Tryd.func28, Tryd.ntmps28
  go_wp2
  go_loop [0, 1] (fun x y => ∃ a' b' : Int, x = .int .i64 a' ∧ y = .int .i64 b' ∧ Hid (wide a') ∧ Hid (wide b') ∧ Hid (Int.gcd a' b' = Int.gcd a b)) (fun _ y => (intOf y).natAbs)
  case atStart => exact ⟨a, b, rfl, rfl, Lib.hid ha, Lib.hid hb, Lib.hid rfl⟩
  case round =>
    obtain ⟨a', b', rfl, rfl, h1, h2, h3⟩ := hrel
    obtain ⟨hx1, hx2⟩ := h1.out
    obtain ⟨hy1, hy2⟩ := h2.out
    by_cases hz : b' = 0
    · subst hz
      go_wp2_with (go_at_call 36; refine (l1Abs_any _ _ h1.out).mono ?_; rintro e w' ⟨rfl, rfl⟩)
      all_goals
        go_ret
        exact ⟨ret_i64 (by rw [gcd_end a b a' h3.out]), rfl⟩
    · have hne : (b' == 0) = false := by simpa using hz
      go_wp2
      go_round
      case rel => exact ⟨b', a'.tmod b', rfl, by go_num, h2, Lib.hid (wide_tmod h1.out hz h2.out), Lib.hid (by rw [gcd_step]; exact h3.out)⟩
      case measure => simp only [intOf]; exact tmod_lt a' b' hz
theorem frGood_any (n d : Int) (w : World) : Calls Tryd.prog 29 #[fracV n d] w fun e w' => e = .returned (.bool (frB n d)) ∧ Below w.heap.size w w' := by
  cases hd : inB d 1 1000000000
  · go_enter Tryd.func29, Tryd.ntmps29
    go_wp2_with (go_at_call 18; refine (l1In_any _ _ _ _).mono ?_; rintro e w' ⟨rfl, rfl⟩)
    go_ret
    exact ⟨ret_bool (by simp [frB, hd]), by go_grown⟩
  · cases hn : inB n (-1000000000) 1000000000
    · go_enter Tryd.func29, Tryd.ntmps29
      go_wp2_with (go_at_call 18; refine (l1In_any _ _ _ _).mono ?_; rintro e w' ⟨rfl, rfl⟩)
      go_ret
      exact ⟨ret_bool (by simp [frB, hn]), by go_grown⟩
    · have h1 := (inB_iff _ _ _).1 hd
      have h2 := (inB_iff _ _ _).1 hn
      go_enter Tryd.func29, Tryd.ntmps29
      go_wp2_with (first | (go_at_call 18; refine (l1In_any _ _ _ _).mono ?_; rintro e w' ⟨rfl, rfl⟩) | (go_at_call 28; refine (frGcd_any _ _ _ ?_ ?_).mono ?_; (unfold wide; omega); (unfold wide; omega); rintro e w' ⟨rfl, rfl⟩))
      go_ret
      exact ⟨ret_bool (by simp [frB, hd, hn]), by go_grown⟩
theorem isFrac_any (n d : Int) (w : World) : Calls Tryd.prog 24 #[fracV n d] w fun e w' => e = .returned (.bool (frB n d)) ∧ Below w.heap.size w w' := by
  by_cases h1 : n < -1000000000
  · go_enter Tryd.func24, Tryd.ntmps24
    go_wp2
    go_ret
    exact ⟨ret_bool (by simp [frB, inB]; omega), by go_grown⟩
  · by_cases h2 : 1000000000 < n
    · go_enter Tryd.func24, Tryd.ntmps24
      go_wp2
      go_ret
      exact ⟨ret_bool (by simp [frB, inB]; omega), by go_grown⟩
    · by_cases h3 : d < 1
      · go_enter Tryd.func24, Tryd.ntmps24
        go_wp2
        go_ret
        exact ⟨ret_bool (by simp [frB, inB]; omega), by go_grown⟩
      · by_cases h4 : 1000000000 < d
        · go_enter Tryd.func24, Tryd.ntmps24
          go_wp2
          go_ret
          exact ⟨ret_bool (by simp [frB, inB]; omega), by go_grown⟩
        · have hd : inB d 1 1000000000 = true := (inB_iff _ _ _).2 (by omega)
          have hn : inB n (-1000000000) 1000000000 = true := (inB_iff _ _ _).2 (by omega)
          go_enter Tryd.func24, Tryd.ntmps24
          go_wp2_with (go_at_call 33; refine (greatestDivisor_any _ _ _ ?_ ?_).mono ?_; (unfold wide; omega); (unfold wide; omega); rintro e w' ⟨rfl, nq, rfl⟩)
          go_ret
          exact ⟨ret_bool (by simp [frB, hd, hn]), belN (by go_grown) nq⟩
theorem fracV_eq {a b c d : Int} (h : a = c) (h' : b = d) : fracV a b = fracV c d := by rw [h, h']
theorem givesF_no {n d : Int} {w w' : World} (h : mkB n d = false) (hb : Below w.heap.size w w') : GivesF (mkN n d) (mkD n d) (mkB n d) w (.returned (.tuple #[fracV 0 0, .bool false])) w' := by
  refine ⟨?_, hb⟩
  rw [show mkN n d = 0 from if_neg (by simp [h]), show mkD n d = 0 from if_neg (by simp [h]), h]
theorem givesF_yes {n d q r : Int} {w w' : World} (h : mkB n d = true) (hq : q = loN n d) (hr : r = loD n d) (hb : Below w.heap.size w w') : GivesF (mkN n d) (mkD n d) (mkB n d) w (.returned (.tuple #[fracV q r, .bool true])) w' := by
  refine ⟨?_, hb⟩
  rw [show mkN n d = loN n d from if_pos h, show mkD n d = loD n d from if_pos h, h, hq, hr]
theorem sg_pos {n d : Int} (h : ¬ d < 0) : sg n d = gI n d := if_neg h
theorem sg_neg {n d : Int} (h : d < 0) : sg n d = -gI n d := if_pos h
theorem gI_wide {n d : Int} (h : d ≠ 0) (hw : wide d) : 1 ≤ gI n d ∧ gI n d ≤ 4000000000000000000 := by
  have h1 := gI_pos (n := n) h
  have h2 := gI_le (n := n) h
  unfold wide at hw
  omega
/-- A fraction's two cells in a block of the call's own. -/
def F2 (w : World) (g : Nat) (a b : Int) : Prop := w.cell? ⟨g, 0, none⟩ = some (.int .i64 a) ∧ w.cell? ⟨g, 1, none⟩ = some (.int .i64 b) ∧ w.frozen? ⟨g, 0, none⟩ = false ∧ w.frozen? ⟨g, 1, none⟩ = false
theorem F2.below {w w' : World} {g : Nat} {a b : Int} (h : F2 w g a b) (hb : Below w.heap.size w w') : F2 w' g a b := by
  obtain ⟨h1, h2, h3, h4⟩ := h
  have hg := cell_lt h1
  refine ⟨(hb.cell (p := ⟨g, 0, none⟩) hg).trans h1, (hb.cell (p := ⟨g, 1, none⟩) hg).trans h2, (hb.frozen (p := ⟨g, 0, none⟩) hg).trans h3, (hb.frozen (p := ⟨g, 1, none⟩) hg).trans h4⟩
theorem F2.new (w : World) (a b : Int) : F2 (w.alloc (.cells #[.int .i64 a, .int .i64 b] 31)) w.heap.size a b := by
  refine ⟨?_, ?_, ?_, ?_⟩ <;> simp [go_sem]
theorem F2.old {w : World} {g : Nat} {a b : Int} (h : F2 w g a b) (o : Obj) : F2 (w.alloc o) g a b := h.below ((Below.refl _ _).alloc (Nat.le_refl _) o)
theorem F2.drew {w : World} {g : Nat} {a b : Int} (h : F2 w g a b) : F2 w.drew g a b := h
theorem F2.drewN {w : World} {g : Nat} {a b : Int} (h : F2 w g a b) (n : Nat) : F2 (w.drewN n) g a b := h
theorem F2.new_ {w : World} {g : Nat} (a b : Int) (hg : w.heap.size = g) : F2 (w.alloc (.cells #[.int .i64 a, .int .i64 b] 31)) g a b := hg ▸ F2.new w a b
theorem F2.store {w : World} {g : Nat} {a b : Int} (h : F2 w g a b) (q r : Int) : F2 ((w.setCell ⟨g, 0, none⟩ (.int .i64 q)).setCell ⟨g, 1, none⟩ (.int .i64 r)) g q r := by
  obtain ⟨h1, h2, h3, h4⟩ := h
  have e1 : (w.setCell ⟨g, 0, none⟩ (.int .i64 q)).cell? ⟨g, 0, none⟩ = some (.int .i64 q) := World.cell?_setCell_same _ _ _ h1
  have e2 : (w.setCell ⟨g, 0, none⟩ (.int .i64 q)).cell? ⟨g, 1, none⟩ = some (.int .i64 b) := (World.cell?_setCell_other _ _ _ _ (by simp)).trans h2
  refine ⟨(World.cell?_setCell_other _ _ _ _ (by simp)).trans e1, World.cell?_setCell_same _ _ _ e2, ?_, ?_⟩ <;> simp [h3, h4]
theorem F2.load {w : World} {g : Nat} {a b : Int} (h : F2 w g a b) : (loadVar 31 ⟨g, 0, none⟩).run Tryd.prog w = .ok (fracV a b) w := by
  obtain ⟨h1, h2, -, -⟩ := h
  simp [loadVar, go_sem, h1, h2]
/-- A struct in a cell and a slot are handed back. -/
theorem F2.results {w : World} {g : Nat} {a b : Int} (h : F2 w g a b) {fn : Func} {p u : Tmp} {ts : Array Value} {v : Value} (hr : fn.results = #[.cell p 31, .tmp u]) (hp : ts.getD p undef = .pointer (some ⟨g, 0, none⟩)) (hu : ts.getD u undef = v) : (results fn ts).run Tryd.prog w = .ok (.tuple #[fracV a b, v]) w := by
  rw [results_cell_tmp hr, hp, hu]
  rw [show (asAddr (Value.pointer (some ⟨g, 0, none⟩))).run Tryd.prog w = .ok ⟨g, 0, none⟩ w from rfl]
  simp only [Result.andThen]
  rw [h.load]
theorem bel_two {w W w1 : World} (b0 : Below w.heap.size w W) (b1 : Below W.heap.size W w1) (u v : Value) : Below w.heap.size w ((w1.setCell ⟨w.heap.size, 0, none⟩ u).setCell ⟨w.heap.size, 1, none⟩ v) :=
  ((bel2 b0 b1).setCell (Nat.le_refl _) u).setCell (Nat.le_refl _) v
set_option maxHeartbeats 1000000 in
theorem frMake_any (n d : Int) (w : World) (hn : wide n) (hd : wide d) : Calls Tryd.prog 20 #[.int .i64 n, .int .i64 d] w fun e w' => GivesF (mkN n d) (mkD n d) (mkB n d) w e w' := by
  by_cases hz : d = 0
  · subst hz
    go_enter Tryd.func20, Tryd.ntmps20
    go_wp2
    go_returns
    exact givesF_no (by simp [mkB]) (by go_grown)
  · obtain ⟨g, hg⟩ : ∃ g, g = gI n d := ⟨_, rfl⟩
    have hgb := gI_wide (n := n) hz hd
    rw [← hg] at hgb
    obtain ⟨hg1, hg2⟩ := hgb
    have HG := Lib.hid hg
    have hdz : (d == 0) = false := by simpa using hz
    have HD := Lib.hid hd
    have HN := Lib.hid hn
    obtain ⟨q, hq⟩ : ∃ q, q = loN n d := ⟨_, rfl⟩
    obtain ⟨r, hr⟩ : ∃ r, r = loD n d := ⟨_, rfl⟩
    have hqw : wide q := by rw [hq]; exact wide_tdiv hn
    have hrw : wide r := by rw [hr]; exact wide_tdiv hd
    have hm : mkB n d = frB q r := by unfold mkB; rw [← hq, ← hr]; simp [hz]
    have HM := Lib.hid hm
    have HQ := Lib.hid hq
    have HR := Lib.hid hr
    obtain ⟨hq1, hq2⟩ := hqw
    obtain ⟨hr1, hr2⟩ := hrw
    clear hm
    by_cases hneg : d < 0
    · have hs := sg_neg (n := n) hneg
      rw [← hg] at hs
      have e1 : n.tdiv (-g) = q := by rw [hq, ← hs]; rfl
      have e2 : d.tdiv (-g) = r := by rw [hr, ← hs]; rfl
      have hgn : (-g == 0) = false := by simp; omega
      clear hs hq hr hg
      cases hB : frB q r
      all_goals have HB := Lib.hid (HM.out.trans hB)
      all_goals
        go_enter Tryd.func20, Tryd.ntmps20
        go_wp2_with (go_at_call 28; refine (frGcd_any _ _ _ HN.out HD.out).mono ?_; rw [← HG.out]; rintro e w' ⟨rfl, rfl⟩)
        go_region
        all_goals
          go_wp2_with (go_at_call 29; refine (frGood_any _ _ _).mono ?_; rintro e w1 ⟨rfl, b1⟩; obtain ⟨c0, c1, f0, f1⟩ := ((F2.new w 0 0).old (.cells #[.int .i64 q, .int .i64 r] 31)).drew.below b1; obtain ⟨c2, c3, -, -⟩ := (F2.new_ (w := w.alloc (.cells #[.int .i64 0, .int .i64 0] 31)) (g := w.heap.size + 1) q r (World.size_alloc _ _)).drew.below b1)
          have C0 : F2 w1 w.heap.size 0 0 := ⟨c0, c1, f0, f1⟩
          refine bodyPost_ret ((C0.store _ _).results rfl rfl rfl) rfl ?_
          have B0 := bel_two ((((Below.refl _ _).alloc (Nat.le_refl _) _).alloc (by simp) _).drew) b1
          first | exact givesF_no HB.out (B0 _ _) | exact givesF_yes HB.out HQ.out HR.out (B0 _ _)
    · have hs := sg_pos (n := n) hneg
      rw [← hg] at hs
      have e1 : n.tdiv g = q := by rw [hq, ← hs]; rfl
      have e2 : d.tdiv g = r := by rw [hr, ← hs]; rfl
      have hgn : (g == 0) = false := by simp; omega
      clear hs hq hr hg
      cases hB : frB q r
      all_goals have HB := Lib.hid (HM.out.trans hB)
      all_goals
        go_enter Tryd.func20, Tryd.ntmps20
        go_wp2_with (go_at_call 28; refine (frGcd_any _ _ _ HN.out HD.out).mono ?_; rw [← HG.out]; rintro e w' ⟨rfl, rfl⟩)
        go_region
        all_goals
          go_wp2_with (go_at_call 29; refine (frGood_any _ _ _).mono ?_; rintro e w1 ⟨rfl, b1⟩; obtain ⟨c0, c1, f0, f1⟩ := ((F2.new w 0 0).old (.cells #[.int .i64 q, .int .i64 r] 31)).drew.below b1; obtain ⟨c2, c3, -, -⟩ := (F2.new_ (w := w.alloc (.cells #[.int .i64 0, .int .i64 0] 31)) (g := w.heap.size + 1) q r (World.size_alloc _ _)).drew.below b1)
          have C0 : F2 w1 w.heap.size 0 0 := ⟨c0, c1, f0, f1⟩
          refine bodyPost_ret ((C0.store _ _).results rfl rfl rfl) rfl ?_
          have B0 := bel_two ((((Below.refl _ _).alloc (Nat.le_refl _) _).alloc (by simp) _).drew) b1
          first | exact givesF_no HB.out (B0 _ _) | exact givesF_yes HB.out HQ.out HR.out (B0 _ _)
set_option maxHeartbeats 1000000 in
theorem quotientOrNone_any (n d : Int) (w : World) (hn : wide n) (hd : wide d) : Calls Tryd.prog 44 #[.int .i64 n, .int .i64 d] w fun e w' => GivesF (mkN n d) (mkD n d) (mkB n d) w e w' := by
  by_cases hz : d = 0
  · subst hz
    go_enter Tryd.func44, Tryd.ntmps44
    go_wp2
    go_returns
    exact givesF_no (by simp [mkB]) (by go_grown)
  · obtain ⟨g, hg⟩ : ∃ g, g = gI n d := ⟨_, rfl⟩
    have hgb := gI_wide (n := n) hz hd
    rw [← hg] at hgb
    obtain ⟨hg1, hg2⟩ := hgb
    have HG := Lib.hid hg
    have hdz : (d == 0) = false := by simpa using hz
    have HD := Lib.hid hd
    have HN := Lib.hid hn
    obtain ⟨q, hq⟩ : ∃ q, q = loN n d := ⟨_, rfl⟩
    obtain ⟨r, hr⟩ : ∃ r, r = loD n d := ⟨_, rfl⟩
    have hqw : wide q := by rw [hq]; exact wide_tdiv hn
    have hrw : wide r := by rw [hr]; exact wide_tdiv hd
    have hm : mkB n d = frB q r := by unfold mkB; rw [← hq, ← hr]; simp [hz]
    have HM := Lib.hid hm
    have HQ := Lib.hid hq
    have HR := Lib.hid hr
    obtain ⟨hq1, hq2⟩ := hqw
    obtain ⟨hr1, hr2⟩ := hrw
    clear hm
    by_cases hneg : d < 0
    · have hs := sg_neg (n := n) hneg
      rw [← hg] at hs
      have e1 : n.tdiv (-g) = q := by rw [hq, ← hs]; rfl
      have e2 : d.tdiv (-g) = r := by rw [hr, ← hs]; rfl
      have hgn : (-g == 0) = false := by simp; omega
      clear hs hq hr hg
      cases hB : frB q r
      all_goals have HB := Lib.hid (HM.out.trans hB)
      all_goals
        go_enter Tryd.func44, Tryd.ntmps44
        go_wp2_with (go_at_call 33; refine (greatestDivisor_any _ _ _ HN.out HD.out).mono ?_; rw [← HG.out]; rintro e w' ⟨rfl, nq, rfl⟩)
        go_region
        all_goals
          go_wp2_with (go_at_call 24; refine (isFrac_any _ _ _).mono ?_; rintro e w1 ⟨rfl, b1⟩; obtain ⟨c0, c1, f0, f1⟩ := (((F2.new w 0 0).drewN (nq + 1)).old (.cells #[.int .i64 q, .int .i64 r] 31)).below b1; obtain ⟨c2, c3, -, -⟩ := (F2.new_ (w := (w.alloc (.cells #[.int .i64 0, .int .i64 0] 31)).drewN (nq + 1)) (g := w.heap.size + 1) q r (World.size_alloc _ _)).below b1)
          have C0 : F2 w1 w.heap.size 0 0 := ⟨c0, c1, f0, f1⟩
          refine bodyPost_ret ((C0.store _ _).results rfl rfl rfl) rfl ?_
          have B0 := bel_two ((belN ((Below.refl _ _).alloc (Nat.le_refl _) _) (nq + 1)).alloc (show w.heap.size ≤ (w.alloc _).heap.size by simp) _) b1
          first | exact givesF_no HB.out (B0 _ _) | exact givesF_yes HB.out HQ.out HR.out (B0 _ _)
    · have hs := sg_pos (n := n) hneg
      rw [← hg] at hs
      have e1 : n.tdiv g = q := by rw [hq, ← hs]; rfl
      have e2 : d.tdiv g = r := by rw [hr, ← hs]; rfl
      have hgn : (g == 0) = false := by simp; omega
      clear hs hq hr hg
      cases hB : frB q r
      all_goals have HB := Lib.hid (HM.out.trans hB)
      all_goals
        go_enter Tryd.func44, Tryd.ntmps44
        go_wp2_with (go_at_call 33; refine (greatestDivisor_any _ _ _ HN.out HD.out).mono ?_; rw [← HG.out]; rintro e w' ⟨rfl, nq, rfl⟩)
        go_region
        all_goals
          go_wp2_with (go_at_call 24; refine (isFrac_any _ _ _).mono ?_; rintro e w1 ⟨rfl, b1⟩; obtain ⟨c0, c1, f0, f1⟩ := (((F2.new w 0 0).drewN (nq + 1)).old (.cells #[.int .i64 q, .int .i64 r] 31)).below b1; obtain ⟨c2, c3, -, -⟩ := (F2.new_ (w := (w.alloc (.cells #[.int .i64 0, .int .i64 0] 31)).drewN (nq + 1)) (g := w.heap.size + 1) q r (World.size_alloc _ _)).below b1)
          have C0 : F2 w1 w.heap.size 0 0 := ⟨c0, c1, f0, f1⟩
          refine bodyPost_ret ((C0.store _ _).results rfl rfl rfl) rfl ?_
          have B0 := bel_two ((belN ((Below.refl _ _).alloc (Nat.le_refl _) _) (nq + 1)).alloc (show w.heap.size ≤ (w.alloc _).heap.size by simp) _) b1
          first | exact givesF_no HB.out (B0 _ _) | exact givesF_yes HB.out HQ.out HR.out (B0 _ _)
end Go.Proofs.YtinijfkidjakpaaDoor

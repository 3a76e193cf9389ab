/-
  The operations on two fractions, of the program and of the model: what each call returns.
  No condition but that the parts are integers of Go's int.
-/
import Derived.Test.YtnfijdkggnijaaaDoorFrac
namespace Go.Proofs.YtnfijdkggnijaaaDoor
set_option linter.unusedSimpArgs false
set_option linter.unusedVariables false
open Go.ChangeShapes Go.WideShapes Go.ChangeAt Go.RowKit

/-- Are both fractions. -/
def twoB (a b c d : Int) : Bool := frB a b && frB c d
/-- A number, or 0. -/
def okF (g : Bool) (v : Int) : Int := if g = true then v else 0
/-- What an operation gives whose parts are n and e. -/
def GivesOp (g : Bool) (n e : Int) (w : World) (x : Ending) (w' : World) : Prop := GivesF (okF g (mkN n e)) (okF g (mkD n e)) (g && mkB n e) w x w'
theorem givesOp_no {g : Bool} {n e : Int} {w w' : World} (h : g = false) (hb : Below w.heap.size w w') : GivesOp g n e w (.returned (.tuple #[fracV 0 0, .bool false])) w' := by
  subst h; exact ⟨rfl, hb⟩
theorem givesOp_yes {g : Bool} {n e q r : Int} {b : Bool} {w w' : World} (h : g = true) (hq : q = mkN n e) (hr : r = mkD n e) (hm : b = mkB n e) (hb : Below w.heap.size w w') : GivesOp g n e w (.returned (.tuple #[fracV q r, .bool b])) w' := by
  subst h hq hr hm; exact ⟨rfl, hb⟩
theorem mul9 {a b : Int} (ha : -1000000000 ≤ a ∧ a ≤ 1000000000) (hb : -1000000000 ≤ b ∧ b ≤ 1000000000) : -1000000000000000000 ≤ a * b ∧ a * b ≤ 1000000000000000000 := by
  have h1 : (a * b).natAbs ≤ 1000000000 * 1000000000 := by
    rw [Int.natAbs_mul]; exact Nat.mul_le_mul (by omega) (by omega)
  omega
/-- The parts lie within a fraction's limits. -/
def Lim (a : Int) : Prop := -1000000000 ≤ a ∧ a ≤ 1000000000
theorem frB_lim {n d : Int} (h : frB n d = true) : Lim n ∧ Lim d := by
  have := frB_bd h
  unfold Lim
  omega
theorem bel_at {w W w1 : World} {g : Nat} (hg : w.heap.size ≤ g) (b0 : Below w.heap.size w W) (b1 : Below W.heap.size W w1) (u v : Value) : Below w.heap.size w ((w1.setCell ⟨g, 0, none⟩ u).setCell ⟨g, 1, none⟩ v) :=
  ((bel2 b0 b1).setCell hg u).setCell hg v
/-- Two boxed fractions and a cell for the result. -/
theorem box2 (w : World) (a b c d : Int) : F2 ((w.alloc (.cells #[.int .i64 a, .int .i64 b] 24)).alloc (.cells #[.int .i64 c, .int .i64 d] 24)) w.heap.size a b ∧ F2 ((w.alloc (.cells #[.int .i64 a, .int .i64 b] 24)).alloc (.cells #[.int .i64 c, .int .i64 d] 24)) (w.heap.size + 1) c d :=
  ⟨(F2.new w a b).old _, F2.new_ c d (World.size_alloc _ _)⟩
theorem box3 (w : World) (a b c d : Int) : F2 (((w.alloc (.cells #[.int .i64 a, .int .i64 b] 24)).alloc (.cells #[.int .i64 c, .int .i64 d] 24)).alloc (.cells #[.int .i64 0, .int .i64 0] 24)) w.heap.size a b ∧ F2 (((w.alloc (.cells #[.int .i64 a, .int .i64 b] 24)).alloc (.cells #[.int .i64 c, .int .i64 d] 24)).alloc (.cells #[.int .i64 0, .int .i64 0] 24)) (w.heap.size + 1) c d ∧ F2 (((w.alloc (.cells #[.int .i64 a, .int .i64 b] 24)).alloc (.cells #[.int .i64 c, .int .i64 d] 24)).alloc (.cells #[.int .i64 0, .int .i64 0] 24)) (w.heap.size + 1 + 1) 0 0 :=
  ⟨((F2.new w a b).old _).old _, (F2.new_ c d (World.size_alloc _ _)).old _, F2.new_ 0 0 (by simp)⟩
theorem frTwo_any (a b c d : Int) (w : World) : Calls Tryd.prog 25 #[fracV a b, fracV c d] w fun e w' => e = .returned (.bool (twoB a b c d)) ∧ Below w.heap.size w w' := by
  cases h1 : frB a b
  · go_enter Tryd.func25, Tryd.ntmps25
    go_wp2_with (go_at_call 28; refine (frGood_any _ _ _).mono ?_; rintro e w1 ⟨rfl, b1⟩)
    go_ret
    exact ⟨ret_bool (by simp [twoB, h1]), bel2 (by go_grown) b1⟩
  · go_enter Tryd.func25, Tryd.ntmps25
    go_wp2_with fail
    refine (frGood_any _ _ _).mono ?_
    rintro e w1 ⟨rfl, b1⟩
    obtain ⟨x2, x3, -, -⟩ := (box2 w a b c d).2.below b1
    go_wp2_with fail
    refine (frGood_any _ _ _).mono ?_
    rintro e w2 ⟨rfl, b2⟩
    go_wp2_with fail
    go_ret
    exact ⟨ret_bool (by simp [twoB, h1]), bel2 (by go_grown) (bel2 b1 b2)⟩
set_option maxHeartbeats 1000000 in
theorem frMul_any (a b c d : Int) (w : World) (h1 : frB a b = true) (h2 : frB c d = true) : Calls Tryd.prog 26 #[fracV a b, fracV c d] w fun x w' => GivesF (mkN (a * c) (b * d)) (mkD (a * c) (b * d)) (mkB (a * c) (b * d)) w x w' := by
  obtain ⟨ha, hb⟩ := frB_lim h1
  obtain ⟨hc, hd⟩ := frB_lim h2
  obtain ⟨p1, p2⟩ := mul9 ha hd
  obtain ⟨q1, q2⟩ := mul9 hc hb
  obtain ⟨r1, r2⟩ := mul9 hb hd
  obtain ⟨s1, s2⟩ := mul9 ha hc
  obtain ⟨t1, t2⟩ := mul9 hb hc
  clear ha hb hc hd h1 h2
  go_enter Tryd.func26, Tryd.ntmps26
  go_wp2_with fail
  refine (frMake_any _ _ _ ?_ ?_).mono ?_
  · unfold wide; omega
  · unfold wide; omega
  rintro x w1 ⟨rfl, b1⟩
  have C0 := (box3 w a b c d).2.2.below b1
  obtain ⟨c0, c1, f0, f1⟩ := C0
  go_wp2_with fail
  refine bodyPost_ret ((F2.store ⟨c0, c1, f0, f1⟩ _ _).results rfl rfl rfl) rfl ?_
  exact ⟨rfl, bel_at (by omega) (by go_grown) b1 _ _⟩
set_option maxHeartbeats 1000000 in
theorem multiplication_parts (a b c d : Int) (w : World) (h1 : frB a b = true) (h2 : frB c d = true) : Calls Tryd.prog 104 #[.agg #[], fracV a b, fracV c d] w fun x w' => x = .returned (.tuple #[.int .i64 (a * c), .int .i64 (b * d)]) ∧ Below w.heap.size w w' := by
  obtain ⟨ha, hb⟩ := frB_lim h1
  obtain ⟨hc, hd⟩ := frB_lim h2
  obtain ⟨p1, p2⟩ := mul9 ha hd
  obtain ⟨q1, q2⟩ := mul9 hc hb
  obtain ⟨r1, r2⟩ := mul9 hb hd
  obtain ⟨s1, s2⟩ := mul9 ha hc
  obtain ⟨t1, t2⟩ := mul9 hb hc
  clear ha hb hc hd h1 h2
  go_enter Tryd.func104, Tryd.ntmps104
  go_wp2
  go_quiet (fail)
  go_wp2
  go_ret2
  exact ⟨rfl, belN (by go_grown) nq⟩
set_option maxHeartbeats 1000000 in
theorem frDiv_any (a b c d : Int) (w : World) (h1 : frB a b = true) (h2 : frB c d = true) : Calls Tryd.prog 27 #[fracV a b, fracV c d] w fun x w' => GivesF (mkN (a * d) (b * c)) (mkD (a * d) (b * c)) (mkB (a * d) (b * c)) w x w' := by
  obtain ⟨ha, hb⟩ := frB_lim h1
  obtain ⟨hc, hd⟩ := frB_lim h2
  obtain ⟨p1, p2⟩ := mul9 ha hd
  obtain ⟨q1, q2⟩ := mul9 hc hb
  obtain ⟨r1, r2⟩ := mul9 hb hd
  obtain ⟨s1, s2⟩ := mul9 ha hc
  obtain ⟨t1, t2⟩ := mul9 hb hc
  clear ha hb hc hd h1 h2
  go_enter Tryd.func27, Tryd.ntmps27
  go_wp2_with fail
  refine (frMake_any _ _ _ ?_ ?_).mono ?_
  · unfold wide; omega
  · unfold wide; omega
  rintro x w1 ⟨rfl, b1⟩
  have C0 := (box3 w a b c d).2.2.below b1
  obtain ⟨c0, c1, f0, f1⟩ := C0
  go_wp2_with fail
  refine bodyPost_ret ((F2.store ⟨c0, c1, f0, f1⟩ _ _).results rfl rfl rfl) rfl ?_
  exact ⟨rfl, bel_at (by omega) (by go_grown) b1 _ _⟩
set_option maxHeartbeats 1000000 in
theorem division_parts (a b c d : Int) (w : World) (h1 : frB a b = true) (h2 : frB c d = true) : Calls Tryd.prog 105 #[.agg #[], fracV a b, fracV c d] w fun x w' => x = .returned (.tuple #[.int .i64 (a * d), .int .i64 (b * c)]) ∧ Below w.heap.size w w' := by
  obtain ⟨ha, hb⟩ := frB_lim h1
  obtain ⟨hc, hd⟩ := frB_lim h2
  obtain ⟨p1, p2⟩ := mul9 ha hd
  obtain ⟨q1, q2⟩ := mul9 hc hb
  obtain ⟨r1, r2⟩ := mul9 hb hd
  obtain ⟨s1, s2⟩ := mul9 ha hc
  obtain ⟨t1, t2⟩ := mul9 hb hc
  clear ha hb hc hd h1 h2
  go_enter Tryd.func105, Tryd.ntmps105
  go_wp2
  go_quiet (fail)
  go_wp2
  go_ret2
  exact ⟨rfl, belN (by go_grown) nq⟩
theorem F3.below {w w1 : World} {g h k : Nat} {a b c d : Int} (H : F2 w g a b ∧ F2 w h c d ∧ F2 w k 0 0) (hb : Below w.heap.size w w1) : F2 w1 g a b ∧ F2 w1 h c d ∧ F2 w1 k 0 0 := ⟨H.1.below hb, H.2.1.below hb, H.2.2.below hb⟩
theorem addition_wide {a b c d : Int} (h1 : frB a b = true) (h2 : frB c d = true) : wide (a * d + c * b) ∧ wide (b * d) := by
  obtain ⟨ha, hb⟩ := frB_lim h1
  obtain ⟨hc, hd⟩ := frB_lim h2
  have p := mul9 ha hd
  have q := mul9 hc hb
  have r := mul9 hb hd
  have s := mul9 ha hc
  have t := mul9 hb hc
  unfold wide
  omega
theorem subtraction_wide {a b c d : Int} (h1 : frB a b = true) (h2 : frB c d = true) : wide (a * d - c * b) ∧ wide (b * d) := by
  obtain ⟨ha, hb⟩ := frB_lim h1
  obtain ⟨hc, hd⟩ := frB_lim h2
  have p := mul9 ha hd
  have q := mul9 hc hb
  have r := mul9 hb hd
  have s := mul9 ha hc
  have t := mul9 hb hc
  unfold wide
  omega
theorem multiplication_wide {a b c d : Int} (h1 : frB a b = true) (h2 : frB c d = true) : wide (a * c) ∧ wide (b * d) := by
  obtain ⟨ha, hb⟩ := frB_lim h1
  obtain ⟨hc, hd⟩ := frB_lim h2
  have p := mul9 ha hd
  have q := mul9 hc hb
  have r := mul9 hb hd
  have s := mul9 ha hc
  have t := mul9 hb hc
  unfold wide
  omega
theorem division_wide {a b c d : Int} (h1 : frB a b = true) (h2 : frB c d = true) : wide (a * d) ∧ wide (b * c) := by
  obtain ⟨ha, hb⟩ := frB_lim h1
  obtain ⟨hc, hd⟩ := frB_lim h2
  have p := mul9 ha hd
  have q := mul9 hc hb
  have r := mul9 hb hd
  have s := mul9 ha hc
  have t := mul9 hb hc
  unfold wide
  omega
set_option maxHeartbeats 1000000 in
theorem specMultiplyFracs_any (a b c d : Int) (w : World) : Calls Tryd.prog 6 #[fracV a b, fracV c d] w fun x w' => GivesOp (twoB a b c d) (a * c) (b * d) w x w' := by
  cases hg : twoB a b c d
  · go_enter Tryd.func6, Tryd.ntmps6
    go_wp2_with fail
    refine (frTwo_any _ _ _ _ _).mono ?_
    rw [hg]
    rintro x w1 ⟨rfl, b1⟩
    obtain ⟨⟨x0, x1, -, -⟩, ⟨y0, y1, -, -⟩, c0, c1, f0, f1⟩ := F3.below (box3 w a b c d) b1
    go_wp2_with fail
    refine bodyPost_ret ((F2.store ⟨c0, c1, f0, f1⟩ _ _).results rfl rfl rfl) rfl ?_
    exact givesOp_no rfl (bel_at (by omega) (by go_grown) b1 _ _)
  · have h1 : frB a b = true := by unfold twoB at hg; simp at hg; exact hg.1
    have h2 : frB c d = true := by unfold twoB at hg; simp at hg; exact hg.2
    go_enter Tryd.func6, Tryd.ntmps6
    go_wp2_with fail
    refine (frTwo_any _ _ _ _ _).mono ?_
    rw [hg]
    rintro x w1 ⟨rfl, b1⟩
    have C1 := F3.below (box3 w a b c d) b1
    obtain ⟨⟨x0, x1, -, -⟩, ⟨y0, y1, -, -⟩, -⟩ := id C1
    go_wp2_with fail
    refine (frMul_any _ _ _ _ _ h1 h2).mono ?_
    rintro x w2 ⟨rfl, b2⟩
    obtain ⟨-, -, c0, c1, f0, f1⟩ := F3.below C1 b2
    go_wp2_with fail
    refine bodyPost_ret ((F2.store ⟨c0, c1, f0, f1⟩ _ _).results rfl rfl rfl) rfl ?_
    exact givesOp_yes rfl rfl rfl rfl (bel_at (by omega) (by go_grown) (bel2 b1 b2) _ _)
set_option maxHeartbeats 1000000 in
theorem operate_multiplication (a b c d : Int) (w : World) : Calls Tryd.prog 24 #[.iface 43 (.agg #[]), fracV a b, fracV c d] w fun x w' => GivesOp (twoB a b c d) (a * c) (b * d) w x w' := by
  cases h1 : frB a b
  · go_enter Tryd.func24, Tryd.ntmps24
    go_wp2_with fail
    refine (isFrac_any _ _ _).mono ?_
    rw [h1]
    rintro x w1 ⟨rfl, b1⟩
    obtain ⟨⟨x0, x1, -, -⟩, ⟨y0, y1, -, -⟩, c0, c1, f0, f1⟩ := F3.below (box3 w a b c d) b1
    go_wp2_with fail
    refine bodyPost_ret ((F2.store ⟨c0, c1, f0, f1⟩ _ _).results rfl rfl rfl) rfl ?_
    exact givesOp_no (by simp [twoB, h1]) (bel_at (by omega) (by go_grown) b1 _ _)
  · cases h2 : frB c d
    · go_enter Tryd.func24, Tryd.ntmps24
      go_wp2_with fail
      refine (isFrac_any _ _ _).mono ?_
      rw [h1]
      rintro x w1 ⟨rfl, b1⟩
      have C1 := F3.below (box3 w a b c d) b1
      obtain ⟨⟨x0, x1, -, -⟩, ⟨y0, y1, -, -⟩, -⟩ := id C1
      go_wp2_with fail
      refine (isFrac_any _ _ _).mono ?_
      rw [h2]
      rintro x w2 ⟨rfl, b2⟩
      obtain ⟨-, -, c0, c1, f0, f1⟩ := F3.below C1 b2
      go_wp2_with fail
      refine bodyPost_ret ((F2.store ⟨c0, c1, f0, f1⟩ _ _).results rfl rfl rfl) rfl ?_
      exact givesOp_no (by simp [twoB, h2]) (bel_at (by omega) (by go_grown) (bel2 b1 b2) _ _)
    · have HW := Lib.hid (multiplication_wide h1 h2)
      go_enter Tryd.func24, Tryd.ntmps24
      go_wp2_with fail
      refine (isFrac_any _ _ _).mono ?_
      rw [h1]
      rintro x w1 ⟨rfl, b1⟩
      have C1 := F3.below (box3 w a b c d) b1
      obtain ⟨⟨x0, x1, -, -⟩, ⟨y0, y1, -, -⟩, -⟩ := id C1
      go_wp2_with fail
      refine (isFrac_any _ _ _).mono ?_
      rw [h2]
      rintro x w2 ⟨rfl, b2⟩
      have C2 := F3.below C1 b2
      obtain ⟨⟨u0, u1, -, -⟩, ⟨v0, v1, -, -⟩, -⟩ := id C2
      go_wp2_with fail
      refine (multiplication_parts _ _ _ _ _ h1 h2).mono ?_
      rintro x w3 ⟨rfl, b3⟩
      have C3 := F3.below C2 b3
      go_wp2_with fail
      refine (quotientOrNone_any _ _ _ HW.out.1 HW.out.2).mono ?_
      rintro x w4 ⟨rfl, b4⟩
      obtain ⟨-, -, c0, c1, f0, f1⟩ := F3.below C3 b4
      go_wp2_with fail
      refine bodyPost_ret ((F2.store ⟨c0, c1, f0, f1⟩ _ _).results rfl rfl rfl) rfl ?_
      exact givesOp_yes (by simp [twoB, h1, h2]) rfl rfl rfl (bel_at (by omega) (by go_grown) (bel2 (bel2 (bel2 b1 b2) b3) b4) _ _)
set_option maxHeartbeats 1000000 in
theorem implMultiplyFracs_any (a b c d : Int) (w : World) : Calls Tryd.prog 5 #[fracV a b, fracV c d] w fun x w' => GivesOp (twoB a b c d) (a * c) (b * d) w x w' := by
  go_enter Tryd.func5, Tryd.ntmps5
  go_wp2_with fail
  refine (operate_multiplication _ _ _ _ _).mono ?_
  rintro x w1 ⟨rfl, b1⟩
  obtain ⟨-, -, c0, c1, f0, f1⟩ := F3.below (box3 w a b c d) b1
  go_wp2_with fail
  refine bodyPost_ret ((F2.store ⟨c0, c1, f0, f1⟩ _ _).results rfl rfl rfl) rfl ?_
  exact ⟨rfl, bel_at (by omega) (by go_grown) b1 _ _⟩
set_option maxHeartbeats 1000000 in
theorem specDivideFracs_any (a b c d : Int) (w : World) : Calls Tryd.prog 8 #[fracV a b, fracV c d] w fun x w' => GivesOp (twoB a b c d) (a * d) (b * c) w x w' := by
  cases hg : twoB a b c d
  · go_enter Tryd.func8, Tryd.ntmps8
    go_wp2_with fail
    refine (frTwo_any _ _ _ _ _).mono ?_
    rw [hg]
    rintro x w1 ⟨rfl, b1⟩
    obtain ⟨⟨x0, x1, -, -⟩, ⟨y0, y1, -, -⟩, c0, c1, f0, f1⟩ := F3.below (box3 w a b c d) b1
    go_wp2_with fail
    refine bodyPost_ret ((F2.store ⟨c0, c1, f0, f1⟩ _ _).results rfl rfl rfl) rfl ?_
    exact givesOp_no rfl (bel_at (by omega) (by go_grown) b1 _ _)
  · have h1 : frB a b = true := by unfold twoB at hg; simp at hg; exact hg.1
    have h2 : frB c d = true := by unfold twoB at hg; simp at hg; exact hg.2
    go_enter Tryd.func8, Tryd.ntmps8
    go_wp2_with fail
    refine (frTwo_any _ _ _ _ _).mono ?_
    rw [hg]
    rintro x w1 ⟨rfl, b1⟩
    have C1 := F3.below (box3 w a b c d) b1
    obtain ⟨⟨x0, x1, -, -⟩, ⟨y0, y1, -, -⟩, -⟩ := id C1
    go_wp2_with fail
    refine (frDiv_any _ _ _ _ _ h1 h2).mono ?_
    rintro x w2 ⟨rfl, b2⟩
    obtain ⟨-, -, c0, c1, f0, f1⟩ := F3.below C1 b2
    go_wp2_with fail
    refine bodyPost_ret ((F2.store ⟨c0, c1, f0, f1⟩ _ _).results rfl rfl rfl) rfl ?_
    exact givesOp_yes rfl rfl rfl rfl (bel_at (by omega) (by go_grown) (bel2 b1 b2) _ _)
set_option maxHeartbeats 1000000 in
theorem operate_division (a b c d : Int) (w : World) : Calls Tryd.prog 24 #[.iface 45 (.agg #[]), fracV a b, fracV c d] w fun x w' => GivesOp (twoB a b c d) (a * d) (b * c) w x w' := by
  cases h1 : frB a b
  · go_enter Tryd.func24, Tryd.ntmps24
    go_wp2_with fail
    refine (isFrac_any _ _ _).mono ?_
    rw [h1]
    rintro x w1 ⟨rfl, b1⟩
    obtain ⟨⟨x0, x1, -, -⟩, ⟨y0, y1, -, -⟩, c0, c1, f0, f1⟩ := F3.below (box3 w a b c d) b1
    go_wp2_with fail
    refine bodyPost_ret ((F2.store ⟨c0, c1, f0, f1⟩ _ _).results rfl rfl rfl) rfl ?_
    exact givesOp_no (by simp [twoB, h1]) (bel_at (by omega) (by go_grown) b1 _ _)
  · cases h2 : frB c d
    · go_enter Tryd.func24, Tryd.ntmps24
      go_wp2_with fail
      refine (isFrac_any _ _ _).mono ?_
      rw [h1]
      rintro x w1 ⟨rfl, b1⟩
      have C1 := F3.below (box3 w a b c d) b1
      obtain ⟨⟨x0, x1, -, -⟩, ⟨y0, y1, -, -⟩, -⟩ := id C1
      go_wp2_with fail
      refine (isFrac_any _ _ _).mono ?_
      rw [h2]
      rintro x w2 ⟨rfl, b2⟩
      obtain ⟨-, -, c0, c1, f0, f1⟩ := F3.below C1 b2
      go_wp2_with fail
      refine bodyPost_ret ((F2.store ⟨c0, c1, f0, f1⟩ _ _).results rfl rfl rfl) rfl ?_
      exact givesOp_no (by simp [twoB, h2]) (bel_at (by omega) (by go_grown) (bel2 b1 b2) _ _)
    · have HW := Lib.hid (division_wide h1 h2)
      go_enter Tryd.func24, Tryd.ntmps24
      go_wp2_with fail
      refine (isFrac_any _ _ _).mono ?_
      rw [h1]
      rintro x w1 ⟨rfl, b1⟩
      have C1 := F3.below (box3 w a b c d) b1
      obtain ⟨⟨x0, x1, -, -⟩, ⟨y0, y1, -, -⟩, -⟩ := id C1
      go_wp2_with fail
      refine (isFrac_any _ _ _).mono ?_
      rw [h2]
      rintro x w2 ⟨rfl, b2⟩
      have C2 := F3.below C1 b2
      obtain ⟨⟨u0, u1, -, -⟩, ⟨v0, v1, -, -⟩, -⟩ := id C2
      go_wp2_with fail
      refine (division_parts _ _ _ _ _ h1 h2).mono ?_
      rintro x w3 ⟨rfl, b3⟩
      have C3 := F3.below C2 b3
      go_wp2_with fail
      refine (quotientOrNone_any _ _ _ HW.out.1 HW.out.2).mono ?_
      rintro x w4 ⟨rfl, b4⟩
      obtain ⟨-, -, c0, c1, f0, f1⟩ := F3.below C3 b4
      go_wp2_with fail
      refine bodyPost_ret ((F2.store ⟨c0, c1, f0, f1⟩ _ _).results rfl rfl rfl) rfl ?_
      exact givesOp_yes (by simp [twoB, h1, h2]) rfl rfl rfl (bel_at (by omega) (by go_grown) (bel2 (bel2 (bel2 b1 b2) b3) b4) _ _)
set_option maxHeartbeats 1000000 in
theorem implDivideFracs_any (a b c d : Int) (w : World) : Calls Tryd.prog 7 #[fracV a b, fracV c d] w fun x w' => GivesOp (twoB a b c d) (a * d) (b * c) w x w' := by
  go_enter Tryd.func7, Tryd.ntmps7
  go_wp2_with fail
  refine (operate_division _ _ _ _ _).mono ?_
  rintro x w1 ⟨rfl, b1⟩
  obtain ⟨-, -, c0, c1, f0, f1⟩ := F3.below (box3 w a b c d) b1
  go_wp2_with fail
  refine bodyPost_ret ((F2.store ⟨c0, c1, f0, f1⟩ _ _).results rfl rfl rfl) rfl ?_
  exact ⟨rfl, bel_at (by omega) (by go_grown) b1 _ _⟩
end Go.Proofs.YtnfijdkggnijaaaDoor

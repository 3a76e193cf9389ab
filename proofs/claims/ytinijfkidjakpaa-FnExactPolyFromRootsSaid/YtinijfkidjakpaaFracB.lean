/-
  The operations on two fractions, of the program and of the model: what each call returns.
  No condition but that the parts are integers of Go's int.
-/
import Derived.Test.YtinijfkidjakpaaFrac
namespace Go.Proofs.Ytinijfkidjakpaa
set_option linter.unusedSimpArgs false
set_option linter.unusedVariables false
open Go.ChangeShapes Go.WideShapes Go.ChangeAt Go.RowKit

/-- Are both fractions. -/
def twoB (a b c d : Int) : Bool := frB a b && frB c d
/-- A number, or 0. -/
def okF (g : Bool) (v : Int) : Int := if g = true then v else 0
/-- What an operation gives whose parts are n and e. -/
def GivesOp (g : Bool) (n e : Int) (w : World) (x : Ending) (w' : World) : Prop := GivesF (okF g (mkN n e)) (okF g (mkD n e)) (g && mkB n e) w x w'
theorem givesOp_no {g : Bool} {n e : Int} {w w' : World} (h : g = false) (hb : Below w.heap.size w w') : GivesOp g n e w (.returned (.tuple #[fracV 0 0, .bool false])) w' := by
  subst h; exact ⟨rfl, hb⟩
theorem givesOp_yes {g : Bool} {n e q r : Int} {b : Bool} {w w' : World} (h : g = true) (hq : q = mkN n e) (hr : r = mkD n e) (hm : b = mkB n e) (hb : Below w.heap.size w w') : GivesOp g n e w (.returned (.tuple #[fracV q r, .bool b])) w' := by
  subst h hq hr hm; exact ⟨rfl, hb⟩
theorem mul9 {a b : Int} (ha : -1000000000 ≤ a ∧ a ≤ 1000000000) (hb : -1000000000 ≤ b ∧ b ≤ 1000000000) : -1000000000000000000 ≤ a * b ∧ a * b ≤ 1000000000000000000 := by
  have h1 : (a * b).natAbs ≤ 1000000000 * 1000000000 := by
    rw [Int.natAbs_mul]; exact Nat.mul_le_mul (by omega) (by omega)
  omega
/-- The parts lie within a fraction's limits. -/
def Lim (a : Int) : Prop := -1000000000 ≤ a ∧ a ≤ 1000000000
theorem frB_lim {n d : Int} (h : frB n d = true) : Lim n ∧ Lim d := by
  have := frB_bd h
  unfold Lim
  omega
theorem bel_at {w W w1 : World} {g : Nat} (hg : w.heap.size ≤ g) (b0 : Below w.heap.size w W) (b1 : Below W.heap.size W w1) (u v : Value) : Below w.heap.size w ((w1.setCell ⟨g, 0, none⟩ u).setCell ⟨g, 1, none⟩ v) :=
  ((bel2 b0 b1).setCell hg u).setCell hg v
/-- Two boxed fractions and a cell for the result. -/
theorem box2 (w : World) (a b c d : Int) : F2 ((w.alloc (.cells #[.int .i64 a, .int .i64 b] 38)).alloc (.cells #[.int .i64 c, .int .i64 d] 38)) w.heap.size a b ∧ F2 ((w.alloc (.cells #[.int .i64 a, .int .i64 b] 38)).alloc (.cells #[.int .i64 c, .int .i64 d] 38)) (w.heap.size + 1) c d :=
  ⟨(F2.new w a b).old _, F2.new_ c d (World.size_alloc _ _)⟩
theorem box3 (w : World) (a b c d : Int) : F2 (((w.alloc (.cells #[.int .i64 a, .int .i64 b] 38)).alloc (.cells #[.int .i64 c, .int .i64 d] 38)).alloc (.cells #[.int .i64 0, .int .i64 0] 38)) w.heap.size a b ∧ F2 (((w.alloc (.cells #[.int .i64 a, .int .i64 b] 38)).alloc (.cells #[.int .i64 c, .int .i64 d] 38)).alloc (.cells #[.int .i64 0, .int .i64 0] 38)) (w.heap.size + 1) c d ∧ F2 (((w.alloc (.cells #[.int .i64 a, .int .i64 b] 38)).alloc (.cells #[.int .i64 c, .int .i64 d] 38)).alloc (.cells #[.int .i64 0, .int .i64 0] 38)) (w.heap.size + 1 + 1) 0 0 :=
  ⟨((F2.new w a b).old _).old _, (F2.new_ c d (World.size_alloc _ _)).old _, F2.new_ 0 0 (by simp)⟩
set_option maxHeartbeats 1000000 in
theorem frAdd_any (a b c d : Int) (w : World) (h1 : frB a b = true) (h2 : frB c d = true) : Calls Try.prog 51 #[fracV a b, fracV c d] w fun x w' => GivesF (mkN (a * d + c * b) (b * d)) (mkD (a * d + c * b) (b * d)) (mkB (a * d + c * b) (b * d)) w x w' := by
  obtain ⟨ha, hb⟩ := frB_lim h1
  obtain ⟨hc, hd⟩ := frB_lim h2
  obtain ⟨p1, p2⟩ := mul9 ha hd
  obtain ⟨q1, q2⟩ := mul9 hc hb
  obtain ⟨r1, r2⟩ := mul9 hb hd
  obtain ⟨s1, s2⟩ := mul9 ha hc
  obtain ⟨t1, t2⟩ := mul9 hb hc
  clear ha hb hc hd h1 h2
  go_enter Try.func51, Try.ntmps51
  go_wp2_with fail
  refine (frMake_any _ _ _ ?_ ?_).mono ?_
  · unfold wide; omega
  · unfold wide; omega
  rintro x w1 ⟨rfl, b1⟩
  have C0 := (box3 w a b c d).2.2.below b1
  obtain ⟨c0, c1, f0, f1⟩ := C0
  go_wp2_with fail
  refine bodyPost_ret ((F2.store ⟨c0, c1, f0, f1⟩ _ _).results rfl rfl rfl) rfl ?_
  exact ⟨rfl, bel_at (by omega) (by go_grown) b1 _ _⟩
set_option maxHeartbeats 1000000 in
theorem addition_parts (a b c d : Int) (w : World) (h1 : frB a b = true) (h2 : frB c d = true) : Calls Try.prog 131 #[.agg #[], fracV a b, fracV c d] w fun x w' => x = .returned (.tuple #[.int .i64 (a * d + c * b), .int .i64 (b * d)]) ∧ Below w.heap.size w w' := by
  obtain ⟨ha, hb⟩ := frB_lim h1
  obtain ⟨hc, hd⟩ := frB_lim h2
  obtain ⟨p1, p2⟩ := mul9 ha hd
  obtain ⟨q1, q2⟩ := mul9 hc hb
  obtain ⟨r1, r2⟩ := mul9 hb hd
  obtain ⟨s1, s2⟩ := mul9 ha hc
  obtain ⟨t1, t2⟩ := mul9 hb hc
  clear ha hb hc hd h1 h2
  go_enter Try.func131, Try.ntmps131
  go_wp2
  go_quiet (fail)
  go_wp2
  go_ret2
  exact ⟨rfl, belN (by go_grown) nq⟩
set_option maxHeartbeats 1000000 in
theorem frMul_any (a b c d : Int) (w : World) (h1 : frB a b = true) (h2 : frB c d = true) : Calls Try.prog 49 #[fracV a b, fracV c d] w fun x w' => GivesF (mkN (a * c) (b * d)) (mkD (a * c) (b * d)) (mkB (a * c) (b * d)) w x w' := by
  obtain ⟨ha, hb⟩ := frB_lim h1
  obtain ⟨hc, hd⟩ := frB_lim h2
  obtain ⟨p1, p2⟩ := mul9 ha hd
  obtain ⟨q1, q2⟩ := mul9 hc hb
  obtain ⟨r1, r2⟩ := mul9 hb hd
  obtain ⟨s1, s2⟩ := mul9 ha hc
  obtain ⟨t1, t2⟩ := mul9 hb hc
  clear ha hb hc hd h1 h2
  go_enter Try.func49, Try.ntmps49
  go_wp2_with fail
  refine (frMake_any _ _ _ ?_ ?_).mono ?_
  · unfold wide; omega
  · unfold wide; omega
  rintro x w1 ⟨rfl, b1⟩
  have C0 := (box3 w a b c d).2.2.below b1
  obtain ⟨c0, c1, f0, f1⟩ := C0
  go_wp2_with fail
  refine bodyPost_ret ((F2.store ⟨c0, c1, f0, f1⟩ _ _).results rfl rfl rfl) rfl ?_
  exact ⟨rfl, bel_at (by omega) (by go_grown) b1 _ _⟩
set_option maxHeartbeats 1000000 in
theorem multiplication_parts (a b c d : Int) (w : World) (h1 : frB a b = true) (h2 : frB c d = true) : Calls Try.prog 130 #[.agg #[], fracV a b, fracV c d] w fun x w' => x = .returned (.tuple #[.int .i64 (a * c), .int .i64 (b * d)]) ∧ Below w.heap.size w w' := by
  obtain ⟨ha, hb⟩ := frB_lim h1
  obtain ⟨hc, hd⟩ := frB_lim h2
  obtain ⟨p1, p2⟩ := mul9 ha hd
  obtain ⟨q1, q2⟩ := mul9 hc hb
  obtain ⟨r1, r2⟩ := mul9 hb hd
  obtain ⟨s1, s2⟩ := mul9 ha hc
  obtain ⟨t1, t2⟩ := mul9 hb hc
  clear ha hb hc hd h1 h2
  go_enter Try.func130, Try.ntmps130
  go_wp2
  go_quiet (fail)
  go_wp2
  go_ret2
  exact ⟨rfl, belN (by go_grown) nq⟩
theorem F3.below {w w1 : World} {g h k : Nat} {a b c d : Int} (H : F2 w g a b ∧ F2 w h c d ∧ F2 w k 0 0) (hb : Below w.heap.size w w1) : F2 w1 g a b ∧ F2 w1 h c d ∧ F2 w1 k 0 0 := ⟨H.1.below hb, H.2.1.below hb, H.2.2.below hb⟩
theorem addition_wide {a b c d : Int} (h1 : frB a b = true) (h2 : frB c d = true) : wide (a * d + c * b) ∧ wide (b * d) := by
  obtain ⟨ha, hb⟩ := frB_lim h1
  obtain ⟨hc, hd⟩ := frB_lim h2
  have p := mul9 ha hd
  have q := mul9 hc hb
  have r := mul9 hb hd
  have s := mul9 ha hc
  have t := mul9 hb hc
  unfold wide
  omega
theorem subtraction_wide {a b c d : Int} (h1 : frB a b = true) (h2 : frB c d = true) : wide (a * d - c * b) ∧ wide (b * d) := by
  obtain ⟨ha, hb⟩ := frB_lim h1
  obtain ⟨hc, hd⟩ := frB_lim h2
  have p := mul9 ha hd
  have q := mul9 hc hb
  have r := mul9 hb hd
  have s := mul9 ha hc
  have t := mul9 hb hc
  unfold wide
  omega
theorem multiplication_wide {a b c d : Int} (h1 : frB a b = true) (h2 : frB c d = true) : wide (a * c) ∧ wide (b * d) := by
  obtain ⟨ha, hb⟩ := frB_lim h1
  obtain ⟨hc, hd⟩ := frB_lim h2
  have p := mul9 ha hd
  have q := mul9 hc hb
  have r := mul9 hb hd
  have s := mul9 ha hc
  have t := mul9 hb hc
  unfold wide
  omega
theorem division_wide {a b c d : Int} (h1 : frB a b = true) (h2 : frB c d = true) : wide (a * d) ∧ wide (b * c) := by
  obtain ⟨ha, hb⟩ := frB_lim h1
  obtain ⟨hc, hd⟩ := frB_lim h2
  have p := mul9 ha hd
  have q := mul9 hc hb
  have r := mul9 hb hd
  have s := mul9 ha hc
  have t := mul9 hb hc
  unfold wide
  omega
set_option maxHeartbeats 1000000 in
theorem operate_addition (a b c d : Int) (w : World) : Calls Try.prog 95 #[.iface 88 (.agg #[]), fracV a b, fracV c d] w fun x w' => GivesOp (twoB a b c d) (a * d + c * b) (b * d) w x w' := by
  cases h1 : frB a b
  · go_enter Try.func95, Try.ntmps95
    go_wp2_with fail
    refine (isFrac_any _ _ _).mono ?_
    rw [h1]
    rintro x w1 ⟨rfl, b1⟩
    obtain ⟨⟨x0, x1, -, -⟩, ⟨y0, y1, -, -⟩, c0, c1, f0, f1⟩ := F3.below (box3 w a b c d) b1
    go_wp2_with fail
    refine bodyPost_ret ((F2.store ⟨c0, c1, f0, f1⟩ _ _).results rfl rfl rfl) rfl ?_
    exact givesOp_no (by simp [twoB, h1]) (bel_at (by omega) (by go_grown) b1 _ _)
  · cases h2 : frB c d
    · go_enter Try.func95, Try.ntmps95
      go_wp2_with fail
      refine (isFrac_any _ _ _).mono ?_
      rw [h1]
      rintro x w1 ⟨rfl, b1⟩
      have C1 := F3.below (box3 w a b c d) b1
      obtain ⟨⟨x0, x1, -, -⟩, ⟨y0, y1, -, -⟩, -⟩ := id C1
      go_wp2_with fail
      refine (isFrac_any _ _ _).mono ?_
      rw [h2]
      rintro x w2 ⟨rfl, b2⟩
      obtain ⟨-, -, c0, c1, f0, f1⟩ := F3.below C1 b2
      go_wp2_with fail
      refine bodyPost_ret ((F2.store ⟨c0, c1, f0, f1⟩ _ _).results rfl rfl rfl) rfl ?_
      exact givesOp_no (by simp [twoB, h2]) (bel_at (by omega) (by go_grown) (bel2 b1 b2) _ _)
    · have HW := Lib.hid (addition_wide h1 h2)
      go_enter Try.func95, Try.ntmps95
      go_wp2_with fail
      refine (isFrac_any _ _ _).mono ?_
      rw [h1]
      rintro x w1 ⟨rfl, b1⟩
      have C1 := F3.below (box3 w a b c d) b1
      obtain ⟨⟨x0, x1, -, -⟩, ⟨y0, y1, -, -⟩, -⟩ := id C1
      go_wp2_with fail
      refine (isFrac_any _ _ _).mono ?_
      rw [h2]
      rintro x w2 ⟨rfl, b2⟩
      have C2 := F3.below C1 b2
      obtain ⟨⟨u0, u1, -, -⟩, ⟨v0, v1, -, -⟩, -⟩ := id C2
      go_wp2_with fail
      refine (addition_parts _ _ _ _ _ h1 h2).mono ?_
      rintro x w3 ⟨rfl, b3⟩
      have C3 := F3.below C2 b3
      go_wp2_with fail
      refine (quotientOrNone_any _ _ _ HW.out.1 HW.out.2).mono ?_
      rintro x w4 ⟨rfl, b4⟩
      obtain ⟨-, -, c0, c1, f0, f1⟩ := F3.below C3 b4
      go_wp2_with fail
      refine bodyPost_ret ((F2.store ⟨c0, c1, f0, f1⟩ _ _).results rfl rfl rfl) rfl ?_
      exact givesOp_yes (by simp [twoB, h1, h2]) rfl rfl rfl (bel_at (by omega) (by go_grown) (bel2 (bel2 (bel2 b1 b2) b3) b4) _ _)
set_option maxHeartbeats 1000000 in
theorem implAddFracs_any (a b c d : Int) (w : World) : Calls Try.prog 81 #[fracV a b, fracV c d] w fun x w' => GivesOp (twoB a b c d) (a * d + c * b) (b * d) w x w' := by
  go_enter Try.func81, Try.ntmps81
  go_wp2_with fail
  refine (operate_addition _ _ _ _ _).mono ?_
  rintro x w1 ⟨rfl, b1⟩
  obtain ⟨-, -, c0, c1, f0, f1⟩ := F3.below (box3 w a b c d) b1
  go_wp2_with fail
  refine bodyPost_ret ((F2.store ⟨c0, c1, f0, f1⟩ _ _).results rfl rfl rfl) rfl ?_
  exact ⟨rfl, bel_at (by omega) (by go_grown) b1 _ _⟩
set_option maxHeartbeats 1000000 in
theorem operate_multiplication (a b c d : Int) (w : World) : Calls Try.prog 95 #[.iface 87 (.agg #[]), fracV a b, fracV c d] w fun x w' => GivesOp (twoB a b c d) (a * c) (b * d) w x w' := by
  cases h1 : frB a b
  · go_enter Try.func95, Try.ntmps95
    go_wp2_with fail
    refine (isFrac_any _ _ _).mono ?_
    rw [h1]
    rintro x w1 ⟨rfl, b1⟩
    obtain ⟨⟨x0, x1, -, -⟩, ⟨y0, y1, -, -⟩, c0, c1, f0, f1⟩ := F3.below (box3 w a b c d) b1
    go_wp2_with fail
    refine bodyPost_ret ((F2.store ⟨c0, c1, f0, f1⟩ _ _).results rfl rfl rfl) rfl ?_
    exact givesOp_no (by simp [twoB, h1]) (bel_at (by omega) (by go_grown) b1 _ _)
  · cases h2 : frB c d
    · go_enter Try.func95, Try.ntmps95
      go_wp2_with fail
      refine (isFrac_any _ _ _).mono ?_
      rw [h1]
      rintro x w1 ⟨rfl, b1⟩
      have C1 := F3.below (box3 w a b c d) b1
      obtain ⟨⟨x0, x1, -, -⟩, ⟨y0, y1, -, -⟩, -⟩ := id C1
      go_wp2_with fail
      refine (isFrac_any _ _ _).mono ?_
      rw [h2]
      rintro x w2 ⟨rfl, b2⟩
      obtain ⟨-, -, c0, c1, f0, f1⟩ := F3.below C1 b2
      go_wp2_with fail
      refine bodyPost_ret ((F2.store ⟨c0, c1, f0, f1⟩ _ _).results rfl rfl rfl) rfl ?_
      exact givesOp_no (by simp [twoB, h2]) (bel_at (by omega) (by go_grown) (bel2 b1 b2) _ _)
    · have HW := Lib.hid (multiplication_wide h1 h2)
      go_enter Try.func95, Try.ntmps95
      go_wp2_with fail
      refine (isFrac_any _ _ _).mono ?_
      rw [h1]
      rintro x w1 ⟨rfl, b1⟩
      have C1 := F3.below (box3 w a b c d) b1
      obtain ⟨⟨x0, x1, -, -⟩, ⟨y0, y1, -, -⟩, -⟩ := id C1
      go_wp2_with fail
      refine (isFrac_any _ _ _).mono ?_
      rw [h2]
      rintro x w2 ⟨rfl, b2⟩
      have C2 := F3.below C1 b2
      obtain ⟨⟨u0, u1, -, -⟩, ⟨v0, v1, -, -⟩, -⟩ := id C2
      go_wp2_with fail
      refine (multiplication_parts _ _ _ _ _ h1 h2).mono ?_
      rintro x w3 ⟨rfl, b3⟩
      have C3 := F3.below C2 b3
      go_wp2_with fail
      refine (quotientOrNone_any _ _ _ HW.out.1 HW.out.2).mono ?_
      rintro x w4 ⟨rfl, b4⟩
      obtain ⟨-, -, c0, c1, f0, f1⟩ := F3.below C3 b4
      go_wp2_with fail
      refine bodyPost_ret ((F2.store ⟨c0, c1, f0, f1⟩ _ _).results rfl rfl rfl) rfl ?_
      exact givesOp_yes (by simp [twoB, h1, h2]) rfl rfl rfl (bel_at (by omega) (by go_grown) (bel2 (bel2 (bel2 b1 b2) b3) b4) _ _)
set_option maxHeartbeats 1000000 in
theorem implMultiplyFracs_any (a b c d : Int) (w : World) : Calls Try.prog 80 #[fracV a b, fracV c d] w fun x w' => GivesOp (twoB a b c d) (a * c) (b * d) w x w' := by
  go_enter Try.func80, Try.ntmps80
  go_wp2_with fail
  refine (operate_multiplication _ _ _ _ _).mono ?_
  rintro x w1 ⟨rfl, b1⟩
  obtain ⟨-, -, c0, c1, f0, f1⟩ := F3.below (box3 w a b c d) b1
  go_wp2_with fail
  refine bodyPost_ret ((F2.store ⟨c0, c1, f0, f1⟩ _ _).results rfl rfl rfl) rfl ?_
  exact ⟨rfl, bel_at (by omega) (by go_grown) b1 _ _⟩
end Go.Proofs.Ytinijfkidjakpaa

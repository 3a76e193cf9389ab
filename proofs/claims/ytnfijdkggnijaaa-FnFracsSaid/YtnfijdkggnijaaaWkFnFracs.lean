/-
  Sums and differences of fractions answer as the model, sums are taken back, and order is the sign of the difference.
  No condition: every two slices of bytes.
-/
import Derived.Test.YtnfijdkggnijaaaRows
import Derived.WalkKit
import Derived.ProofKit
import Derived.OpenShut
import Derived.ShutString
import Derived.Below
import Derived.Carry
import Derived.Lib.SmallJoins
import Derived.SizedLaws
import Derived.Test.YtnfijdkggnijaaaDrawF
import Derived.Deep.DeepCutAuto
namespace Go.Proofs.Ytnfijdkggnijaaa.fnFracs
set_option linter.unusedSimpArgs false
set_option linter.unusedVariables false
open Go.ChangeShapes Go.WideShapes Go.ChangeAt Go.RowKit
open Go.ChangeMaps (open_string shut_string)
set_option linter.unusedVariables false
/-- What an operation gives, by letters. -/
theorem op_at {g : Bool} {n e s t : Int} {o : Bool} {w : World} {x : Ending} {w' : World} (hs : s = okF g (mkN n e)) (ht : t = okF g (mkD n e)) (ho : o = (g && mkB n e)) (h : GivesOp g n e w x w') : x = .returned (.tuple #[fracV s t, .bool o]) ∧ Below w.heap.size w w' := by
  subst hs ht ho; exact h
theorem cmp_at {g o : Bool} {v q : Int} {w : World} {x : Ending} {w' : World} (hq : q = okF g v) (ho : o = g) (h : GivesC g v w x w') : x = .returned (.tuple #[.int .i64 q, .bool o]) ∧ Below w.heap.size w w' := by
  subst hq ho; exact h
theorem frB_zero : frB 0 0 = false := by decide
/-- What an operation gives is a fraction if it says so. -/
theorem op_frac {g : Bool} {n e s t : Int} {o : Bool} (hs : s = okF g (mkN n e)) (ht : t = okF g (mkD n e)) (ho : o = (g && mkB n e)) : frB s t = o := by
  subst hs ht ho
  cases g
  · exact frB_zero
  · cases hm : mkB n e
    · simp only [okF, mkN, mkD, hm, if_pos]
      simp [frB_zero]
    · simp only [okF, if_pos, Bool.true_and]
      exact (mk_parts hm).2.1
theorem op_yes {g : Bool} {n e s t : Int} {o : Bool} (hs : s = okF g (mkN n e)) (ht : t = okF g (mkD n e)) (ho : o = (g && mkB n e)) (h : o = true) : g = true ∧ mkB n e = true ∧ s = mkN n e ∧ t = mkD n e := by
  subst hs ht ho
  simp only [Bool.and_eq_true] at h
  obtain ⟨h1, h2⟩ := h
  subst h1
  exact ⟨rfl, h2, rfl, rfl⟩
/-- A sum taken back, in the letters of the walk. -/
theorem back_at {a b c d s t : Int} {o : Bool} (hs : s = okF (twoB a b c d) (mkN (a * d + c * b) (b * d))) (ht : t = okF (twoB a b c d) (mkD (a * d + c * b) (b * d))) (ho : o = (twoB a b c d && mkB (a * d + c * b) (b * d))) (h : o = true) :
    a = okF (twoB s t c d) (mkN (s * d - c * t) (t * d)) ∧ b = okF (twoB s t c d) (mkD (s * d - c * t) (t * d)) ∧ true = (twoB s t c d && mkB (s * d - c * t) (t * d)) := by
  obtain ⟨g, hm, rfl, rfl⟩ := op_yes hs ht ho h
  have hf : frB a b = true ∧ frB c d = true := by unfold twoB at g; simpa using g
  obtain ⟨e1, e2, e3, e4⟩ := sum_back hf.1 hf.2 hm
  exact ⟨by rw [okF, if_pos e1, e3], by rw [okF, if_pos e1, e4], by rw [e1, e2]; rfl⟩
/-- The order is the sign of the difference, in the letters of the walk. -/
theorem sign_at {a b c d s t q : Int} {o : Bool} (hs : s = okF (twoB a b c d) (mkN (a * d - c * b) (b * d))) (ht : t = okF (twoB a b c d) (mkD (a * d - c * b) (b * d))) (ho : o = (twoB a b c d && mkB (a * d - c * b) (b * d))) (hq : q = okF (twoB a b c d) (cmpI (a * d) (c * b))) (h : o = true) :
    (q < 0 ∧ s < 0) ∨ (q = 0 ∧ s = 0) ∨ (0 < q ∧ 0 < s) := by
  obtain ⟨g, hm, rfl, rfl⟩ := op_yes hs ht ho h
  have hf : frB a b = true ∧ frB c d = true := by unfold twoB at g; simpa using g
  obtain ⟨h1, h2⟩ := difference_sign hf.1 hf.2 hm
  rw [okF, if_pos g] at hq
  subst hq
  omega
theorem two_parts {a b c d : Int} (h : twoB a b c d = true) : frB a b = true ∧ frB c d = true := by unfold twoB at h; simpa using h
set_option maxRecDepth 100000
set_option maxHeartbeats 4000000 in

theorem walk (a0 : Option Addr) (len0 cap0 : Nat) (z0 : List Int) (a1 : Option Addr) (len1 cap1 : Nat) (z1 : List Int) (w : World) (w0 : IsRow .u8 w a0 len0 cap0 z0) (rr0 : len0 ≤ 140737488355328) (w1 : IsRow .u8 w a1 len1 cap1 z1) (rr1 : len1 ≤ 140737488355328) :
    Calls Try.prog 3 #[.slice a0 len0 cap0, .slice a1 len1 cap1] w fun e w' => e = .returned (.bool true) ∧ Below w.heap.size w w' := by
  have hl0 : len0 ≤ 9223372036854775807 := by
    rcases w0 with ⟨_, h, _⟩ | ⟨x, _, h1, h2, _⟩
    · omega
    · unfold maxLen at h2; omega
  have hl1 : len1 ≤ 9223372036854775807 := by
    rcases w1 with ⟨_, h, _⟩ | ⟨x, _, h1, h2, _⟩
    · omega
    · unfold maxLen at h2; omega
  have hR := Lib.hid (RB.of_row w0)
  have hR' := Lib.hid (RB.of_row w1)
  clear w0 w1
  by_cases hbig : 1048576 < len0 + len1
  · have hbig' : (1048576 : Int) < (len0 : Int) + len1 := by omega
    go_enter Try.func3, Try.ntmps3
    go_wp2
    go_ret
    exact ⟨rfl, Below.refl _ _⟩
  · have hb0 : len0 ≤ 1048576 := by omega
    have hb1 : len1 ≤ 1048576 := by omega
    have hbig' : ¬ (1048576 : Int) < (len0 : Int) + len1 := by omega
    go_enter Try.func3, Try.ntmps3
    go_wp2_with fail
    refine (drawAddFracs_any _ _ _ _ hR.out hb0).mono ?_
    rintro e v0 ⟨a, b, c, d, rfl, -, -, b0⟩

    have BU := Lib.hid (((b0.alloc b0.size (.cells #[.int .i64 a, .int .i64 b] 24)).alloc (by have := b0.size; simp; omega) (.cells #[.int .i64 c, .int .i64 d] 24)))
    have F5 := (S2.new v0 a b 24).alloc (.cells #[.int .i64 c, .int .i64 d] 24)
    have F6 := S2.new (v0.alloc (.cells #[.int .i64 a, .int .i64 b] 24)) c d 24
    rw [show (v0.alloc (.cells #[.int .i64 a, .int .i64 b] 24)).heap.size = v0.heap.size + 1 by simp] at F6
    obtain ⟨s1, hs1⟩ : ∃ x, x = okF (twoB a b c d) (mkN (a * d + c * b) (b * d)) := ⟨_, rfl⟩
    have Hs1 := Lib.hid hs1
    clear hs1
    obtain ⟨t1, ht1⟩ : ∃ x, x = okF (twoB a b c d) (mkD (a * d + c * b) (b * d)) := ⟨_, rfl⟩
    have Ht1 := Lib.hid ht1
    clear ht1
    obtain ⟨o1, ho1⟩ : ∃ x, x = (twoB a b c d && mkB (a * d + c * b) (b * d)) := ⟨_, rfl⟩
    have Ho1 := Lib.hid ho1
    clear ho1
    obtain ⟨s2, hs2⟩ : ∃ x, x = okF (twoB a b c d) (mkN (a * d - c * b) (b * d)) := ⟨_, rfl⟩
    have Hs2 := Lib.hid hs2
    clear hs2
    obtain ⟨t2, ht2⟩ : ∃ x, x = okF (twoB a b c d) (mkD (a * d - c * b) (b * d)) := ⟨_, rfl⟩
    have Ht2 := Lib.hid ht2
    clear ht2
    obtain ⟨o2, ho2⟩ : ∃ x, x = (twoB a b c d && mkB (a * d - c * b) (b * d)) := ⟨_, rfl⟩
    have Ho2 := Lib.hid ho2
    clear ho2
    obtain ⟨q3, hq3⟩ : ∃ x, x = okF (twoB a b c d) (cmpI (a * d) (c * b)) := ⟨_, rfl⟩
    have Hq3 := Lib.hid hq3
    clear hq3
    obtain ⟨o3, ho3⟩ : ∃ x, x = twoB a b c d := ⟨_, rfl⟩
    have Ho3 := Lib.hid ho3
    clear ho3
    go_wp2_with fail
    refine (implAddFracs_any a b c d _).mono ?_
    intro x v1 hg
    obtain ⟨rfl, b1⟩ := op_at Hs1.out Ht1.out Ho1.out hg
    replace F5 := (F5).below b1
    replace F6 := (F6).below b1
    have l5 : v0.heap.size < v1.heap.size := cell_lt F5.1
    have l6 : v0.heap.size + 1 < v1.heap.size := cell_lt F6.1
    have BW := Lib.hid (bel2 BU.out b1)
    clear BU
    clear b1
    go_wp2_with fail
    refine (specAddFracs_any a b c d _).mono ?_
    intro x v2 hg
    obtain ⟨rfl, b2⟩ := op_at Hs1.out Ht1.out Ho1.out hg
    replace F5 := ((F5).alloc (.cells #[.int .i64 s1, .int .i64 t1] 24)).below b2
    replace F6 := ((F6).alloc (.cells #[.int .i64 s1, .int .i64 t1] 24)).below b2
    have K7 := Lib.hid ((S2.new v1 s1 t1 24).below b2)
    replace l5 : v0.heap.size < v2.heap.size := cell_lt F5.1
    replace l6 : v0.heap.size + 1 < v2.heap.size := cell_lt F6.1
    replace BW := Lib.hid (bel2 (BW.out.alloc BW.out.size (.cells #[.int .i64 s1, .int .i64 t1] 24)) b2)
    clear b2
    go_wp2_with fail
    refine (implSubtractFracs_any a b c d _).mono ?_
    intro x v3 hg
    obtain ⟨rfl, b3⟩ := op_at Hs2.out Ht2.out Ho2.out hg
    replace F5 := ((F5).alloc (.cells #[.int .i64 s1, .int .i64 t1] 24)).below b3
    replace F6 := ((F6).alloc (.cells #[.int .i64 s1, .int .i64 t1] 24)).below b3
    replace K7 := Lib.hid (((K7.out).alloc (.cells #[.int .i64 s1, .int .i64 t1] 24)).below b3)
    have K9 := Lib.hid ((S2.new v2 s1 t1 24).below b3)
    replace l5 : v0.heap.size < v3.heap.size := cell_lt F5.1
    replace l6 : v0.heap.size + 1 < v3.heap.size := cell_lt F6.1
    replace BW := Lib.hid (bel2 (BW.out.alloc BW.out.size (.cells #[.int .i64 s1, .int .i64 t1] 24)) b3)
    clear b3
    go_wp2_with fail
    refine (specSubtractFracs_any a b c d _).mono ?_
    intro x v4 hg
    obtain ⟨rfl, b4⟩ := op_at Hs2.out Ht2.out Ho2.out hg
    replace F5 := ((F5).alloc (.cells #[.int .i64 s2, .int .i64 t2] 24)).below b4
    replace F6 := ((F6).alloc (.cells #[.int .i64 s2, .int .i64 t2] 24)).below b4
    replace K7 := Lib.hid (((K7.out).alloc (.cells #[.int .i64 s2, .int .i64 t2] 24)).below b4)
    replace K9 := Lib.hid (((K9.out).alloc (.cells #[.int .i64 s2, .int .i64 t2] 24)).below b4)
    have K11 := Lib.hid ((S2.new v3 s2 t2 24).below b4)
    replace l5 : v0.heap.size < v4.heap.size := cell_lt F5.1
    replace l6 : v0.heap.size + 1 < v4.heap.size := cell_lt F6.1
    replace BW := Lib.hid (bel2 (BW.out.alloc BW.out.size (.cells #[.int .i64 s2, .int .i64 t2] 24)) b4)
    clear b4
    go_wp2_with fail
    refine (implCompareFracs_any a b c d _).mono ?_
    intro x v5 hg
    obtain ⟨rfl, b5⟩ := cmp_at Hq3.out Ho3.out hg
    replace F5 := ((F5).alloc (.cells #[.int .i64 s2, .int .i64 t2] 24)).below b5
    replace F6 := ((F6).alloc (.cells #[.int .i64 s2, .int .i64 t2] 24)).below b5
    replace K7 := Lib.hid (((K7.out).alloc (.cells #[.int .i64 s2, .int .i64 t2] 24)).below b5)
    replace K9 := Lib.hid (((K9.out).alloc (.cells #[.int .i64 s2, .int .i64 t2] 24)).below b5)
    replace K11 := Lib.hid (((K11.out).alloc (.cells #[.int .i64 s2, .int .i64 t2] 24)).below b5)
    have K13 := Lib.hid ((S2.new v4 s2 t2 24).below b5)
    replace l5 : v0.heap.size < v5.heap.size := cell_lt F5.1
    replace l6 : v0.heap.size + 1 < v5.heap.size := cell_lt F6.1
    replace BW := Lib.hid (bel2 (BW.out.alloc BW.out.size (.cells #[.int .i64 s2, .int .i64 t2] 24)) b5)
    clear b5
    go_wp2_with fail
    refine (specCompareFracs_any a b c d _).mono ?_
    intro x v6 hg
    obtain ⟨rfl, b6⟩ := cmp_at Hq3.out Ho3.out hg
    replace F5 := (F5).below b6
    replace F6 := (F6).below b6
    replace K7 := Lib.hid ((K7.out).below b6)
    replace K9 := Lib.hid ((K9.out).below b6)
    replace K11 := Lib.hid ((K11.out).below b6)
    replace K13 := Lib.hid ((K13.out).below b6)
    replace l5 : v0.heap.size < v6.heap.size := cell_lt F5.1
    replace l6 : v0.heap.size + 1 < v6.heap.size := cell_lt F6.1
    replace BW := Lib.hid (bel2 BW.out b6)
    clear b6
    go_wp2_with fail
    refine (drawFracOf_any _ _ _ _ (RB.below hR'.out BW.out) hb1).mono ?_
    rintro e v7 ⟨n, m, rfl, b7⟩
    replace F5 := F5.below b7
    replace F6 := F6.below b7
    replace K7 := Lib.hid (K7.out.below b7)
    replace K9 := Lib.hid (K9.out.below b7)
    replace K11 := Lib.hid (K11.out.below b7)
    replace K13 := Lib.hid (K13.out.below b7)
    replace l5 : v0.heap.size < v7.heap.size := cell_lt F5.1
    replace l6 : v0.heap.size + 1 < v7.heap.size := cell_lt F6.1
    replace BW := Lib.hid (bel2 BW.out b7)
    clear b7
    obtain ⟨s5, hs5⟩ : ∃ x, x = okF (partB n && partB m) (mkN n m) := ⟨_, rfl⟩
    have Hs5 := Lib.hid hs5
    clear hs5
    obtain ⟨t5, ht5⟩ : ∃ x, x = okF (partB n && partB m) (mkD n m) := ⟨_, rfl⟩
    have Ht5 := Lib.hid ht5
    clear ht5
    obtain ⟨o5, ho5⟩ : ∃ x, x = (partB n && partB m && mkB n m) := ⟨_, rfl⟩
    have Ho5 := Lib.hid ho5
    clear ho5
    go_wp2_with fail
    refine (implFracOf_any n m _).mono ?_
    intro x v8 hg
    obtain ⟨rfl, b8⟩ := op_at Hs5.out Ht5.out Ho5.out hg
    replace F5 := (F5).below b8
    replace F6 := (F6).below b8
    replace K7 := Lib.hid ((K7.out).below b8)
    replace K9 := Lib.hid ((K9.out).below b8)
    replace K11 := Lib.hid ((K11.out).below b8)
    replace K13 := Lib.hid ((K13.out).below b8)
    replace l5 : v0.heap.size < v8.heap.size := cell_lt F5.1
    replace l6 : v0.heap.size + 1 < v8.heap.size := cell_lt F6.1
    replace BW := Lib.hid (bel2 BW.out b8)
    clear b8
    go_wp2_with fail
    refine (specFracOf_any n m _).mono ?_
    intro x v9 hg
    obtain ⟨rfl, b9⟩ := op_at Hs5.out Ht5.out Ho5.out hg
    replace F5 := ((F5).alloc (.cells #[.int .i64 s5, .int .i64 t5] 24)).below b9
    replace F6 := ((F6).alloc (.cells #[.int .i64 s5, .int .i64 t5] 24)).below b9
    replace K7 := Lib.hid (((K7.out).alloc (.cells #[.int .i64 s5, .int .i64 t5] 24)).below b9)
    replace K9 := Lib.hid (((K9.out).alloc (.cells #[.int .i64 s5, .int .i64 t5] 24)).below b9)
    replace K11 := Lib.hid (((K11.out).alloc (.cells #[.int .i64 s5, .int .i64 t5] 24)).below b9)
    replace K13 := Lib.hid (((K13.out).alloc (.cells #[.int .i64 s5, .int .i64 t5] 24)).below b9)
    have K21 := Lib.hid ((S2.new v8 s5 t5 24).below b9)
    replace l5 : v0.heap.size < v9.heap.size := cell_lt F5.1
    replace l6 : v0.heap.size + 1 < v9.heap.size := cell_lt F6.1
    replace BW := Lib.hid (bel2 (BW.out.alloc BW.out.size (.cells #[.int .i64 s5, .int .i64 t5] 24)) b9)
    clear b9
    go_upto_region 13 with fail
    go_cut [144] (fun r wx => r = .bool false ∧ Below w.heap.size w wx ∧ S2 wx (v0.heap.size) a b ∧ S2 wx (v0.heap.size + 1) c d ∧ S2 wx (v1.heap.size) s1 t1 ∧ S2 wx (v4.heap.size) s2 t2)
    case first =>
      have E5 : frB s5 t5 = o5 := op_frac Hs5.out Ht5.out Ho5.out
      have HE5 := Lib.hid E5
      clear E5
      have F7 := K7.out
      have l7 : v1.heap.size < v9.heap.size := cell_lt F7.1
      have F9 := K9.out
      have l9 : v2.heap.size < v9.heap.size := cell_lt F9.1
      have F11 := K11.out
      have l11 : v3.heap.size < v9.heap.size := cell_lt F11.1
      have F13 := K13.out
      have l13 : v4.heap.size < v9.heap.size := cell_lt F13.1
      have F21 := K21.out
      have l21 : v8.heap.size < v9.heap.size := cell_lt F21.1
      have BV := Lib.hid (BW.out.alloc BW.out.size (.cells #[.int .i64 s5, .int .i64 t5] 24))
      have P5 := Lib.hid (F5.alloc (.cells #[.int .i64 s5, .int .i64 t5] 24))
      have P6 := Lib.hid (F6.alloc (.cells #[.int .i64 s5, .int .i64 t5] 24))
      have P7 := Lib.hid (F7.alloc (.cells #[.int .i64 s5, .int .i64 t5] 24))
      have P13 := Lib.hid (F13.alloc (.cells #[.int .i64 s5, .int .i64 t5] 24))
      have P21 := Lib.hid (F21.alloc (.cells #[.int .i64 s5, .int .i64 t5] 24))
      cases h1 : frB a b
      · have e3 : o3 = false := by rw [Ho3.out, twoB, h1]; rfl
        subst e3
        go_wp2_with fail
        refine (isFrac_any a b _).mono ?_
        rw [h1]
        rintro e x1 ⟨rfl, d1⟩
        have P5 := Lib.hid (P5.out.below d1)
        have P6 := Lib.hid (P6.out.below d1)
        have P7 := Lib.hid (P7.out.below d1)
        have P13 := Lib.hid (P13.out.below d1)
        have P21 := Lib.hid (P21.out.below d1)
        have BV := Lib.hid (bel2 BV.out d1)
        have Q21 := P21.out
        clear d1
        go_wp2_with fail
        refine (isFrac_any s5 t5 _).mono ?_
        rw [HE5.out]
        rintro e x2 ⟨rfl, d2⟩
        have P5 := Lib.hid (P5.out.below d2)
        have P6 := Lib.hid (P6.out.below d2)
        have P7 := Lib.hid (P7.out.below d2)
        have P13 := Lib.hid (P13.out.below d2)
        have P21 := Lib.hid (P21.out.below d2)
        have BV := Lib.hid (bel2 BV.out d2)
        clear d2
        go_wp2_with fail
        go_meet
        exact ⟨rfl, BV.out, P5.out, P6.out, P7.out, P13.out⟩
      · cases h2 : frB c d
        · have e3 : o3 = false := by rw [Ho3.out, twoB, h1, h2]; rfl
          subst e3
          have H2 := Lib.hid h2
          clear h2
          go_wp2_with fail
          refine (isFrac_any a b _).mono ?_
          rw [h1]
          rintro e x1 ⟨rfl, d1⟩
          have P5 := Lib.hid (P5.out.below d1)
          have P6 := Lib.hid (P6.out.below d1)
          have P7 := Lib.hid (P7.out.below d1)
          have P13 := Lib.hid (P13.out.below d1)
          have P21 := Lib.hid (P21.out.below d1)
          have BV := Lib.hid (bel2 BV.out d1)
          have Q6 := P6.out
          clear d1
          go_wp2_with fail
          refine (isFrac_any c d _).mono ?_
          rw [H2.out]
          rintro e x2 ⟨rfl, d2⟩
          have P5 := Lib.hid (P5.out.below d2)
          have P6 := Lib.hid (P6.out.below d2)
          have P7 := Lib.hid (P7.out.below d2)
          have P13 := Lib.hid (P13.out.below d2)
          have P21 := Lib.hid (P21.out.below d2)
          have BV := Lib.hid (bel2 BV.out d2)
          have Q21 := P21.out
          clear d2
          go_wp2_with fail
          refine (isFrac_any s5 t5 _).mono ?_
          rw [HE5.out]
          rintro e x3 ⟨rfl, d3⟩
          have P5 := Lib.hid (P5.out.below d3)
          have P6 := Lib.hid (P6.out.below d3)
          have P7 := Lib.hid (P7.out.below d3)
          have P13 := Lib.hid (P13.out.below d3)
          have P21 := Lib.hid (P21.out.below d3)
          have BV := Lib.hid (bel2 BV.out d3)
          clear d3
          go_wp2_with fail
          go_meet
          exact ⟨rfl, BV.out, P5.out, P6.out, P7.out, P13.out⟩
        · have e3 : o3 = true := by rw [Ho3.out, twoB, h1, h2]; rfl
          subst e3
          have H2 := Lib.hid h2
          clear h2
          go_wp2_with fail
          refine (isFrac_any a b _).mono ?_
          rw [h1]
          rintro e x1 ⟨rfl, d1⟩
          have P5 := Lib.hid (P5.out.below d1)
          have P6 := Lib.hid (P6.out.below d1)
          have P7 := Lib.hid (P7.out.below d1)
          have P13 := Lib.hid (P13.out.below d1)
          have P21 := Lib.hid (P21.out.below d1)
          have BV := Lib.hid (bel2 BV.out d1)
          have Q6 := P6.out
          clear d1
          go_wp2_with fail
          refine (isFrac_any c d _).mono ?_
          rw [H2.out]
          rintro e x2 ⟨rfl, d2⟩
          have P5 := Lib.hid (P5.out.below d2)
          have P6 := Lib.hid (P6.out.below d2)
          have P7 := Lib.hid (P7.out.below d2)
          have P13 := Lib.hid (P13.out.below d2)
          have P21 := Lib.hid (P21.out.below d2)
          have BV := Lib.hid (bel2 BV.out d2)
          have Q21 := P21.out
          clear d2
          go_wp2_with fail
          refine (isFrac_any s5 t5 _).mono ?_
          rw [HE5.out]
          rintro e x3 ⟨rfl, d3⟩
          have P5 := Lib.hid (P5.out.below d3)
          have P6 := Lib.hid (P6.out.below d3)
          have P7 := Lib.hid (P7.out.below d3)
          have P13 := Lib.hid (P13.out.below d3)
          have P21 := Lib.hid (P21.out.below d3)
          have BV := Lib.hid (bel2 BV.out d3)
          clear d3
          go_wp2_with fail
          go_meet
          exact ⟨rfl, BV.out, P5.out, P6.out, P7.out, P13.out⟩
    case rest =>
    obtain ⟨rfl, bx, G5, G6, G7, G13⟩ := hcut
    clear K7
    clear K9
    clear K11
    clear K13
    clear K21
    clear F5 F6 l5 l6 BW
    have l7 : v1.heap.size < wc.heap.size := cell_lt G7.1
    go_upto_if 145 with fail
    go_cut [8, 10, 26] (fun s8 s10 _ wx => s8 = .bool o1 ∧ s10 = .bool o1 ∧ Below w.heap.size w wx ∧ S2 wx (v4.heap.size) s2 t2)
    case first =>
      cases ho : o1
      · have HO := Lib.hid ho
        clear ho
        go_wp2_with fail
        go_meet
        exact ⟨by rw [HO.out], by rw [HO.out], bx, G13⟩
      · obtain ⟨e1, e2, e3⟩ := back_at Hs1.out Ht1.out Ho1.out ho
        have HO := Lib.hid ho
        have HE1 := Lib.hid e1
        have HE2 := Lib.hid e2
        have HE3 := Lib.hid e3
        clear e1 e2 e3 ho
        go_wp2_with fail
        refine (implSubtractFracs_any s1 t1 c d _).mono ?_
        intro x y1 hg
        obtain ⟨rfl, d1⟩ := op_at HE1.out HE2.out HE3.out hg
        clear hg
        replace G5 := G5.below d1
        have l5 : v0.heap.size < y1.heap.size := cell_lt G5.1
        have G13 := Lib.hid (G13.below d1)
        go_wp2_with fail
        go_meet
        exact ⟨by rw [HO.out], by rw [HO.out], (bel2 bx d1).alloc (bel2 bx d1).size _, G13.out.alloc _⟩
    case rest =>
    obtain ⟨rfl, rfl, by_, H13⟩ := hcut
    clear G5 G6 G7 G13 bx
    cases ho : o2
    · go_wp2_with fail
      go_ret
      exact ⟨rfl, by_⟩
    · rcases sign_at Hs2.out Ht2.out Ho2.out Hq3.out ho with ⟨h1, h2⟩ | ⟨h1, h2⟩ | ⟨h1, h2⟩
      · have e1 : (q3 == 0) = false := by simp; omega
        have e2 : (s2 == 0) = false := by simp; omega
        go_wp2_with fail
        go_ret
        exact ⟨rfl, by_⟩
      · subst h1
        subst h2
        go_wp2_with fail
        go_ret
        exact ⟨rfl, by_⟩
      · have e1 : (q3 == 0) = false := by simp; omega
        have e2 : (s2 == 0) = false := by simp; omega
        go_wp2_with fail
        go_ret
        exact ⟨rfl, by_⟩
end Go.Proofs.Ytnfijdkggnijaaa.fnFracs

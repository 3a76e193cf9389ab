/-
  Products are divided again, floors are below, means make up the sum, texts are read back, and all answer as the model.
  No condition but that the tables and the sentinels of Go's library hold what the library's text lays there (the card ties them).
-/
import Derived.Test.YtnfijdkggnijaaaDoorRows
import Derived.WalkKit
import Derived.ProofKit
import Derived.OpenShut
import Derived.ShutString
import Derived.Below
import Derived.Carry
import Derived.Lib.SmallJoins
import Derived.SizedLaws
import Derived.MakeChecks
import Derived.OpenVars
import Derived.LaidMore
import Derived.Stop.Joined
import Derived.Lib.LaidTab
import Derived.Test.YtnfijdkggnijaaaDoorDrawG
import Derived.Test.YtnfijdkggnijaaaDoorFracN
import Derived.Deep.DeepCutAuto
import Derived.Deep.QuietTactic
namespace Go.Proofs.YtnfijdkggnijaaaDoor.fnFracParts
set_option linter.unusedSimpArgs false
set_option linter.unusedVariables false
open Go.ChangeShapes Go.WideShapes Go.ChangeAt Go.RowKit
open Go.ChangeMaps (open_string shut_string)
set_option linter.unusedVariables false
/-- What the condition gives: the table's cells, the two sentinels, and that a variable of the library's holds some integer. -/
theorem laid_of {W : World} (h : laidMetH Tryd.prog Rows.fnFracPartsRow.laid W) (hsh : W.ShapedOpen Tryd.prog) : Pows W ∧ Sents W ∧ MaxL W := by
  rw [MakeChecks.laidMetH_plain _ _ _ (by kernel_rfl)] at h
  have h2 := laidMet.tail (laidMet.tail h)
  have h3 := laidMet.tail h2
  have h4 := laidMet.tail h3
  exact ⟨pows_of_laid h2, ⟨syntax_of_laid h4, range_of_laid h3⟩, Tryd.laysM145.s1_3 W hsh⟩
/-- What an operation gives, by letters. -/
theorem op_at {g : Bool} {n e s t : Int} {o : Bool} {w : World} {x : Ending} {w' : World} (hs : s = okF g (mkN n e)) (ht : t = okF g (mkD n e)) (ho : o = (g && mkB n e)) (h : GivesOp g n e w x w') : x = .returned (.tuple #[fracV s t, .bool o]) ∧ Below w.heap.size w w' := by
  subst hs ht ho; exact h
theorem cmp_at {g o : Bool} {v q : Int} {w : World} {x : Ending} {w' : World} (hq : q = okF g v) (ho : o = g) (h : GivesC g v w x w') : x = .returned (.tuple #[.int .i64 q, .bool o]) ∧ Below w.heap.size w w' := by
  subst hq ho; exact h
theorem frB_zero : frB 0 0 = false := by decide
/-- What an operation gives is a fraction if it says so. -/
theorem op_frac {g : Bool} {n e s t : Int} {o : Bool} (hs : s = okF g (mkN n e)) (ht : t = okF g (mkD n e)) (ho : o = (g && mkB n e)) : frB s t = o := by
  subst hs ht ho
  cases g
  · exact frB_zero
  · cases hm : mkB n e
    · simp only [okF, mkN, mkD, hm, if_pos]
      simp [frB_zero]
    · simp only [okF, if_pos, Bool.true_and]
      exact (mk_parts hm).2.1
theorem op_yes {g : Bool} {n e s t : Int} {o : Bool} (hs : s = okF g (mkN n e)) (ht : t = okF g (mkD n e)) (ho : o = (g && mkB n e)) (h : o = true) : g = true ∧ mkB n e = true ∧ s = mkN n e ∧ t = mkD n e := by
  subst hs ht ho
  simp only [Bool.and_eq_true] at h
  obtain ⟨h1, h2⟩ := h
  subst h1
  exact ⟨rfl, h2, rfl, rfl⟩
/-- A sum taken back, in the letters of the walk. -/
theorem back_at {a b c d s t : Int} {o : Bool} (hs : s = okF (twoB a b c d) (mkN (a * d + c * b) (b * d))) (ht : t = okF (twoB a b c d) (mkD (a * d + c * b) (b * d))) (ho : o = (twoB a b c d && mkB (a * d + c * b) (b * d))) (h : o = true) :
    a = okF (twoB s t c d) (mkN (s * d - c * t) (t * d)) ∧ b = okF (twoB s t c d) (mkD (s * d - c * t) (t * d)) ∧ true = (twoB s t c d && mkB (s * d - c * t) (t * d)) := by
  obtain ⟨g, hm, rfl, rfl⟩ := op_yes hs ht ho h
  have hf : frB a b = true ∧ frB c d = true := by unfold twoB at g; simpa using g
  obtain ⟨e1, e2, e3, e4⟩ := sum_back hf.1 hf.2 hm
  exact ⟨by rw [okF, if_pos e1, e3], by rw [okF, if_pos e1, e4], by rw [e1, e2]; rfl⟩
/-- The order is the sign of the difference, in the letters of the walk. -/
theorem sign_at {a b c d s t q : Int} {o : Bool} (hs : s = okF (twoB a b c d) (mkN (a * d - c * b) (b * d))) (ht : t = okF (twoB a b c d) (mkD (a * d - c * b) (b * d))) (ho : o = (twoB a b c d && mkB (a * d - c * b) (b * d))) (hq : q = okF (twoB a b c d) (cmpI (a * d) (c * b))) (h : o = true) :
    (q < 0 ∧ s < 0) ∨ (q = 0 ∧ s = 0) ∨ (0 < q ∧ 0 < s) := by
  obtain ⟨g, hm, rfl, rfl⟩ := op_yes hs ht ho h
  have hf : frB a b = true ∧ frB c d = true := by unfold twoB at g; simpa using g
  obtain ⟨h1, h2⟩ := difference_sign hf.1 hf.2 hm
  rw [okF, if_pos g] at hq
  subst hq
  omega
/-- A product divided again, in the letters of the walk. -/
theorem again_at {a b c d s t : Int} {o u : Bool} (hs : s = okF (twoB a b c d) (mkN (a * c) (b * d))) (ht : t = okF (twoB a b c d) (mkD (a * c) (b * d))) (ho : o = (twoB a b c d && mkB (a * c) (b * d))) (hu : u = (o && (c != 0))) (h : u = true) :
    a = okF (twoB s t c d) (mkN (s * d) (t * c)) ∧ b = okF (twoB s t c d) (mkD (s * d) (t * c)) ∧ true = (twoB s t c d && mkB (s * d) (t * c)) := by
  subst hu
  simp only [Bool.and_eq_true, bne_iff_ne, ne_eq] at h
  obtain ⟨g, hm, rfl, rfl⟩ := op_yes hs ht ho h.1
  have hf : frB a b = true ∧ frB c d = true := by unfold twoB at g; simpa using g
  obtain ⟨e1, e2, e3, e4⟩ := product_back hf.1 hf.2 h.2 hm
  exact ⟨by rw [okF, if_pos e1, e3], by rw [okF, if_pos e1, e4], by rw [e1, e2]; rfl⟩
theorem text_at {a b : Int} {T : ByteArray} {o : Bool} {w : World} {x : Ending} {w' : World} (hT : T = ⟨(ftL a b).toArray⟩) (ho : o = frB a b) (h : GivesFT a b w x w') : x = .returned (.tuple #[.string T, .bool o]) ∧ Below w.heap.size w w' := by
  subst hT ho; exact h
theorem read_at {l : List UInt8} {a b : Int} {w : World} {x : Ending} {w' : World} (hq : okQ l = true ∧ fpN l = a ∧ fpD l = b) (h : GivesQ l w x w') : x = .returned (.tuple #[fracV a b, .bool true]) ∧ Below w.heap.size w w' := by
  obtain ⟨h1, h2, h3⟩ := hq
  unfold GivesQ at h
  rw [h1, h2, h3] at h
  exact h
theorem q_at {l : List UInt8} {s t : Int} {o : Bool} {w : World} {x : Ending} {w' : World} (hs : s = okF (okQ l) (fpN l)) (ht : t = okF (okQ l) (fpD l)) (ho : o = okQ l) (h : GivesQ l w x w') : x = .returned (.tuple #[fracV s t, .bool o]) ∧ Below w.heap.size w w' := by
  subst hs ht ho; exact h
/-- Floor and ceiling, in the letters of the walk. -/
theorem floor_facts {a b q p : Int} {o : Bool} (hq : q = okF (frB a b) (floorI a b)) (hp : p = okF (frB a b) (-floorI (-a) b)) (ho : o = frB a b) (h : o = true) :
    q * b ≤ a ∧ a < (q + 1) * b ∧ p - q ≤ 1 ∧ -2 ≤ p - q ∧ (p = q ↔ b = 1) ∧ -1000000001 ≤ q ∧ q ≤ 1000000001 ∧ -9000000000000000000 ≤ q * b ∧ q * b ≤ 9000000000000000000 ∧ -9000000000000000000 ≤ (q + 1) * b ∧ (q + 1) * b ≤ 9000000000000000000 ∧ -1000000001 ≤ p ∧ p ≤ 1000000001 := by
  subst ho hq hp
  obtain ⟨hn, hd, -⟩ := frB_bd h
  obtain ⟨l1, l2⟩ := floor_at a b (by omega)
  obtain ⟨c1, c2⟩ := ceil_at h
  have f1 := floorI_lim (d := b) (show Lim a from hn)
  have f2 := floorI_lim (d := b) (show Lim (-a) from ⟨by omega, by omega⟩)
  obtain ⟨u1, u2⟩ := floor_at (-a) b (by omega)
  simp only [okF, h, if_pos]
  generalize floorI a b = q at *
  generalize floorI (-a) b = f at *
  have e1 : (q + 1) * b = q * b + b := by rw [Int.add_mul, Int.one_mul]
  have m1 : q * b + f * b ≤ 0 := by omega
  have m2 : (q + f) * b ≤ 0 := by rw [Int.add_mul]; exact m1
  have m3 : q + f ≤ 0 := by
    by_cases hh : q + f ≤ 0
    · exact hh
    · have := Int.mul_pos (show 0 < q + f by omega) (show 0 < b by omega); omega
  refine ⟨l1, l2, c1, by omega, c2, by omega, by omega, by omega, by omega, by omega, by omega, by omega, by omega⟩
theorem sumI_bd {zs : List Int} (h : smallL zs) (hl : zs.length ≤ 50) : -60000000 ≤ sumI zs ∧ sumI zs ≤ 60000000 := by
  have key : ∀ k : Nat, k ≤ zs.length → -1000001 * (k : Int) ≤ sumI (zs.take k) ∧ sumI (zs.take k) ≤ 1000001 * (k : Int) := by
    intro k
    induction k with
    | zero => intro _; simp [sumI]
    | succ k ih =>
      intro hk
      have h1 := ih (by omega)
      have h2 := sum_bd zs h k (by omega)
      rw [sumI_next zs k (by omega)]
      omega
  have := key zs.length (Nat.le_refl _)
  rw [List.take_length] at this
  omega
theorem mul_bd {x y : Int} (hx : -60000000 ≤ x ∧ x ≤ 60000000) (hy : -1000000000 ≤ y ∧ y ≤ 1000000000) : -1000000000000000000 ≤ x * y ∧ x * y ≤ 1000000000000000000 :=
  mul9 ⟨by omega, by omega⟩ hy
set_option maxRecDepth 100000
set_option maxHeartbeats 4000000 in

theorem walk (a0 : Option Addr) (len0 cap0 : Nat) (z0 : List Int) (a1 : Option Addr) (len1 cap1 : Nat) (z1 : List Int) (w : World) (w0 : IsRow .u8 w a0 len0 cap0 z0) (rr0 : len0 ≤ 140737488355328) (w1 : IsRow .u8 w a1 len1 cap1 z1) (rr1 : len1 ≤ 140737488355328) (hN : Pows w ∧ Sents w ∧ MaxL w) :
    Calls Tryd.prog 3 #[.slice a0 len0 cap0, .slice a1 len1 cap1] w fun e w' => e = .returned (.bool true) ∧ Below w.heap.size w w' := by
  obtain ⟨hT1, hT2, hT3⟩ := hN
  have HT1 := Lib.hid hT1
  have HT2 := Lib.hid hT2
  have HT3 := Lib.hid hT3
  clear hT1 hT2 hT3
  have hR := Lib.hid (RB.of_row w0)
  have hR' := Lib.hid (RB.of_row w1)
  clear w0 w1
  by_cases hbig : 1048576 < len0 + len1
  · have hbig' : (1048576 : Int) < (len0 : Int) + len1 := by omega
    go_enter Tryd.func3, Tryd.ntmps3
    go_wp2
    go_ret
    exact ⟨rfl, Below.refl _ _⟩
  · have hb0 : len0 ≤ 1048576 := by omega
    have hb1 : len1 ≤ 1048576 := by omega
    have hbig' : ¬ (1048576 : Int) < (len0 : Int) + len1 := by omega
    go_enter Tryd.func3, Tryd.ntmps3
    go_wp2_with fail
    refine (drawMultiplyFracs_any _ _ _ _ hR.out hb0).mono ?_
    rintro e v0 ⟨a, b, c, d, rfl, hia, -, b0⟩
    have HIA := Lib.hid hia
    clear hia
    have BU := Lib.hid (((b0.alloc b0.size (.cells #[.int .i64 a, .int .i64 b] 24)).alloc (by have := b0.size; simp; omega) (.cells #[.int .i64 c, .int .i64 d] 24)))
    have F5 := (S2.new v0 a b 24).alloc (.cells #[.int .i64 c, .int .i64 d] 24)
    have F6 := S2.new (v0.alloc (.cells #[.int .i64 a, .int .i64 b] 24)) c d 24
    rw [show (v0.alloc (.cells #[.int .i64 a, .int .i64 b] 24)).heap.size = v0.heap.size + 1 by simp] at F6
    obtain ⟨s1, hs1⟩ : ∃ x, x = okF (twoB a b c d) (mkN (a * c) (b * d)) := ⟨_, rfl⟩
    have Hs1 := Lib.hid hs1
    clear hs1
    obtain ⟨t1, ht1⟩ : ∃ x, x = okF (twoB a b c d) (mkD (a * c) (b * d)) := ⟨_, rfl⟩
    have Ht1 := Lib.hid ht1
    clear ht1
    obtain ⟨o1, ho1⟩ : ∃ x, x = (twoB a b c d && mkB (a * c) (b * d)) := ⟨_, rfl⟩
    have Ho1 := Lib.hid ho1
    clear ho1
    obtain ⟨s2, hs2⟩ : ∃ x, x = okF (twoB a b c d) (mkN (a * d) (b * c)) := ⟨_, rfl⟩
    have Hs2 := Lib.hid hs2
    clear hs2
    obtain ⟨t2, ht2⟩ : ∃ x, x = okF (twoB a b c d) (mkD (a * d) (b * c)) := ⟨_, rfl⟩
    have Ht2 := Lib.hid ht2
    clear ht2
    obtain ⟨o2, ho2⟩ : ∃ x, x = (twoB a b c d && mkB (a * d) (b * c)) := ⟨_, rfl⟩
    have Ho2 := Lib.hid ho2
    clear ho2
    obtain ⟨q5, hq5⟩ : ∃ x, x = okF (frB a b) (floorI a b) := ⟨_, rfl⟩
    have Hq5 := Lib.hid hq5
    clear hq5
    obtain ⟨q7, hq7⟩ : ∃ x, x = okF (frB a b) (-floorI (-a) b) := ⟨_, rfl⟩
    have Hq7 := Lib.hid hq7
    clear hq7
    obtain ⟨o3, ho3⟩ : ∃ x, x = frB a b := ⟨_, rfl⟩
    have Ho3 := Lib.hid ho3
    clear ho3
    obtain ⟨T, hT⟩ : ∃ x, x = (ByteArray.mk (ftL a b).toArray) := ⟨_, rfl⟩
    have HT := Lib.hid hT
    clear hT
    go_wp2_with fail
    refine (implMultiplyFracs_any a b c d _).mono ?_
    intro x v1 hg
    obtain ⟨rfl, b1⟩ := op_at Hs1.out Ht1.out Ho1.out hg
    replace F5 := (F5).below b1
    replace F6 := (F6).below b1
    have l5 : v0.heap.size < v1.heap.size := cell_lt F5.1
    have l6 : v0.heap.size + 1 < v1.heap.size := cell_lt F6.1
    have BW := Lib.hid (bel2 BU.out b1)
    clear BU
    clear b1
    go_wp2_with fail
    refine (specMultiplyFracs_any a b c d _).mono ?_
    intro x v2 hg
    obtain ⟨rfl, b2⟩ := op_at Hs1.out Ht1.out Ho1.out hg
    replace F5 := ((F5).alloc (.cells #[.int .i64 s1, .int .i64 t1] 24)).below b2
    replace F6 := ((F6).alloc (.cells #[.int .i64 s1, .int .i64 t1] 24)).below b2
    have K7 := Lib.hid ((S2.new v1 s1 t1 24).below b2)
    replace l5 : v0.heap.size < v2.heap.size := cell_lt F5.1
    replace l6 : v0.heap.size + 1 < v2.heap.size := cell_lt F6.1
    replace BW := Lib.hid (bel2 (BW.out.alloc BW.out.size (.cells #[.int .i64 s1, .int .i64 t1] 24)) b2)
    clear b2
    go_wp2_with fail
    refine (implDivideFracs_any a b c d _).mono ?_
    intro x v3 hg
    obtain ⟨rfl, b3⟩ := op_at Hs2.out Ht2.out Ho2.out hg
    replace F5 := ((F5).alloc (.cells #[.int .i64 s1, .int .i64 t1] 24)).below b3
    replace F6 := ((F6).alloc (.cells #[.int .i64 s1, .int .i64 t1] 24)).below b3
    replace K7 := Lib.hid (((K7.out).alloc (.cells #[.int .i64 s1, .int .i64 t1] 24)).below b3)
    have K9 := Lib.hid ((S2.new v2 s1 t1 24).below b3)
    replace l5 : v0.heap.size < v3.heap.size := cell_lt F5.1
    replace l6 : v0.heap.size + 1 < v3.heap.size := cell_lt F6.1
    replace BW := Lib.hid (bel2 (BW.out.alloc BW.out.size (.cells #[.int .i64 s1, .int .i64 t1] 24)) b3)
    clear b3
    go_wp2_with fail
    refine (specDivideFracs_any a b c d _).mono ?_
    intro x v4 hg
    obtain ⟨rfl, b4⟩ := op_at Hs2.out Ht2.out Ho2.out hg
    replace F5 := ((F5).alloc (.cells #[.int .i64 s2, .int .i64 t2] 24)).below b4
    replace F6 := ((F6).alloc (.cells #[.int .i64 s2, .int .i64 t2] 24)).below b4
    replace K7 := Lib.hid (((K7.out).alloc (.cells #[.int .i64 s2, .int .i64 t2] 24)).below b4)
    replace K9 := Lib.hid (((K9.out).alloc (.cells #[.int .i64 s2, .int .i64 t2] 24)).below b4)
    have K11 := Lib.hid ((S2.new v3 s2 t2 24).below b4)
    replace l5 : v0.heap.size < v4.heap.size := cell_lt F5.1
    replace l6 : v0.heap.size + 1 < v4.heap.size := cell_lt F6.1
    replace BW := Lib.hid (bel2 (BW.out.alloc BW.out.size (.cells #[.int .i64 s2, .int .i64 t2] 24)) b4)
    clear b4
    go_wp2_with fail
    refine (implFloorFrac_any a b _).mono ?_
    intro x v5 hg
    obtain ⟨rfl, b5⟩ := cmp_at Hq5.out Ho3.out hg
    replace F5 := ((F5).alloc (.cells #[.int .i64 s2, .int .i64 t2] 24)).below b5
    replace F6 := ((F6).alloc (.cells #[.int .i64 s2, .int .i64 t2] 24)).below b5
    replace K7 := Lib.hid (((K7.out).alloc (.cells #[.int .i64 s2, .int .i64 t2] 24)).below b5)
    replace K9 := Lib.hid (((K9.out).alloc (.cells #[.int .i64 s2, .int .i64 t2] 24)).below b5)
    replace K11 := Lib.hid (((K11.out).alloc (.cells #[.int .i64 s2, .int .i64 t2] 24)).below b5)
    have K13 := Lib.hid ((S2.new v4 s2 t2 24).below b5)
    replace l5 : v0.heap.size < v5.heap.size := cell_lt F5.1
    replace l6 : v0.heap.size + 1 < v5.heap.size := cell_lt F6.1
    replace BW := Lib.hid (bel2 (BW.out.alloc BW.out.size (.cells #[.int .i64 s2, .int .i64 t2] 24)) b5)
    clear b5
    go_wp2_with fail
    refine (specFloorFrac_any a b _).mono ?_
    intro x v6 hg
    obtain ⟨rfl, b6⟩ := cmp_at Hq5.out Ho3.out hg
    replace F5 := (F5).below b6
    replace F6 := (F6).below b6
    replace K7 := Lib.hid ((K7.out).below b6)
    replace K9 := Lib.hid ((K9.out).below b6)
    replace K11 := Lib.hid ((K11.out).below b6)
    replace K13 := Lib.hid ((K13.out).below b6)
    replace l5 : v0.heap.size < v6.heap.size := cell_lt F5.1
    replace l6 : v0.heap.size + 1 < v6.heap.size := cell_lt F6.1
    replace BW := Lib.hid (bel2 BW.out b6)
    clear b6
    go_wp2_with fail
    refine (implCeilFrac_any a b _ HIA.out.1 HIA.out.2).mono ?_
    intro x v7 hg
    obtain ⟨rfl, b7⟩ := cmp_at Hq7.out Ho3.out hg
    replace F5 := (F5).below b7
    replace F6 := (F6).below b7
    replace K7 := Lib.hid ((K7.out).below b7)
    replace K9 := Lib.hid ((K9.out).below b7)
    replace K11 := Lib.hid ((K11.out).below b7)
    replace K13 := Lib.hid ((K13.out).below b7)
    replace l5 : v0.heap.size < v7.heap.size := cell_lt F5.1
    replace l6 : v0.heap.size + 1 < v7.heap.size := cell_lt F6.1
    replace BW := Lib.hid (bel2 BW.out b7)
    clear b7
    go_wp2_with fail
    refine (specCeilFrac_any a b _).mono ?_
    intro x v8 hg
    obtain ⟨rfl, b8⟩ := cmp_at Hq7.out Ho3.out hg
    replace F5 := (F5).below b8
    replace F6 := (F6).below b8
    replace K7 := Lib.hid ((K7.out).below b8)
    replace K9 := Lib.hid ((K9.out).below b8)
    replace K11 := Lib.hid ((K11.out).below b8)
    replace K13 := Lib.hid ((K13.out).below b8)
    replace l5 : v0.heap.size < v8.heap.size := cell_lt F5.1
    replace l6 : v0.heap.size + 1 < v8.heap.size := cell_lt F6.1
    replace BW := Lib.hid (bel2 BW.out b8)
    clear b8
    go_wp2_with fail
    refine (implFracText_any a b _ (HT1.out.below BW.out)).mono ?_
    intro x v9 hg
    obtain ⟨rfl, b9⟩ := text_at HT.out Ho3.out hg
    replace F5 := (F5).below b9
    replace F6 := (F6).below b9
    replace K7 := Lib.hid ((K7.out).below b9)
    replace K9 := Lib.hid ((K9.out).below b9)
    replace K11 := Lib.hid ((K11.out).below b9)
    replace K13 := Lib.hid ((K13.out).below b9)
    replace l5 : v0.heap.size < v9.heap.size := cell_lt F5.1
    replace l6 : v0.heap.size + 1 < v9.heap.size := cell_lt F6.1
    replace BW := Lib.hid (bel2 BW.out b9)
    clear b9
    go_wp2_with fail
    refine (specFracText_any a b _).mono ?_
    intro x v10 hg
    obtain ⟨rfl, b10⟩ := text_at HT.out Ho3.out hg
    replace F5 := (F5).below b10
    replace F6 := (F6).below b10
    replace K7 := Lib.hid ((K7.out).below b10)
    replace K9 := Lib.hid ((K9.out).below b10)
    replace K11 := Lib.hid ((K11.out).below b10)
    replace K13 := Lib.hid ((K13.out).below b10)
    replace l5 : v0.heap.size < v10.heap.size := cell_lt F5.1
    replace l6 : v0.heap.size + 1 < v10.heap.size := cell_lt F6.1
    replace BW := Lib.hid (bel2 BW.out b10)
    clear b10
    go_upto_region 14 with fail
    go_cut [169] (fun r wx => r = .bool false ∧ Below w.heap.size w wx ∧ S2 wx (v0.heap.size) a b ∧ S2 wx (v0.heap.size + 1) c d ∧ S2 wx (v1.heap.size) s1 t1)
    case first =>
      as_aux_lemma =>
        have F7 := K7.out
        have F9 := K9.out
        have F11 := K11.out
        have F13 := K13.out
        go_wp2_with fail
        refine (isFrac_any a b _).mono ?_
        rw [← Ho3.out]
        rintro e x1 ⟨rfl, d1⟩
        have P5 := Lib.hid (F5.below d1)
        have P6 := Lib.hid (F6.below d1)
        have P7 := Lib.hid (F7.below d1)
        go_wp2_with fail
        go_meet
        exact ⟨rfl, bel2 BW.out d1, P5.out, P6.out, P7.out⟩
    case rest =>
    obtain ⟨rfl, bx, G5, G6, G7⟩ := hcut
    clear K7
    clear K9
    clear K11
    clear K13
    clear F5 F6 l5 l6 BW
    obtain ⟨u, hu⟩ : ∃ x, x = (o1 && (c != 0)) := ⟨_, rfl⟩
    have Hu := Lib.hid hu
    clear hu
    go_upto_region 16 with fail
    go_cut [8, 10, 175] (fun x y r wx => x = .bool o1 ∧ y = .bool o1 ∧ r = .bool u ∧ wx = wc)
    case first =>
      as_aux_lemma =>
        cases ho : o1
        · have HO := Lib.hid ho
          clear ho
          go_wp2_with fail
          go_meet
          exact ⟨by rw [HO.out], by rw [HO.out], by rw [Hu.out, HO.out]; rfl, rfl⟩
        · have HO := Lib.hid ho
          clear ho
          cases hc : (c != 0)
          · have HC := Lib.hid hc
            go_wp2_with fail
            go_meet
            exact ⟨by rw [HO.out], by rw [HO.out], by rw [Hu.out, HO.out, HC.out]; rfl, rfl⟩
          · have HC := Lib.hid hc
            go_wp2_with fail
            go_meet
            exact ⟨by rw [HO.out], by rw [HO.out], by rw [Hu.out, HO.out, HC.out]; rfl, rfl⟩
    case rest =>
    obtain ⟨rfl, rfl, rfl, rfl⟩ := hcut
    go_upto_if 175 with fail
    go_cut [175, 27, 28] (fun _ _ _ wx => Below w.heap.size w wx ∧ S2 wx (v0.heap.size) a b)
    case first =>
      as_aux_lemma =>
        cases hu : u
        · clear hu
          go_wp2_with fail
          go_meet
          exact ⟨bx, G5⟩
        · obtain ⟨e1, e2, e3⟩ := again_at Hs1.out Ht1.out Ho1.out Hu.out hu
          have HE1 := Lib.hid e1
          have HE2 := Lib.hid e2
          have HE3 := Lib.hid e3
          clear e1 e2 e3 hu
          go_wp2_with fail
          refine (implDivideFracs_any s1 t1 c d _).mono ?_
          intro x y1 hg
          obtain ⟨rfl, d1⟩ := op_at HE1.out HE2.out HE3.out hg
          clear hg
          replace G5 := G5.below d1
          have l5 : v0.heap.size < y1.heap.size := cell_lt G5.1
          go_wp2_with fail
          go_meet
          exact ⟨(bel2 bx d1).alloc (bel2 bx d1).size _, G5.alloc _⟩
    case rest =>
    clear G5 G6 G7 bx
    obtain ⟨by1, G5⟩ := hcut
    go_upto_if 189 with fail
    go_cut [16, 18, 20, 22, 24, 26, 189, 29, 30] (fun _ _ _ _ _ _ _ _ _ wx => Below w.heap.size w wx)
    case first =>
      as_aux_lemma =>
        cases h3 : o3
        · clear h3
          go_wp2_with fail
          go_meet
          exact by1
        · have hf : frB a b = true := by rw [← Ho3.out]; exact h3
          have HF := Lib.hid hf
          have HTL := Lib.hid (show T.data.toList = frL a b by rw [HT.out, show ftL a b = frL a b from if_pos hf])
          have HTS := Lib.hid (show T.size ≤ 1000000000 by rw [HT.out, show ftL a b = frL a b from if_pos hf]; have := frL_len hf; omega)
          obtain ⟨m1, m2, m3, m4, m5, m6, m7, m8, m9, m10, m11, m12, m13⟩ := floor_facts Hq5.out Hq7.out Ho3.out h3
          obtain ⟨-, hbd, -⟩ := frB_bd hf
          clear h3 hf
          go_wp2_with fail
          refine (implParseFrac_any T _ HTS.out (HT1.out.below by1) (HT2.out.below by1) (HT3.out.below by1)).mono ?_
          intro x y1 hg
          obtain ⟨rfl, d1⟩ := read_at (okQ_of HF.out HTL.out.symm) hg
          clear hg
          replace G5 := G5.below d1
          have l5 : v0.heap.size < y1.heap.size := cell_lt G5.1
          have BY := Lib.hid ((bel2 by1 d1).alloc (bel2 by1 d1).size (.cells #[.int .i64 a, .int .i64 b] 24))
          by_cases hb : b = 1
          · have e1 : (q7 == q5) = true := by simp; exact m5.2 hb
            have e2 : (b == 1) = true := by simp; exact hb
            clear hb m5
            go_wp2_with fail
            go_meet
            exact BY.out
          · have e1 : (q7 == q5) = false := by simp; exact fun h => hb (m5.1 h)
            have e2 : (b == 1) = false := by simp; exact hb
            clear hb m5
            go_wp2_with fail
            go_meet
            exact BY.out
    case rest =>
    have by2 : Below w.heap.size w wc := hcut
    clear hcut G5 by1
    clear Hs1
    clear Ht1
    clear Ho1
    clear Hs2
    clear Ht2
    clear Ho2
    clear Hq5
    clear Hq7
    go_wp2_with fail
    refine (drawMean_any _ _ _ _ (RB.below hR'.out by2) hb1).mono ?_
    rintro e n1 ⟨v, zs, rfl, hz, hzl, hsm, d1⟩
    have B1 := Lib.hid (bel2 by2 d1)
    clear d1 by2
    obtain ⟨A', cap', rfl, -, -⟩ := hz.parts
    have HZ := Lib.hid hz
    clear hz
    obtain ⟨s6, hs6⟩ : ∃ x, x = okF (meanB zs) (mkN (sumI zs) zs.length) := ⟨_, rfl⟩
    have Hs6 := Lib.hid hs6
    clear hs6
    obtain ⟨t6, ht6⟩ : ∃ x, x = okF (meanB zs) (mkD (sumI zs) zs.length) := ⟨_, rfl⟩
    have Ht6 := Lib.hid ht6
    clear ht6
    obtain ⟨o6, ho6⟩ : ∃ x, x = (meanB zs && mkB (sumI zs) zs.length) := ⟨_, rfl⟩
    have Ho6 := Lib.hid ho6
    clear ho6
    go_wp2_with fail
    refine (implMean_any _ _ _ zs HZ.out).mono ?_
    intro x n2 hg
    obtain ⟨rfl, d2⟩ := op_at Hs6.out Ht6.out Ho6.out hg
    have B2 := Lib.hid ((bel2 B1.out d2).alloc (bel2 B1.out d2).size (.cells #[.int .i64 s6, .int .i64 t6] 24))
    have Z2 := Lib.hid ((HZ.out.below d2).alloc (.cells #[.int .i64 s6, .int .i64 t6] 24))
    clear hg d2
    go_wp2_with fail
    refine (specMean_any _ _ _ zs Z2.out).mono ?_
    intro x n3 hg
    obtain ⟨rfl, d3⟩ := op_at Hs6.out Ht6.out Ho6.out hg
    have K32 := Lib.hid (((S2.new n2 s6 t6 24).below d3).alloc (.cells #[.int .i64 s6, .int .i64 t6] 24))
    have B3 := Lib.hid ((bel2 B2.out d3).alloc (bel2 B2.out d3).size (.cells #[.int .i64 s6, .int .i64 t6] 24))
    have Z3 := Lib.hid ((Z2.out.below d3).alloc (.cells #[.int .i64 s6, .int .i64 t6] 24))
    clear hg d3
    go_wp2_with fail
    refine (drawParseFrac_any _ _ _ _ (RB.below hR'.out B3.out) hb1).mono ?_
    rintro e n4 ⟨s, rfl, hsz, d4⟩
    have HSZ := Lib.hid (show s.size ≤ 1000000000 by omega)
    have K32' := Lib.hid (K32.out.below d4)
    have K34 := Lib.hid ((S2.new n3 s6 t6 24).below d4)
    have B4 := Lib.hid (bel2 B3.out d4)
    have Z4 := Lib.hid (Z3.out.below d4)
    clear d4 hsz
    obtain ⟨s8, hs8⟩ : ∃ x, x = okF (okQ s.data.toList) (fpN s.data.toList) := ⟨_, rfl⟩
    have Hs8 := Lib.hid hs8
    clear hs8
    obtain ⟨t8, ht8⟩ : ∃ x, x = okF (okQ s.data.toList) (fpD s.data.toList) := ⟨_, rfl⟩
    have Ht8 := Lib.hid ht8
    clear ht8
    obtain ⟨o8, ho8⟩ : ∃ x, x = okQ s.data.toList := ⟨_, rfl⟩
    have Ho8 := Lib.hid ho8
    clear ho8
    go_wp2_with fail
    refine (implParseFrac_any s _ HSZ.out (HT1.out.below B4.out) (HT2.out.below B4.out) (HT3.out.below B4.out)).mono ?_
    intro x n5 hg
    obtain ⟨rfl, d5⟩ := q_at Hs8.out Ht8.out Ho8.out hg
    have L32 := Lib.hid ((K32'.out.below d5).alloc (.cells #[.int .i64 s8, .int .i64 t8] 24))
    have L34 := Lib.hid ((K34.out.below d5).alloc (.cells #[.int .i64 s8, .int .i64 t8] 24))
    have B5 := Lib.hid ((bel2 B4.out d5).alloc (bel2 B4.out d5).size (.cells #[.int .i64 s8, .int .i64 t8] 24))
    have Z5 := Lib.hid ((Z4.out.below d5).alloc (.cells #[.int .i64 s8, .int .i64 t8] 24))
    clear hg d5
    go_wp2_with fail
    refine (specParseFrac_any s _ HSZ.out).mono ?_
    intro x n6 hg
    obtain ⟨rfl, d6⟩ := q_at Hs8.out Ht8.out Ho8.out hg
    have F32 := L32.out.below d6
    have F34 := L34.out.below d6
    have F37 := (S2.new n5 s8 t8 24).below d6
    have B6 := Lib.hid ((bel2 B5.out d6).alloc (bel2 B5.out d6).size (.cells #[.int .i64 s8, .int .i64 t8] 24))
    have Z6 := Lib.hid ((Z5.out.below d6).alloc (.cells #[.int .i64 s8, .int .i64 t8] 24))
    have l32 : n2.heap.size < n6.heap.size := cell_lt F32.1
    have l34 : n3.heap.size < n6.heap.size := cell_lt F34.1
    have l37 : n5.heap.size < n6.heap.size := cell_lt F37.1
    clear hg d6
    go_wp2_with fail
    cases ho : o6
    · clear ho
      go_quiet (fail)
      go_wp2
      go_ret
      exact ⟨rfl, belN B6.out _⟩
    · obtain ⟨e1, ⟨e2, e3⟩, e4, e5⟩ := mean_at Hs6.out Ht6.out Ho6.out ho
      clear ho
      have q1 := sumI_bd hsm.out hzl
      obtain ⟨S, hS⟩ : ∃ S, S = sumI zs := ⟨_, rfl⟩
      have HS := Lib.hid hS
      rw [← hS] at e1 q1
      clear hS
      obtain ⟨q1, q2⟩ := q1
      have p1 := mul_bd (x := S) (y := t6) (show -60000000 ≤ S ∧ S ≤ 60000000 by omega) ⟨e4, e5⟩
      have p2 := mul_bd (x := (zs.length : Int)) (y := s6) (by omega) ⟨e2, e3⟩
      obtain ⟨p1, p1'⟩ := p1
      obtain ⟨p2, p2'⟩ := p2
      have HQ := Lib.hid (show ∀ n, Calls Tryd.prog 22 #[.slice A' zs.length cap'] ((n6.alloc (.cells #[.int .i64 s8, .int .i64 t8] 24)).drewN n) (fun e w' => e = .returned (.int .i64 S) ∧ w' = (n6.alloc (.cells #[.int .i64 s8, .int .i64 t8] 24)).drewN n) from fun n => (qSum_any _ _ _ zs (Z6.out.drewN n) hzl hsm).mono fun e w' ⟨h1, h2⟩ => ⟨by rw [h1, HS.out], h2.symm⟩)
      go_quiet (first | (go_at_call 22; refine Calls.quiet_of_same (HQ.out _)))
      go_wp2
      go_ret
      exact ⟨rfl, belN B6.out _⟩
end Go.Proofs.YtnfijdkggnijaaaDoor.fnFracParts

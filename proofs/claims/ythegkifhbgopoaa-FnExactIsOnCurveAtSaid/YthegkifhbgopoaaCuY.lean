/-
  slices.Contains at rows of spots: what the calls return.
  Condition: the slice reads as the cells that are named.
-/
import Derived.Test.YthegkifhbgopoaaCuR
namespace Go.Proofs.Ythegkifhbgopoaa
set_option linter.unusedSimpArgs false
set_option linter.unusedVariables false
open Go.ChangeShapes Go.WideShapes Go.ChangeAt Go.RowKit
open Go.Sort (grow)

/-- The k-th spot of a row's cells is the one that is named. -/
def atSp (zs : List Int) (a b c d : Int) (k : Nat) : Prop := gd zs (k * 4) = a ∧ gd zs (k * 4 + 1) = b ∧ gd zs (k * 4 + 2) = c ∧ gd zs (k * 4 + 3) = d
instance (zs : List Int) (a b c d : Int) (k : Nat) : Decidable (atSp zs a b c d k) := by unfold atSp; infer_instance
def hasSp (zs : List Int) (a b c d : Int) : Nat → Bool
  | 0 => false
  | n + 1 => hasSp zs a b c d n || decide (atSp zs a b c d n)
theorem hasSp_iff (zs : List Int) (a b c d : Int) : ∀ n, hasSp zs a b c d n = true ↔ ∃ k, k < n ∧ atSp zs a b c d k
  | 0 => by simp [hasSp]
  | n + 1 => by
    rw [hasSp, Bool.or_eq_true, hasSp_iff zs a b c d n, decide_eq_true_eq]
    constructor
    · rintro (⟨k, hk, h⟩ | h)
      · exact ⟨k, by omega, h⟩
      · exact ⟨n, by omega, h⟩
    · rintro ⟨k, hk, h⟩
      by_cases e : k = n
      · exact .inr (e ▸ h)
      · exact .inl ⟨k, by omega, h⟩
set_option maxHeartbeats 4000000 in
set_option maxRecDepth 100000 in
theorem indexSp_any (w : World) (B : Nat) (v : Value) (n : Nat) (zs : List Int) (a b c d : Int) (h : FS 34 4 w B v n zs) : Calls Try.prog 100 #[v, spV a b c d] w fun e w' => ∃ r : Int, e = .returned (.int .i64 r) ∧ decide (0 ≤ r) = hasSp zs a b c d n ∧ Below w.heap.size w w' := by
  obtain ⟨A, cap, rfl, hm, hp⟩ := FS.parts h
  have HP := Lib.hid hp
  unfold maxLen at hm
  have hQ := Q4.new w a b c d
  have hb := (Below.refl w.heap.size w).alloc (Nat.le_refl _) (.cells #[.int .i64 a, .int .i64 b, .int .i64 c, .int .i64 d] 34)
  clear h hp
  go_enter Try.func100, Try.ntmps100
  go_upto_region 1 with fail
  generalize w.alloc (.cells #[.int .i64 a, .int .i64 b, .int .i64 c, .int .i64 d] 34) = W at hQ hb ⊢
  have HQ := Lib.hid hQ
  have HB := Lib.hid hb
  clear hQ hb
  go_wp2
  go_loopw [8] (fun i wr => ∃ k : Nat, k ≤ n ∧ i = .int .i64 k ∧ hasSp zs a b c d k = false ∧ ∃ q, wr = W.drewN q) (fun i _ => n - (intOf i).toNat)
  case atStart => exact ⟨0, by omega, rfl, rfl, 0, rfl⟩
  case round =>
    obtain ⟨k, hk, rfl, hno, q, rfl⟩ := hrel
    by_cases hlt : k < n
    · obtain ⟨g, rfl, h0⟩ := HP.out (k * 4) (by omega)
      obtain ⟨g1, e1, h1⟩ := HP.out (k * 4 + 1) (by omega)
      obtain ⟨g2, e2, h2⟩ := HP.out (k * 4 + 2) (by omega)
      obtain ⟨g3, e3, h3⟩ := HP.out (k * 4 + 3) (by omega)
      cases e1; cases e2; cases e3
      have HNX := Lib.hid (show hasSp zs a b c d (k + 1) = (hasSp zs a b c d k || decide (atSp zs a b c d k)) from rfl)
      have HAT := Lib.hid (show atSp zs a b c d k ↔ (gd zs (k * 4) = a ∧ gd zs (k * 4 + 1) = b ∧ gd zs (k * 4 + 2) = c ∧ gd zs (k * 4 + 3) = d) from Iff.rfl)
      obtain ⟨⟨q0, q1, q2, q3⟩, -⟩ := HQ.out.cells
      have c0 := (HB.out.cell (p := ⟨g, k * 4, none⟩) (cell_lt h0)).trans h0
      have c1 := (HB.out.cell (p := ⟨g, k * 4 + 1, none⟩) (cell_lt h1)).trans h1
      have c2 := (HB.out.cell (p := ⟨g, k * 4 + 2, none⟩) (cell_lt h2)).trans h2
      have c3 := (HB.out.cell (p := ⟨g, k * 4 + 3, none⟩) (cell_lt h3)).trans h3
      have z1 : ((k : Nat) : Int) < (n : Int) := by omega
      have z2 : (0 : Int) ≤ ((k : Nat) : Int) := by omega
      generalize gd zs (k * 4) = x0 at *
      generalize gd zs (k * 4 + 1) = x1 at *
      generalize gd zs (k * 4 + 2) = x2 at *
      generalize gd zs (k * 4 + 3) = x3 at *
      clear h0 h1 h2 h3
      by_cases he : x0 = a ∧ x1 = b ∧ x2 = c ∧ x3 = d
      · have HE := Lib.hid (show hasSp zs a b c d (k + 1) = true by rw [HNX.out, decide_eq_true (HAT.out.2 he)]; simp)
        obtain ⟨rfl, rfl, rfl, rfl⟩ := he
        clear hno
        go_wp2
        go_quiet (fail)
        go_wp2
        go_ret
        exact ⟨_, rfl, by rw [(hasSp_iff zs x0 x1 x2 x3 n).2 ⟨k, hlt, HAT.out.2 (by simp)⟩]; simp, belN (belN HB.out q) _⟩
      · have HE := Lib.hid (show hasSp zs a b c d (k + 1) = false by rw [HNX.out, hno, decide_eq_false (fun h => he (HAT.out.1 h))]; rfl)
        clear hno
        by_cases e0 : a = x0
        case neg =>
          have f0 : (a == x0) = false := by simpa using e0
          have g0 : decide (a = x0) = false := decide_eq_false e0
          go_wp2
          go_quiet (fail)
          go_wp2
          go_roundw
          case rel => exact ⟨k + 1, by omega, by go_num, HE.out, q + nq, rfl⟩
          case measure => simp [intOf]; omega
        case pos =>
          subst e0
          by_cases e1 : b = x1
          case neg =>
            have f1 : (b == x1) = false := by simpa using e1
            have g1 : decide (b = x1) = false := decide_eq_false e1
            go_wp2
            go_quiet (fail)
            go_wp2
            go_roundw
            case rel => exact ⟨k + 1, by omega, by go_num, HE.out, q + nq, rfl⟩
            case measure => simp [intOf]; omega
          case pos =>
            subst e1
            by_cases e2 : c = x2
            case neg =>
              have f2 : (c == x2) = false := by simpa using e2
              have g2 : decide (c = x2) = false := decide_eq_false e2
              go_wp2
              go_quiet (fail)
              go_wp2
              go_roundw
              case rel => exact ⟨k + 1, by omega, by go_num, HE.out, q + nq, rfl⟩
              case measure => simp [intOf]; omega
            case pos =>
              subst e2
              have e3 : d ≠ x3 := fun e => he (by simp [e])
              have f3 : (d == x3) = false := by simpa using e3
              have g3 : decide (d = x3) = false := decide_eq_false e3
              go_wp2
              go_quiet (fail)
              go_wp2
              go_roundw
              case rel => exact ⟨k + 1, by omega, by go_num, HE.out, q + nq, rfl⟩
              case measure => simp [intOf]; omega
    · obtain rfl : k = n := by omega
      go_wp2
      go_ret
      exact ⟨_, rfl, by rw [hno]; rfl, belN HB.out q⟩
set_option maxHeartbeats 1000000 in
theorem containsSp_any (w : World) (B : Nat) (v : Value) (n : Nat) (zs : List Int) (a b c d : Int) (h : FS 34 4 w B v n zs) : Calls Try.prog 56 #[v, spV a b c d] w fun e w' => e = .returned (.bool (hasSp zs a b c d n)) ∧ Below w.heap.size w w' := by
  have hQ := Q4.new w a b c d
  have hb := (Below.refl w.heap.size w).alloc (Nat.le_refl _) (.cells #[.int .i64 a, .int .i64 b, .int .i64 c, .int .i64 d] 34)
  have hI := FS.below h ((Below.refl _ _).alloc (Nat.le_refl _) (.cells #[.int .i64 a, .int .i64 b, .int .i64 c, .int .i64 d] 34))
  clear h
  go_enter Try.func56, Try.ntmps56
  go_upto_region 1 with fail
  generalize w.alloc (.cells #[.int .i64 a, .int .i64 b, .int .i64 c, .int .i64 d] 34) = W at hQ hb hI ⊢
  have HI := Lib.hid hI
  have HB := Lib.hid hb
  obtain ⟨⟨q0, q1, q2, q3⟩, -⟩ := hQ.cells
  clear hb hI
  go_wp2_with fail
  refine (indexSp_any W B v n zs a b c d HI.out).mono ?_
  rintro e w' ⟨r, rfl, hr, b1⟩
  have HR := Lib.hid hr
  clear hr q0 q1 q2 q3 hQ
  go_wp2
  go_ret
  exact ⟨ret_bool (by rw [← HR.out]), bel2 HB.out b1⟩
end Go.Proofs.Ythegkifhbgopoaa

/-
  IsOnCurveAt answers as its model at every argument, and leaves the list as it was.
  No condition: every slice of terms (nil and too long ones too) and every spot of four integers.
-/
import Derived.Test.YthegkifhbgopoaaRows
import Derived.WalkKit
import Derived.ProofKit
import Derived.OpenShut
import Derived.ShutString
import Derived.Below
import Derived.Carry
import Derived.Lib.SmallJoins
import Derived.SizedLaws
import Derived.Test.YthegkifhbgopoaaToSp
import Derived.Deep.RegionHeld3
import Derived.Deep.DeepCutAuto
import Derived.Test.YthegkifhbgopoaaWkFnExactIsOnCurveAt
namespace Go.Proofs.Ythegkifhbgopoaa.fnExactIsOnCurveAt
set_option linter.unusedSimpArgs false
set_option linter.unusedVariables false
open Go.ChangeShapes Go.WideShapes Go.ChangeAt Go.RowKit
open Go.ChangeMaps (open_string shut_string)
set_option linter.unusedVariables false
theorem own : ownKnob Try.prog.godebug = none := by kernel_rfl
theorem laidOut : laidOutB Try.prog = true := by kernel_rfl
/-- An integer in one cell. -/
theorem cell_int {H : Type} {enc : TypeId × Value → H} {W : World} {b m : Nat} {sp : Nat → Bool} {held : Bool} {t : TypeId} {k : IntKind} {v : Value} {y : DataW H × List MemPlace} (ht : Try.prog.underlying t = some (.int k)) (h : DataW.trod enc Try.prog W b sp held m t [v] = some y) : ∃ z : Int, v = .int k z ∧ (Lit.int k z).wf = true := by
  obtain ⟨z, hc, _, hw⟩ := DataW.trod_int ht h
  exact ⟨z, by simpa using hc, hw⟩
/-- An integer in one cell, whatever the program. -/
theorem cell_intG {H : Type} {enc : TypeId × Value → H} {P : Program} {W : World} {b m : Nat} {sp : Nat → Bool} {held : Bool} {t : TypeId} {k : IntKind} {v : Value} {y : DataW H × List MemPlace} (ht : P.underlying t = some (.int k)) (h : DataW.trod enc P W b sp held m t [v] = some y) : ∃ z : Int, v = .int k z ∧ (Lit.int k z).wf = true := by
  obtain ⟨z, hc, _, hw⟩ := DataW.trod_int ht h
  exact ⟨z, by simpa using hc, hw⟩
/-- A struct of two structs of two integers. -/
theorem open_spotG {H : Type} {enc : TypeId × Value → H} {P : Program} {W : World} {b : Nat} {sp : Nat → Bool} {held : Bool} {r : Reach} {b0 : Nat} {t u q : TypeId} {f0 f1 g0 g1 : Field} {v : Value} {x : DataW H} {p : List MemPlace}
    (hs : P.underlying t = some (.struct #[f0, f1])) (c4 : P.cellsOf t = 4) (e0 : f0.type = u ∧ f0.offset = 0) (e1 : f1.type = u ∧ f1.offset = 2) (hu : P.underlying u = some (.struct #[g0, g1])) (c2 : P.cellsOf u = 2) (d0 : g0.type = q ∧ g0.offset = 0) (d1 : g1.type = q ∧ g1.offset = 1) (hq : P.underlying q = some (.int .i64)) (c1 : P.cellsOf q = 1)
    (hv : Value.okWide P W r b0 t v) (h : DataW.Trod enc P W b sp held t v x p) :
    ∃ a0 a1 a2 a3 : Int, v = .agg #[.int .i64 a0, .int .i64 a1, .int .i64 a2, .int .i64 a3] ∧ (Lit.int .i64 a0).wf = true ∧ (Lit.int .i64 a1).wf = true ∧ (Lit.int .i64 a2).wf = true ∧ (Lit.int .i64 a3).wf = true := by
  obtain ⟨cs, rfl, hsz⟩ := okWide_struct hs hv
  obtain ⟨v0, v1, v2, v3, rfl⟩ := Go.Joins.array4 (hsz.trans c4)
  obtain ⟨fuel, hf⟩ := h
  obtain ⟨y0, y1, n, -, -, h0, h1⟩ := trod_struct2 hs hf
  rw [e0.1, e0.2, c2] at h0
  rw [e1.1, e1.2, c2] at h1
  have h0' : DataW.trod enc P W b sp held n u [v0, v1] = some y0 := by simpa [Value.cells] using h0
  have h1' : DataW.trod enc P W b sp held n u [v2, v3] = some y1 := by simpa [Value.cells] using h1
  obtain ⟨z0, z1, n0, -, -, k0, k1⟩ := trod_struct2 hu h0'
  obtain ⟨z2, z3, n1, -, -, k2, k3⟩ := trod_struct2 hu h1'
  rw [d0.1, d0.2, c1] at k0 k2
  rw [d1.1, d1.2, c1] at k1 k3
  obtain ⟨a0, rfl, w0⟩ := cell_intG hq (show DataW.trod enc P W b sp held n0 q [v0] = some z0 by simpa using k0)
  obtain ⟨a1, rfl, w1⟩ := cell_intG hq (show DataW.trod enc P W b sp held n0 q [v1] = some z1 by simpa using k1)
  obtain ⟨a2, rfl, w2⟩ := cell_intG hq (show DataW.trod enc P W b sp held n1 q [v2] = some z2 by simpa using k2)
  obtain ⟨a3, rfl, w3⟩ := cell_intG hq (show DataW.trod enc P W b sp held n1 q [v3] = some z3 by simpa using k3)
  exact ⟨a0, a1, a2, a3, rfl, w0, w1, w2, w3⟩
theorem cellsSo : Try.prog.cellsOf 26 = 4 := by kernel_rfl
theorem cellsSi : Try.prog.cellsOf 24 = 2 := by kernel_rfl
theorem cellsSq : Try.prog.cellsOf 3 = 1 := by kernel_rfl
set_option maxRecDepth 100000 in
set_option linter.constructorNameAsVariable false in
theorem open_spot {H : Type} {enc : TypeId × Value → H} {W : World} {b : Nat} {sp : Nat → Bool} {held : Bool} {r : Reach} {b0 : Nat} {v : Value} {x : DataW H} {p : List MemPlace} (hv : Value.okWide Try.prog W r b0 26 v) (h : DataW.Trod enc Try.prog W b sp held 26 v x p) :
    ∃ a0 a1 a2 a3 : Int, v = .agg #[.int .i64 a0, .int .i64 a1, .int .i64 a2, .int .i64 a3] ∧ (Lit.int .i64 a0).wf = true ∧ (Lit.int .i64 a1).wf = true ∧ (Lit.int .i64 a2).wf = true ∧ (Lit.int .i64 a3).wf = true := by
  have u26 := Try.underlying26
  have u24 := Try.underlying24
  have u3 := Try.underlying3
  have c4 := cellsSo
  have c2 := cellsSi
  have c1 := cellsSq
  generalize Try.prog = P at *
  exact open_spotG u26 c4 ⟨rfl, rfl⟩ ⟨rfl, rfl⟩ u24 c2 ⟨rfl, rfl⟩ ⟨rfl, rfl⟩ u3 c1 hv h
set_option maxRecDepth 100000 in
theorem lifted (os : Os) (started : os.Started) (H : Type) (enc : TypeId × Value → H) :
    ReturnsInHanded {} Try.checked os 3 .any (Rows.fnExactIsOnCurveAtSpec.pre6 enc Try.prog Try.f3 Rows.fnExactIsOnCurveAtRow.domain false) (Rows.fnExactIsOnCurveAtSpec.post enc Try.prog Try.f3 false true false false) := by
  refine returnsInHanded_of_change_sized (C := Try.checked) own started (by kernel_rfl) Try.func3
    (ChangeSpec.witness6 (enc := enc) (C := Try.checked) false ⟨#[], #[.slice none 0 0, .agg #[.int .i64 0, .int .i64 0, .int .i64 0, .int .i64 0]], []⟩ 8 (by kernel_rfl) (by kernel_rfl) (by kernel_rfl) (by kernel_rfl)) ?_
  intro W base args ds gs before hval0 hW hcnd hsz _
  have hval : ∀ (j : Nat) t v, Try.f3.params[j]? = some t → args[j]? = some v → Value.okWide Try.prog W .any base t v := hval0
  have hW' := hW
  obtain ⟨p, q, hA0, hV, rfl, hfz, hnd⟩ := hW
  have hA : DataW.TrodAll enc Try.prog W 0 (fun _ => true) true Try.f3.params.toList args.toList ds p := hA0
  rw [Try.params3] at hA hval hsz
  obtain ⟨v0, vs0, d0, ds0, p0, q0, hargs, rfl, rfl, h0, r0⟩ := trodAll_cons hA
  obtain ⟨v1, vs1, d1, ds1, p1, q1, rfl, rfl, rfl, h1, r1⟩ := trodAll_cons r0
  obtain ⟨rfl, rfl, rfl⟩ := trodAll_nil r1
  obtain rfl : args = #[v0, v1] := by cases args; simp_all
  obtain ⟨rfl, rfl⟩ := trodVars_none hV
  obtain ⟨a0, len0, cap0, rfl⟩ := okWide_slice Try.underlying22 (hval 0 22 v0 rfl rfl)
  have k0 := h0
  have lt0 : ∀ x ∈ p0, x.block < W.heap.size := by obtain ⟨m, hm⟩ := k0; exact DataW.trod_lt m _ _ _ hm
  obtain ⟨z0, w0⟩ : ∃ zs, IsRowF 3 W a0 len0 zs := by
    obtain ⟨fuel, hf⟩ := h0
    rcases open_structs Try.underlying22 Try.underlying79 (by kernel_rfl) (by kernel_rfl) 3 (by kernel_rfl) rfl (by decide) hf with hcs | ⟨x, l, c, zs, hcs, hz⟩
    · simp [Value.cells] at hcs
      obtain ⟨rfl, rfl, rfl⟩ := hcs
      exact ⟨[], by simp, by simp [maxLen], fun k hk => by simp at hk⟩
    · simp [Value.cells] at hcs
      obtain ⟨rfl, rfl, rfl⟩ := hcs
      exact ⟨zs, hz⟩
  have k1 := h1
  have lt1 : ∀ x ∈ p1, x.block < W.heap.size := by obtain ⟨m, hm⟩ := k1; exact DataW.trod_lt m _ _ _ hm
  obtain ⟨a1_0, a1_1, a1_2, a1_3, rfl, w1_0, w1_1, w1_2, w1_3⟩ := open_spot (hval 1 26 v1 rfl rfl) h1
  clear hA0 hval0
  refine (walk a0 len0 cap0 z0 a1_0 a1_1 a1_2 a1_3 W w0 w1_0 w1_1 w1_2 w1_3).mono fun e W' ⟨he, bel⟩ => ?_
  subst he
  exact ⟨_, rfl, _, _, _, [], _, [], hW', (trodAll_cons_mk (shut_bool Try.underlying4 _) trodAll_mk0), (trodAll_cons_mk (Below.trod laidOut (by kernel_rfl) (of_decide_eq_true (by kernel_rfl)) k0 bel lt0) (trodAll_cons_mk (Below.trod laidOut (by kernel_rfl) (of_decide_eq_true (by kernel_rfl)) k1 bel lt1) trodAll_mk0)), rfl, bel.frame _, fun h => by cases h⟩

theorem over : Rows.fnExactIsOnCurveAtRow.holds Try.pinned (OpenSpec.ofChange Rows.fnExactIsOnCurveAtSpec) :=
  OpenClaim.holds_of_wide 3 Try.f3 rfl rfl rfl rfl rfl rfl rfl ⟨rfl, rfl, rfl, rfl, rfl⟩ rfl rfl rfl rfl rfl (by kernel_rfl) Try.func3 (by kernel_rfl)
    (of_decide_eq_true (by kernel_rfl)) (by unfold Func.isWrapper; first | (rw [if_pos (by decide +kernel)]; kernel_rfl) | (rw [if_neg (by decide +kernel)]; exact ⟨rfl, rfl⟩))
    (fun os started H enc _ => lifted os started H enc)

/-- The statement. -/
theorem proved : Rows.FnExactIsOnCurveAtSaid := over
#print axioms proved
end Go.Proofs.Ythegkifhbgopoaa.fnExactIsOnCurveAt

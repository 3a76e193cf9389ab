/-
  How terms are compared: what the call returns.
  No condition.
-/
import Derived.Test.YtoecjdpeldcajaaTm
namespace Go.Proofs.Ytoecjdpeldcajaa
set_option linter.unusedSimpArgs false
set_option linter.unusedVariables false
open Go.ChangeShapes Go.WideShapes Go.ChangeAt Go.RowKit
open Go.Sort (grow)

theorem IS.drew {w : World} {B : Nat} {v : Value} {zs : List Int} (h : IS w B v zs) : IS w.drew B v zs := h
theorem IS.lit3 (w : World) (x y z : Int) : IS (w.alloc (.cells #[.int .i64 x, .int .i64 y, .int .i64 z] 3)) w.heap.size (.slice (some ⟨w.heap.size, 0, none⟩) 3 3) [x, y, z] :=
  World.ownsRow_lit w #[.int .i64 x, .int .i64 y, .int .i64 z] 3 (Nat.le_refl _) (by decide) rfl
set_option maxHeartbeats 1000000 in
set_option maxRecDepth 100000 in
theorem compareTerms_any (s t : Tm) (w : World) : Calls Try.prog 74 #[tmV s, tmV t] w fun e w' => e = .returned (.int .i64 (cmpT s t)) ∧ Gr w w' := by
  have hS := S6.new w s t 53 53
  obtain ⟨a, b, c⟩ := s
  obtain ⟨a', b', c'⟩ := t
  have H := fun (W : World) (n : Nat) (hn : n = W.heap.size) => show Calls Try.prog 98 #[.slice (some ⟨n, 0, none⟩) 3 3] (W.alloc (.cells #[.int .i64 (cmI a a'), .int .i64 (cmI b b'), .int .i64 (cmI c c')] 3)).drew fun e w' => e = .returned (.int .i64 (orL [cmI a a', cmI b b', cmI c c'])) ∧ (W.alloc (.cells #[.int .i64 (cmI a a'), .int .i64 (cmI b b'), .int .i64 (cmI c c')] 3)).drew = w' by
    subst hn
    exact or_any _ _ _ _ (IS.drew (IS.lit3 W _ _ _))
  have HE := Lib.hid (show cmpT (a, b, c) (a', b', c') = orL [cmI a a', cmI b b', cmI c c'] from rfl)
  have HC := Lib.hid (fun a b W => compare_any a b W)
  rw [HE.out]
  obtain ⟨o, ho⟩ : ∃ o, o = orL [cmI a a', cmI b b', cmI c c'] := ⟨_, rfl⟩
  rw [← ho] at H ⊢
  have HO := Lib.hid (H ((w.alloc (.cells #[.int .i64 a, .int .i64 b, .int .i64 c] 53)).alloc (.cells #[.int .i64 a', .int .i64 b', .int .i64 c'] 53)) (w.heap.size + 1 + 1) (by rw [World.size_alloc, World.size_alloc]))
  clear ho H HE
  go_enter Try.func74, Try.ntmps74
  go_wp2
  go_region_held3 (fun w' => S6 w' w.heap.size (w.heap.size + 1) (a, b, c) (a', b', c')) (repeat' (first | with_reducible assumption | with_reducible refine S6.drew ?_ | with_reducible refine S6.drewN ?_ _ | with_reducible refine S6.alloc ?_ _)) (first | (go_at_call 99; refine (HC.out _ _ _).mono ?_; rintro e w' ⟨rfl, rfl⟩) | (go_at_call 98; refine HO.out.mono ?_; rintro e w' ⟨rfl, rfl⟩))
  go_wp2
  go_ret
  exact ⟨rfl, 1, _, by rw [Sort.alloc_eq_grow, Sort.alloc_eq_grow, Sort.alloc_eq_grow, Sort.grow_grow, Sort.grow_grow]; rfl⟩
/-- A term's three cells in a block of the call's own. -/
def B3 (w : World) (g : Nat) (t : Tm) : Prop := T3 w g t ∧ w.frozen? ⟨g, 0, none⟩ = false ∧ w.frozen? ⟨g, 1, none⟩ = false ∧ w.frozen? ⟨g, 2, none⟩ = false
theorem B3.below {w w' : World} {g : Nat} {t : Tm} (h : B3 w g t) (hb : Below w.heap.size w w') : B3 w' g t := by
  obtain ⟨h1, h4, h5, h6⟩ := h
  have hg := cell_lt h1.1
  exact ⟨h1.below hb, (hb.frozen (p := ⟨g, 0, none⟩) hg).trans h4, (hb.frozen (p := ⟨g, 1, none⟩) hg).trans h5, (hb.frozen (p := ⟨g, 2, none⟩) hg).trans h6⟩
theorem B3.new (w : World) (t : Tm) (T : TypeId) : B3 (w.alloc (.cells #[.int .i64 t.1, .int .i64 t.2.1, .int .i64 t.2.2] T)) w.heap.size t := by
  refine ⟨T3.new w t T, ?_, ?_, ?_⟩ <;> simp [go_sem]
theorem B3.old {w : World} {g : Nat} {t : Tm} (h : B3 w g t) (o : Obj) : B3 (w.alloc o) g t := h.below ((Below.refl _ _).alloc (Nat.le_refl _) o)
theorem T3.load {w : World} {g : Nat} {t : Tm} (h : T3 w g t) : (loadVar 53 ⟨g, 0, none⟩).run Try.prog w = .ok (tmV t) w := by
  obtain ⟨h1, h2, h3⟩ := h
  simp [loadVar, go_sem, h1, h2, h3]
theorem T3.result {w : World} {g : Nat} {t : Tm} (h : T3 w g t) {fn : Func} {p : Tmp} {ts : Array Value} (hr : fn.results = #[.cell p 53]) (hp : ts.getD p undef = .pointer (some ⟨g, 0, none⟩)) : (Go.results fn ts).run Try.prog w = Result.ok (tmV t) w := by
  have hp' : ts[p]?.getD undef = .pointer (some ⟨g, 0, none⟩) := by simpa using hp
  have ha : (asAddr (Value.pointer (some ⟨g, 0, none⟩))).run Try.prog w = .ok ⟨g, 0, none⟩ w := rfl
  simp only [Go.results, hr]
  simp [Sem.run_bind, Result.andThen, hp', ha, h.load]
/-- Three stores into a block: it holds the new term. -/
theorem T3.stores {w : World} {g : Nat} {s : Tm} (h : T3 w g s) (t : Tm) : T3 (((w.setCell ⟨g, 0, none⟩ (.int .i64 t.1)).setCell ⟨g, 1, none⟩ (.int .i64 t.2.1)).setCell ⟨g, 2, none⟩ (.int .i64 t.2.2)) g t := by
  obtain ⟨h1, h2, h3⟩ := h
  have a1 := World.cell?_setCell_same w ⟨g, 0, none⟩ (.int .i64 t.1) h1
  have a2 : (w.setCell ⟨g, 0, none⟩ (.int .i64 t.1)).cell? ⟨g, 1, none⟩ = some (.int .i64 s.2.1) := (World.cell?_setCell_other _ _ _ _ (by simp)).trans h2
  have a3 : (w.setCell ⟨g, 0, none⟩ (.int .i64 t.1)).cell? ⟨g, 2, none⟩ = some (.int .i64 s.2.2) := (World.cell?_setCell_other _ _ _ _ (by simp)).trans h3
  have b1 : ((w.setCell ⟨g, 0, none⟩ (.int .i64 t.1)).setCell ⟨g, 1, none⟩ (.int .i64 t.2.1)).cell? ⟨g, 0, none⟩ = some (.int .i64 t.1) := (World.cell?_setCell_other _ _ _ _ (by simp)).trans a1
  have b2 := World.cell?_setCell_same (w.setCell ⟨g, 0, none⟩ (.int .i64 t.1)) ⟨g, 1, none⟩ (.int .i64 t.2.1) a2
  have b3 : ((w.setCell ⟨g, 0, none⟩ (.int .i64 t.1)).setCell ⟨g, 1, none⟩ (.int .i64 t.2.1)).cell? ⟨g, 2, none⟩ = some (.int .i64 s.2.2) := (World.cell?_setCell_other _ _ _ _ (by simp)).trans a3
  exact ⟨(World.cell?_setCell_other _ _ _ _ (by simp)).trans b1, (World.cell?_setCell_other _ _ _ _ (by simp)).trans b2, World.cell?_setCell_same _ _ _ b3⟩
set_option maxHeartbeats 400000 in
theorem without_any (t : Tm) (w : World) : Calls Try.prog 75 #[tmV t] w fun e w' => e = .returned (tmV (woT t)) ∧ Gr w w' := by
  obtain ⟨a, b, c⟩ := t
  go_enter Try.func75, Try.ntmps75
  go_wp2
  refine bodyPost_ret (T3.result (t := (a, b, 0)) (g := w.heap.size + 1) ?_ rfl rfl) rfl ⟨rfl, gr2 _ _ _⟩
  have := T3.new (w.alloc (.cells #[.int .i64 a, .int .i64 b, .int .i64 0] 53)) (a, b, 0) 53
  rwa [World.size_alloc] at this
theorem eqTm : ∀ (s t : Tm) (w : World), Sem.run Try.prog (binOp .eql 53 (tmV s) (tmV t)) w = .ok (.bool (s.1 == t.1 && (s.2.1 == t.2.1 && s.2.2 == t.2.2))) w := by
  intro x y w
  have u3 := Try.underlying3
  have a3 := Try.isAgg3
  have z3 := Try.sizeOf3
  have hS : Try.prog.underlying 53 = some (.struct (Try.prog.fieldsOf 53)) := by kernel_rfl
  have hp : Try.prog.stoodInHeld 53 = false := by kernel_rfl
  rw [run_eql_struct, show (10000 : Nat) = 9999 + 1 from rfl, run_equalIn_agg w 9999 53 _ _ hS hp]
  simp only [Program.fieldsOf, Try.underlying53]
  go_simp
  by_cases h1 : x.1 = y.1 <;> by_cases h2 : x.2.1 = y.2.1 <;> by_cases h3 : x.2.2 = y.2.2 <;> simp [h1, h2, h3]
theorem woT_eq (s t : Tm) : ((woT s).1 == (woT t).1 && ((woT s).2.1 == (woT t).2.1 && (woT s).2.2 == (woT t).2.2)) = sameTB s t := by
  unfold woT sameTB
  by_cases h1 : s.1 = t.1 <;> by_cases h2 : s.2.1 = t.2.1 <;> simp [h1, h2]
set_option maxHeartbeats 1000000 in
set_option maxRecDepth 100000 in
theorem haveSame_any (s t : Tm) (w : World) : Calls Try.prog 68 #[tmV s, tmV t] w fun e w' => e = .returned (.bool (sameTB s t)) ∧ Gr w w' := by
  obtain ⟨c0, c1, c2, d0, d1, d2⟩ := S6.new w s t 53 53
  have g0 := cell_grown (cell_lt c0) c0
  have g1 := cell_grown (cell_lt c1) c1
  have g2 := cell_grown (cell_lt c2) c2
  have e0 := cell_grown (cell_lt d0) d0
  have e1 := cell_grown (cell_lt d1) d1
  have e2 := cell_grown (cell_lt d2) d2
  have he : ∀ w, Sem.run Try.prog (binOp .eql 53 (tmV (woT s)) (tmV (woT t))) w = .ok (.bool (sameTB s t)) w := fun w => by rw [eqTm, woT_eq]
  have hg0 := gr2 w (.cells #[.int .i64 s.1, .int .i64 s.2.1, .int .i64 s.2.2] 53) (.cells #[.int .i64 t.1, .int .i64 t.2.1, .int .i64 t.2.2] 53)
  have HG := Lib.hid hg0
  have HC := Lib.hid (fun t W => without_any t W)
  obtain ⟨r, hr⟩ : ∃ r, r = sameTB s t := ⟨_, rfl⟩
  rw [← hr] at he ⊢
  clear hr hg0 c0 c1 c2 d0 d1 d2
  go_enter Try.func68, Try.ntmps68
  go_wp2
  refine wp_region_quiet_grown (by kernel_rfl) (by kernel_rfl) ?_
  repeat (go_big_quiet_step (first | (go_at_call 75; refine Calls.grown_of (HC.out _ _))))
  refine wpQuiet_nil ?_
  intro _ hw'
  obtain ⟨⟨nq, osq⟩, hw''⟩ := hw'
  subst hw''
  go_wp2
  go_ret
  exact ⟨rfl, HG.out.trans ⟨_, _, rfl⟩⟩
end Go.Proofs.Ytoecjdpeldcajaa

/-
  How terms are compared: what the call returns.
  No condition.
-/
import Derived.Test.YtoecjdpeldcajaaGreatTm
namespace Go.Proofs.YtoecjdpeldcajaaGreat
set_option linter.unusedSimpArgs false
set_option linter.unusedVariables false
open Go.ChangeShapes Go.WideShapes Go.ChangeAt Go.RowKit
open Go.Sort (grow)

theorem IS.drew {w : World} {B : Nat} {v : Value} {zs : List Int} (h : IS w B v zs) : IS w.drew B v zs := h
theorem IS.lit3 (w : World) (x y z : Int) : IS (w.alloc (.cells #[.int .i64 x, .int .i64 y, .int .i64 z] 3)) w.heap.size (.slice (some ⟨w.heap.size, 0, none⟩) 3 3) [x, y, z] :=
  World.ownsRow_lit w #[.int .i64 x, .int .i64 y, .int .i64 z] 3 (Nat.le_refl _) (by decide) rfl
set_option maxHeartbeats 1000000 in
set_option maxRecDepth 100000 in
theorem compareTerms_any (s t : Tm) (w : World) : Calls Tryz.prog 41 #[tmV s, tmV t] w fun e w' => e = .returned (.int .i64 (cmpT s t)) ∧ Gr w w' := by
  have hS := S6.new w s t 40 40
  obtain ⟨a, b, c⟩ := s
  obtain ⟨a', b', c'⟩ := t
  have H := fun (W : World) (n : Nat) (hn : n = W.heap.size) => show Calls Tryz.prog 58 #[.slice (some ⟨n, 0, none⟩) 3 3] (W.alloc (.cells #[.int .i64 (cmI a a'), .int .i64 (cmI b b'), .int .i64 (cmI c c')] 3)).drew fun e w' => e = .returned (.int .i64 (orL [cmI a a', cmI b b', cmI c c'])) ∧ (W.alloc (.cells #[.int .i64 (cmI a a'), .int .i64 (cmI b b'), .int .i64 (cmI c c')] 3)).drew = w' by
    subst hn
    exact or_any _ _ _ _ (IS.drew (IS.lit3 W _ _ _))
  have HE := Lib.hid (show cmpT (a, b, c) (a', b', c') = orL [cmI a a', cmI b b', cmI c c'] from rfl)
  have HC := Lib.hid (fun a b W => compare_any a b W)
  rw [HE.out]
  obtain ⟨o, ho⟩ : ∃ o, o = orL [cmI a a', cmI b b', cmI c c'] := ⟨_, rfl⟩
  rw [← ho] at H ⊢
  have HO := Lib.hid (H ((w.alloc (.cells #[.int .i64 a, .int .i64 b, .int .i64 c] 40)).alloc (.cells #[.int .i64 a', .int .i64 b', .int .i64 c'] 40)) (w.heap.size + 1 + 1) (by rw [World.size_alloc, World.size_alloc]))
  clear ho H HE
  go_enter Tryz.func41, Tryz.ntmps41
  go_wp2
  go_region_held3 (fun w' => S6 w' w.heap.size (w.heap.size + 1) (a, b, c) (a', b', c')) (repeat' (first | with_reducible assumption | with_reducible refine S6.drew ?_ | with_reducible refine S6.drewN ?_ _ | with_reducible refine S6.alloc ?_ _)) (first | (go_at_call 59; refine (HC.out _ _ _).mono ?_; rintro e w' ⟨rfl, rfl⟩) | (go_at_call 58; refine HO.out.mono ?_; rintro e w' ⟨rfl, rfl⟩))
  go_wp2
  go_ret
  exact ⟨rfl, 1, _, by rw [Sort.alloc_eq_grow, Sort.alloc_eq_grow, Sort.alloc_eq_grow, Sort.grow_grow, Sort.grow_grow]; rfl⟩
/-- A term's three cells in a block of the call's own. -/
def B3 (w : World) (g : Nat) (t : Tm) : Prop := T3 w g t ∧ w.frozen? ⟨g, 0, none⟩ = false ∧ w.frozen? ⟨g, 1, none⟩ = false ∧ w.frozen? ⟨g, 2, none⟩ = false
theorem B3.below {w w' : World} {g : Nat} {t : Tm} (h : B3 w g t) (hb : Below w.heap.size w w') : B3 w' g t := by
  obtain ⟨h1, h4, h5, h6⟩ := h
  have hg := cell_lt h1.1
  exact ⟨h1.below hb, (hb.frozen (p := ⟨g, 0, none⟩) hg).trans h4, (hb.frozen (p := ⟨g, 1, none⟩) hg).trans h5, (hb.frozen (p := ⟨g, 2, none⟩) hg).trans h6⟩
theorem B3.new (w : World) (t : Tm) (T : TypeId) : B3 (w.alloc (.cells #[.int .i64 t.1, .int .i64 t.2.1, .int .i64 t.2.2] T)) w.heap.size t := by
  refine ⟨T3.new w t T, ?_, ?_, ?_⟩ <;> simp [go_sem]
theorem B3.old {w : World} {g : Nat} {t : Tm} (h : B3 w g t) (o : Obj) : B3 (w.alloc o) g t := h.below ((Below.refl _ _).alloc (Nat.le_refl _) o)
theorem T3.load {w : World} {g : Nat} {t : Tm} (h : T3 w g t) : (loadVar 40 ⟨g, 0, none⟩).run Tryz.prog w = .ok (tmV t) w := by
  obtain ⟨h1, h2, h3⟩ := h
  simp [loadVar, go_sem, h1, h2, h3]
theorem T3.result {w : World} {g : Nat} {t : Tm} (h : T3 w g t) {fn : Func} {p : Tmp} {ts : Array Value} (hr : fn.results = #[.cell p 40]) (hp : ts.getD p undef = .pointer (some ⟨g, 0, none⟩)) : (Go.results fn ts).run Tryz.prog w = Result.ok (tmV t) w := by
  have hp' : ts[p]?.getD undef = .pointer (some ⟨g, 0, none⟩) := by simpa using hp
  have ha : (asAddr (Value.pointer (some ⟨g, 0, none⟩))).run Tryz.prog w = .ok ⟨g, 0, none⟩ w := rfl
  simp only [Go.results, hr]
  simp [Sem.run_bind, Result.andThen, hp', ha, h.load]
/-- Three stores into a block: it holds the new term. -/
theorem T3.stores {w : World} {g : Nat} {s : Tm} (h : T3 w g s) (t : Tm) : T3 (((w.setCell ⟨g, 0, none⟩ (.int .i64 t.1)).setCell ⟨g, 1, none⟩ (.int .i64 t.2.1)).setCell ⟨g, 2, none⟩ (.int .i64 t.2.2)) g t := by
  obtain ⟨h1, h2, h3⟩ := h
  have a1 := World.cell?_setCell_same w ⟨g, 0, none⟩ (.int .i64 t.1) h1
  have a2 : (w.setCell ⟨g, 0, none⟩ (.int .i64 t.1)).cell? ⟨g, 1, none⟩ = some (.int .i64 s.2.1) := (World.cell?_setCell_other _ _ _ _ (by simp)).trans h2
  have a3 : (w.setCell ⟨g, 0, none⟩ (.int .i64 t.1)).cell? ⟨g, 2, none⟩ = some (.int .i64 s.2.2) := (World.cell?_setCell_other _ _ _ _ (by simp)).trans h3
  have b1 : ((w.setCell ⟨g, 0, none⟩ (.int .i64 t.1)).setCell ⟨g, 1, none⟩ (.int .i64 t.2.1)).cell? ⟨g, 0, none⟩ = some (.int .i64 t.1) := (World.cell?_setCell_other _ _ _ _ (by simp)).trans a1
  have b2 := World.cell?_setCell_same (w.setCell ⟨g, 0, none⟩ (.int .i64 t.1)) ⟨g, 1, none⟩ (.int .i64 t.2.1) a2
  have b3 : ((w.setCell ⟨g, 0, none⟩ (.int .i64 t.1)).setCell ⟨g, 1, none⟩ (.int .i64 t.2.1)).cell? ⟨g, 2, none⟩ = some (.int .i64 s.2.2) := (World.cell?_setCell_other _ _ _ _ (by simp)).trans a3
  exact ⟨(World.cell?_setCell_other _ _ _ _ (by simp)).trans b1, (World.cell?_setCell_other _ _ _ _ (by simp)).trans b2, World.cell?_setCell_same _ _ _ b3⟩
set_option maxHeartbeats 400000 in
theorem without_any (t : Tm) (w : World) : Calls Tryz.prog 42 #[tmV t] w fun e w' => e = .returned (tmV (woT t)) ∧ Gr w w' := by
  obtain ⟨a, b, c⟩ := t
  go_enter Tryz.func42, Tryz.ntmps42
  go_wp2
  refine bodyPost_ret (T3.result (t := (a, b, 0)) (g := w.heap.size + 1) ?_ rfl rfl) rfl ⟨rfl, gr2 _ _ _⟩
  have := T3.new (w.alloc (.cells #[.int .i64 a, .int .i64 b, .int .i64 0] 40)) (a, b, 0) 40
  rwa [World.size_alloc] at this
end Go.Proofs.YtoecjdpeldcajaaGreat

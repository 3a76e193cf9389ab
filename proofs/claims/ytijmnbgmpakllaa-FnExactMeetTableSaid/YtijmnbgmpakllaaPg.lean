/-
  Points as values and in rows; their tests, orders and turns in the program and in the model: what each call returns.
  Conditions: coordinates of turns are small.
-/
import Derived.Test.YtijmnbgmpakllaaHullN
import Derived.Test.YtijmnbgmpakllaaPt
import Derived.Test.YtijmnbgmpakllaaCmp
import Derived.StillTailTactics
import Derived.Laws.StructEq
import Derived.Deep.RegionHeld3
import Derived.Deep.DeepCutAuto
namespace Go.Proofs.Ytijmnbgmpakllaa
set_option linter.unusedSimpArgs false
set_option linter.unusedVariables false
open Go.ChangeShapes Go.WideShapes Go.ChangeAt Go.RowKit
open Go.Sort (grow)

theorem mul_bd {a b : Int} (M N : Nat) (ha : -(M : Int) ≤ a ∧ a ≤ M) (hb : -(N : Int) ≤ b ∧ b ≤ N) : -((M * N : Nat) : Int) ≤ a * b ∧ a * b ≤ ((M * N : Nat) : Int) := by
  have h1 : (a * b).natAbs = a.natAbs * b.natAbs := Int.natAbs_mul a b
  have h2 : a.natAbs * b.natAbs ≤ M * N := Nat.mul_le_mul (by omega) (by omega)
  rw [← h1] at h2
  omega
/-- A point whose coordinates are small. -/
def Sm (k : Nat) (p : Pt) : Prop := -(k : Int) ≤ p.1 ∧ p.1 ≤ k ∧ -(k : Int) ≤ p.2 ∧ p.2 ≤ k
theorem Sm.of {p : Pt} (h : ptG p = true) : Sm 100 p := by have := (ptG_iff p).1 h; unfold Sm; omega
theorem Sm.mono {k m : Nat} {p : Pt} (h : Sm k p) (hk : k ≤ m) : Sm m p := by unfold Sm at *; omega
theorem Sm.df {k : Nat} {a b : Pt} (ha : Sm k a) (hb : Sm k b) : Sm (2 * k) (dfP a b) := by unfold Sm dfP at *; simp only; omega
theorem Sm.ad {k : Nat} {a b : Pt} (ha : Sm k a) (hb : Sm k b) : Sm (2 * k) (adP a b) := by unfold Sm adP at *; simp only; omega
theorem trn_df (a b c : Pt) : trn a b c = crP (dfP a b) (dfP b c) := by unfold trn crP dfP; grind
theorem crP_bd {k m : Nat} {u v : Pt} (hu : Sm k u) (hv : Sm m v) : (-((k * m : Nat) : Int) ≤ u.1 * v.2 ∧ u.1 * v.2 ≤ ((k * m : Nat) : Int)) ∧ (-((k * m : Nat) : Int) ≤ u.2 * v.1 ∧ u.2 * v.1 ≤ ((k * m : Nat) : Int)) := by
  unfold Sm at *
  exact ⟨mul_bd k m (by omega) (by omega), mul_bd k m (by omega) (by omega)⟩
/-- A point's two cells in a row, from place i on. -/
abbrev X2 (w : World) (g i : Nat) (t : Pt) : Prop := w.cell? ⟨g, i, none⟩ = some (.int .i64 t.1) ∧ w.cell? ⟨g, i + 1, none⟩ = some (.int .i64 t.2)
/-- A point's block. -/
abbrev P2 (w : World) (g : Nat) (t : Pt) : Prop := w.cell? ⟨g, 0, none⟩ = some (.int .i64 t.1) ∧ w.cell? ⟨g, 1, none⟩ = some (.int .i64 t.2)
theorem X2.below {w w' : World} {g i : Nat} {t : Pt} (h : X2 w g i t) (hb : Below w.heap.size w w') : X2 w' g i t := ⟨box_o h.1 hb, box_o h.2 hb⟩
theorem P2.below {w w' : World} {g : Nat} {t : Pt} (h : P2 w g t) (hb : Below w.heap.size w w') : P2 w' g t := X2.below (i := 0) h hb
theorem X2.grown {w : World} {g i : Nat} {t : Pt} (h : X2 w g i t) : (∀ n os, (grow (w.drewN n) os).cell? ⟨g, i, none⟩ = some (.int .i64 t.1)) ∧ (∀ n os, (grow (w.drewN n) os).cell? ⟨g, i + 1, none⟩ = some (.int .i64 t.2)) :=
  ⟨cell_grown (cell_lt h.1) h.1, cell_grown (cell_lt h.2) h.2⟩
theorem P2.grown {w : World} {g : Nat} {t : Pt} (h : P2 w g t) : (∀ n os, (grow (w.drewN n) os).cell? ⟨g, 0, none⟩ = some (.int .i64 t.1)) ∧ (∀ n os, (grow (w.drewN n) os).cell? ⟨g, 1, none⟩ = some (.int .i64 t.2)) := X2.grown (i := 0) h
theorem P2.new (w : World) (t : Pt) (T : TypeId) : P2 (w.alloc (.cells #[.int .i64 t.1, .int .i64 t.2] T)) w.heap.size t := by
  refine ⟨?_, ?_⟩ <;> simp [go_sem]
theorem P2.alloc {w : World} {g : Nat} {t : Pt} (h : P2 w g t) (o : Obj) : P2 (w.alloc o) g t := h.below ((Below.refl _ _).alloc (Nat.le_refl _) o)
/-- Two and three points' blocks. -/
abbrev P4 (w : World) (g h : Nat) (s t : Pt) : Prop := w.cell? ⟨g, 0, none⟩ = some (.int .i64 s.1) ∧ w.cell? ⟨g, 1, none⟩ = some (.int .i64 s.2) ∧ w.cell? ⟨h, 0, none⟩ = some (.int .i64 t.1) ∧ w.cell? ⟨h, 1, none⟩ = some (.int .i64 t.2)
theorem P4.of {w : World} {g h : Nat} {s t : Pt} (a : P2 w g s) (b : P2 w h t) : P4 w g h s t := ⟨a.1, a.2, b.1, b.2⟩
theorem P4.below {w w' : World} {g h : Nat} {s t : Pt} (a : P4 w g h s t) (hb : Below w.heap.size w w') : P4 w' g h s t := P4.of (P2.below ⟨a.1, a.2.1⟩ hb) (P2.below ⟨a.2.2.1, a.2.2.2⟩ hb)
theorem P4.drew {w : World} {g h : Nat} {s t : Pt} (a : P4 w g h s t) : P4 w.drew g h s t := a
theorem P4.drewN {w : World} {g h : Nat} {s t : Pt} (a : P4 w g h s t) (n : Nat) : P4 (w.drewN n) g h s t := a
theorem P4.alloc {w : World} {g h : Nat} {s t : Pt} (a : P4 w g h s t) (o : Obj) : P4 (w.alloc o) g h s t := a.below ((Below.refl _ _).alloc (Nat.le_refl _) o)
theorem P4.new (w : World) (s t : Pt) (T U : TypeId) : P4 ((w.alloc (.cells #[.int .i64 s.1, .int .i64 s.2] T)).alloc (.cells #[.int .i64 t.1, .int .i64 t.2] U)) w.heap.size (w.heap.size + 1) s t := by
  refine P4.of ((P2.new w s T).alloc _) ?_
  have := P2.new (w.alloc (.cells #[.int .i64 s.1, .int .i64 s.2] T)) t U
  rwa [World.size_alloc] at this
theorem PtS.parts {w : World} {B : Nat} {v : Value} {l : List Pt} (h : PtS w B v l) : ∃ A cap, v = .slice A l.length cap ∧ l.length ≤ maxLen ∧ ∀ k, k < l.length → ∃ g, A = some ⟨g, 0, none⟩ ∧ X2 w g (k * 2) (pd l k) := by
  obtain ⟨A, cap, rfl, hm, hp⟩ := FS.parts h
  refine ⟨A, cap, rfl, hm, fun k hk => ?_⟩
  obtain ⟨g, rfl, c0⟩ := hp (k * 2) (by omega)
  obtain ⟨g', hg, c1⟩ := hp (k * 2 + 1) (by omega)
  cases hg
  obtain ⟨e0, e1⟩ := flatP_gd hk
  rw [e0] at c0
  rw [e1] at c1
  exact ⟨g, rfl, c0, c1⟩
theorem P2.load {w : World} {g : Nat} {t : Pt} (h : P2 w g t) : (loadVar 62 ⟨g, 0, none⟩).run Try.prog w = .ok (ptV t) w := by
  obtain ⟨h1, h2⟩ := h
  simp [loadVar, go_sem, h1, h2]
theorem P2.result {w : World} {g : Nat} {t : Pt} (h : P2 w g t) {fn : Func} {p : Tmp} {ts : Array Value} (hr : fn.results = #[.cell p 62]) (hp : ts.getD p undef = .pointer (some ⟨g, 0, none⟩)) : (Go.results fn ts).run Try.prog w = Result.ok (ptV t) w := by
  have hp' : ts[p]?.getD undef = .pointer (some ⟨g, 0, none⟩) := by simpa using hp
  have ha : (asAddr (Value.pointer (some ⟨g, 0, none⟩))).run Try.prog w = .ok ⟨g, 0, none⟩ w := rfl
  simp only [Go.results, hr]
  simp [Sem.run_bind, Result.andThen, hp', ha, h.load]
/-- Two stores into a block: it holds the new point. -/
theorem P2.stores {w : World} {g : Nat} {s : Pt} (h : P2 w g s) (t : Pt) : P2 ((w.setCell ⟨g, 0, none⟩ (.int .i64 t.1)).setCell ⟨g, 1, none⟩ (.int .i64 t.2)) g t := by
  obtain ⟨h1, h2⟩ := h
  have a1 := World.cell?_setCell_same w ⟨g, 0, none⟩ (.int .i64 t.1) h1
  have a2 : (w.setCell ⟨g, 0, none⟩ (.int .i64 t.1)).cell? ⟨g, 1, none⟩ = some (.int .i64 s.2) := (World.cell?_setCell_other _ _ _ _ (by simp)).trans h2
  exact ⟨(World.cell?_setCell_other _ _ _ _ (by simp)).trans a1, World.cell?_setCell_same _ _ _ a2⟩
theorem eqPt : ∀ (s t : Pt) (w : World), Sem.run Try.prog (binOp .eql 62 (ptV s) (ptV t)) w = .ok (.bool (s.1 == t.1 && s.2 == t.2)) w := by
  intro x y w
  have u3 := Try.underlying3
  have a3 := Try.isAgg3
  have z3 := Try.sizeOf3
  have hS : Try.prog.underlying 62 = some (.struct (Try.prog.fieldsOf 62)) := by kernel_rfl
  have hp : Try.prog.stoodInHeld 62 = false := by kernel_rfl
  rw [run_eql_struct, show (10000 : Nat) = 9999 + 1 from rfl, run_equalIn_agg w 9999 62 _ _ hS hp]
  simp only [Program.fieldsOf, Try.underlying62]
  go_simp
  by_cases h1 : x.1 = y.1 <;> by_cases h2 : x.2 = y.2 <;> simp [h1, h2]
theorem cross_any (u v : Pt) (w : World) (hu : Sm 2000 u) (hv : Sm 2000 v) : Calls Try.prog 78 #[ptV u, ptV v] w fun e w' => e = .returned (.int .i64 (crP u v)) ∧ Gr w w' := by
  have hb := crP_bd hu hv
  obtain ⟨u1, u2⟩ := u
  obtain ⟨v1, v2⟩ := v
  have HT := Lib.hid (show crP (u1, u2) (v1, v2) = u1 * v2 - u2 * v1 from rfl)
  simp only at hb
  have q1 : IntKind.i64.wrap (u1 * v2) = u1 * v2 := IntWalk.i64_in _ (by omega)
  have q2 : IntKind.i64.wrap (u2 * v1) = u2 * v1 := IntWalk.i64_in _ (by omega)
  have q3 : IntKind.i64.wrap (u1 * v2 - u2 * v1) = u1 * v2 - u2 * v1 := IntWalk.i64_in _ (by omega)
  rw [HT.out]
  clear hb hu hv
  go_enter Try.func78, Try.ntmps78
  go_wp2
  go_ret
  exact ⟨rfl, gr2 _ _ _⟩
/-- How points are compared. -/
def cmpP (s t : Pt) : Int := orL [cmI s.1 t.1, cmI s.2 t.2]
theorem cmpP_lt (s t : Pt) : cmpP s t < 0 ↔ Bf s t := by
  unfold cmpP cmI Bf
  simp only [orL]
  by_cases h1 : s.1 < t.1 <;> by_cases h2 : t.1 < s.1 <;> by_cases h3 : s.2 < t.2 <;> by_cases h4 : t.2 < s.2 <;> simp only [h1, h2, h3, h4, if_true, if_false] <;> simp <;> omega
end Go.Proofs.Ytijmnbgmpakllaa

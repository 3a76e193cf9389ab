/-
  Rows of structs of three integers, as values, in rows and in blocks.
  No condition.
-/
import Derived.Test.YtijmnbgmpakllaaPlM
import Derived.Test.YtijmnbgmpakllaaRow
import Derived.Test.YtijmnbgmpakllaaCmp
import Derived.Test.YtijmnbgmpakllaaPolyM
import Derived.StillTailTactics
import Derived.Laws.StructEq
import Derived.Deep.RegionHeld3
import Derived.Deep.DeepCutAuto
namespace Go.Proofs.Ytijmnbgmpakllaa
set_option linter.unusedSimpArgs false
set_option linter.unusedVariables false
open Go.ChangeShapes Go.WideShapes Go.ChangeAt Go.RowKit
open Go.Sort (grow)

abbrev tmV (t : Tm) : Value := .agg #[.int .i64 t.1, .int .i64 t.2.1, .int .i64 t.2.2]
def encT (t : Tm) : List Int := [t.1, t.2.1, t.2.2]
theorem encT_len (t : Tm) : (encT t).length = 3 := rfl
/-- The cells of a list of terms. -/
def flatT (l : List Tm) : List Int := l.flatMap encT
theorem flatT_len (l : List Tm) : (flatT l).length = l.length * 3 := flat_len encT_len l
theorem flatT_gd {l : List Tm} {j : Nat} (hj : j < l.length) : gd (flatT l) (j * 3) = (td l j).1 ∧ gd (flatT l) (j * 3 + 1) = (td l j).2.1 ∧ gd (flatT l) (j * 3 + 2) = (td l j).2.2 := by
  have h0 := flat_gd encT_len l j 0 hj (by omega)
  have h1 := flat_gd encT_len l j 1 hj (by omega)
  have h2 := flat_gd encT_len l j 2 hj (by omega)
  rw [td_eq l j hj]
  exact ⟨h0, h1, h2⟩
theorem flatT_snoc (l : List Tm) (t : Tm) : flatT (l ++ [t]) = flatT l ++ encT t := flat_snoc l t
theorem flatT_app (l r : List Tm) : flatT (l ++ r) = flatT l ++ flatT r := by simp [flatT]
/-- Whatever cells: they are those of a list of terms. -/
theorem flatT_of : ∀ (n : Nat) (zs : List Int), zs.length = n * 3 → ∃ l, l.length = n ∧ flatT l = zs
  | 0, [], _ => ⟨[], rfl, rfl⟩
  | n + 1, a :: b :: c :: r, h => by
    obtain ⟨l, h1, h2⟩ := flatT_of n r (by simp at h; omega)
    exact ⟨(a, b, c) :: l, by simp [h1], by rw [← h2]; rfl⟩
  | 0, _ :: _, h => by simp at h
  | n + 1, [], h => by simp at h <;> omega
  | n + 1, [_], h => by simp at h <;> omega
  | n + 1, [_, _], h => by simp at h <;> omega
/-- A term's three cells in a row, from place i on. -/
abbrev X3 (w : World) (g i : Nat) (t : Tm) : Prop := w.cell? ⟨g, i, none⟩ = some (.int .i64 t.1) ∧ w.cell? ⟨g, i + 1, none⟩ = some (.int .i64 t.2.1) ∧ w.cell? ⟨g, i + 2, none⟩ = some (.int .i64 t.2.2)
/-- A term's block. -/
abbrev T3 (w : World) (g : Nat) (t : Tm) : Prop := w.cell? ⟨g, 0, none⟩ = some (.int .i64 t.1) ∧ w.cell? ⟨g, 1, none⟩ = some (.int .i64 t.2.1) ∧ w.cell? ⟨g, 2, none⟩ = some (.int .i64 t.2.2)
theorem X3.below {w w' : World} {g i : Nat} {t : Tm} (h : X3 w g i t) (hb : Below w.heap.size w w') : X3 w' g i t :=
  ⟨box_old3 h.1 hb, box_old3 h.2.1 hb, box_old3 h.2.2 hb⟩
where
  box_old3 {w w' : World} {a : Addr} {v : Value} (h : w.cell? a = some v) (hb : Below w.heap.size w w') : w'.cell? a = some v := (hb.cell (p := a) (cell_lt h)).trans h
theorem T3.below {w w' : World} {g : Nat} {t : Tm} (h : T3 w g t) (hb : Below w.heap.size w w') : T3 w' g t := X3.below (i := 0) h hb
theorem T3.new (w : World) (t : Tm) (T : TypeId) : T3 (w.alloc (.cells #[.int .i64 t.1, .int .i64 t.2.1, .int .i64 t.2.2] T)) w.heap.size t := by
  refine ⟨?_, ?_, ?_⟩ <;> simp [go_sem]
theorem T3.drewK {w : World} {g : Nat} {t : Tm} (h : T3 w g t) (n : Nat) : T3 (w.drewN n) g t := h
/-- Two terms' blocks. -/
abbrev S6 (w : World) (g h : Nat) (s t : Tm) : Prop := w.cell? ⟨g, 0, none⟩ = some (.int .i64 s.1) ∧ w.cell? ⟨g, 1, none⟩ = some (.int .i64 s.2.1) ∧ w.cell? ⟨g, 2, none⟩ = some (.int .i64 s.2.2) ∧ w.cell? ⟨h, 0, none⟩ = some (.int .i64 t.1) ∧ w.cell? ⟨h, 1, none⟩ = some (.int .i64 t.2.1) ∧ w.cell? ⟨h, 2, none⟩ = some (.int .i64 t.2.2)
theorem S6.of {w : World} {g h : Nat} {s t : Tm} (a : T3 w g s) (b : T3 w h t) : S6 w g h s t := ⟨a.1, a.2.1, a.2.2, b.1, b.2.1, b.2.2⟩
theorem S6.below {w w' : World} {g h : Nat} {s t : Tm} (a : S6 w g h s t) (hb : Below w.heap.size w w') : S6 w' g h s t :=
  S6.of (T3.below ⟨a.1, a.2.1, a.2.2.1⟩ hb) (T3.below ⟨a.2.2.2.1, a.2.2.2.2.1, a.2.2.2.2.2⟩ hb)
theorem S6.drew {w : World} {g h : Nat} {s t : Tm} (a : S6 w g h s t) : S6 w.drew g h s t := a
theorem S6.drewN {w : World} {g h : Nat} {s t : Tm} (a : S6 w g h s t) (n : Nat) : S6 (w.drewN n) g h s t := a
theorem S6.alloc {w : World} {g h : Nat} {s t : Tm} (a : S6 w g h s t) (o : Obj) : S6 (w.alloc o) g h s t := a.below ((Below.refl _ _).alloc (Nat.le_refl _) o)
theorem S6.new (w : World) (s t : Tm) (T U : TypeId) : S6 ((w.alloc (.cells #[.int .i64 s.1, .int .i64 s.2.1, .int .i64 s.2.2] T)).alloc (.cells #[.int .i64 t.1, .int .i64 t.2.1, .int .i64 t.2.2] U)) w.heap.size (w.heap.size + 1) s t := by
  refine S6.of (T3.below (T3.new w s T) ((Below.refl _ _).alloc (Nat.le_refl _) _)) ?_
  have := T3.new (w.alloc (.cells #[.int .i64 s.1, .int .i64 s.2.1, .int .i64 s.2.2] T)) t U
  rwa [World.size_alloc] at this
/-- A term's three cells in a block of the call's own. -/
def B3 (w : World) (g : Nat) (t : Tm) : Prop := T3 w g t ∧ w.frozen? ⟨g, 0, none⟩ = false ∧ w.frozen? ⟨g, 1, none⟩ = false ∧ w.frozen? ⟨g, 2, none⟩ = false
theorem B3.below {w w' : World} {g : Nat} {t : Tm} (h : B3 w g t) (hb : Below w.heap.size w w') : B3 w' g t := by
  obtain ⟨h1, h4, h5, h6⟩ := h
  have hg := cell_lt h1.1
  exact ⟨h1.below hb, (hb.frozen (p := ⟨g, 0, none⟩) hg).trans h4, (hb.frozen (p := ⟨g, 1, none⟩) hg).trans h5, (hb.frozen (p := ⟨g, 2, none⟩) hg).trans h6⟩
theorem B3.new (w : World) (t : Tm) (T : TypeId) : B3 (w.alloc (.cells #[.int .i64 t.1, .int .i64 t.2.1, .int .i64 t.2.2] T)) w.heap.size t := by
  refine ⟨T3.new w t T, ?_, ?_, ?_⟩ <;> simp [go_sem]
theorem B3.old {w : World} {g : Nat} {t : Tm} (h : B3 w g t) (o : Obj) : B3 (w.alloc o) g t := h.below ((Below.refl _ _).alloc (Nat.le_refl _) o)
/-- Three stores into a block: it holds the new term. -/
theorem T3.stores {w : World} {g : Nat} {s : Tm} (h : T3 w g s) (t : Tm) : T3 (((w.setCell ⟨g, 0, none⟩ (.int .i64 t.1)).setCell ⟨g, 1, none⟩ (.int .i64 t.2.1)).setCell ⟨g, 2, none⟩ (.int .i64 t.2.2)) g t := by
  obtain ⟨h1, h2, h3⟩ := h
  have a1 := World.cell?_setCell_same w ⟨g, 0, none⟩ (.int .i64 t.1) h1
  have a2 : (w.setCell ⟨g, 0, none⟩ (.int .i64 t.1)).cell? ⟨g, 1, none⟩ = some (.int .i64 s.2.1) := (World.cell?_setCell_other _ _ _ _ (by simp)).trans h2
  have a3 : (w.setCell ⟨g, 0, none⟩ (.int .i64 t.1)).cell? ⟨g, 2, none⟩ = some (.int .i64 s.2.2) := (World.cell?_setCell_other _ _ _ _ (by simp)).trans h3
  have b1 : ((w.setCell ⟨g, 0, none⟩ (.int .i64 t.1)).setCell ⟨g, 1, none⟩ (.int .i64 t.2.1)).cell? ⟨g, 0, none⟩ = some (.int .i64 t.1) := (World.cell?_setCell_other _ _ _ _ (by simp)).trans a1
  have b2 := World.cell?_setCell_same (w.setCell ⟨g, 0, none⟩ (.int .i64 t.1)) ⟨g, 1, none⟩ (.int .i64 t.2.1) a2
  have b3 : ((w.setCell ⟨g, 0, none⟩ (.int .i64 t.1)).setCell ⟨g, 1, none⟩ (.int .i64 t.2.1)).cell? ⟨g, 2, none⟩ = some (.int .i64 s.2.2) := (World.cell?_setCell_other _ _ _ _ (by simp)).trans a3
  exact ⟨(World.cell?_setCell_other _ _ _ _ (by simp)).trans b1, (World.cell?_setCell_other _ _ _ _ (by simp)).trans b2, World.cell?_setCell_same _ _ _ b3⟩
theorem X3.grown {w : World} {g i : Nat} {t : Tm} (h : X3 w g i t) : (∀ n os, (grow (w.drewN n) os).cell? ⟨g, i, none⟩ = some (.int .i64 t.1)) ∧ (∀ n os, (grow (w.drewN n) os).cell? ⟨g, i + 1, none⟩ = some (.int .i64 t.2.1)) ∧ (∀ n os, (grow (w.drewN n) os).cell? ⟨g, i + 2, none⟩ = some (.int .i64 t.2.2)) :=
  ⟨cell_grown (cell_lt h.1) h.1, cell_grown (cell_lt h.2.1) h.2.1, cell_grown (cell_lt h.2.2) h.2.2⟩
theorem T3.grown {w : World} {g : Nat} {t : Tm} (h : T3 w g t) : (∀ n os, (grow (w.drewN n) os).cell? ⟨g, 0, none⟩ = some (.int .i64 t.1)) ∧ (∀ n os, (grow (w.drewN n) os).cell? ⟨g, 1, none⟩ = some (.int .i64 t.2.1)) ∧ (∀ n os, (grow (w.drewN n) os).cell? ⟨g, 2, none⟩ = some (.int .i64 t.2.2)) := X3.grown (i := 0) h
end Go.Proofs.Ytijmnbgmpakllaa

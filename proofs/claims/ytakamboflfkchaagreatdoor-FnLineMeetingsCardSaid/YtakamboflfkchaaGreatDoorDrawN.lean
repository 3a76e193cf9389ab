/-
  The model's draws of two lines, of a line and a step, and of a line's text: what each call returns.
  Condition: the bytes can be read; they are at most 1048576.
-/
import Derived.Test.YtakamboflfkchaaGreatDoorDrawL
import Derived.Deep.MidRow
import Derived.Deep.RegionLaw
namespace Go.Proofs.YtakamboflfkchaaGreatDoor
set_option linter.unusedSimpArgs false
set_option linter.unusedVariables false
open Go.ChangeShapes Go.WideShapes Go.ChangeAt Go.RowKit
open Go.Sort (grow)

/-- Two lines are drawn. -/
def DrawsTT (w : World) (e : Ending) (w' : World) : Prop := ∃ s t : Tm, e = .returned (.tuple #[tmV s, tmV t]) ∧ (wfT s ∧ wfT t) ∧ Below w.heap.size w w'
theorem T3.results2L {w : World} {g g' : Nat} {s t : Tm} (h : T3 w g s) (h' : T3 w g' t) {fn : Func} {p q : Tmp} {ts : Array Value} (hr : fn.results = #[.cell p 24, .cell q 24]) (hp : ts.getD p undef = .pointer (some ⟨g, 0, none⟩)) (hq : ts.getD q undef = .pointer (some ⟨g', 0, none⟩)) : (Go.results fn ts).run Tryz.prog w = .ok (.tuple #[tmV s, tmV t]) w := by
  have hl := h.loadL
  have hl' := h'.loadL
  simp only [Go.results, hr]
  have hp' : ts[p]?.getD undef = .pointer (some ⟨g, 0, none⟩) := by simpa using hp
  have hq' : ts[q]?.getD undef = .pointer (some ⟨g', 0, none⟩) := by simpa using hq
  have ha : ∀ x, (asAddr (Value.pointer (some ⟨x, 0, none⟩))).run Tryz.prog w = .ok ⟨x, 0, none⟩ w := fun _ => rfl
  simp [Sem.run_bind, Result.andThen, hp', hq', ha, hl, hl']
/-- As DS, with a second result's block S. -/
def DT (x : World) (b R S L : Nat) (t : Tm) (k : Nat) (w : World) : Prop := DS x b R L t k w ∧ B3 w S (0, 0, 0) ∧ b ≠ S ∧ x.heap.size ≤ S
section
variable {x w w' : World} {b R S L k k' : Nat} {t : Tm}
theorem DT.call (h : DT x b R S L t k w) (hc : Cur w' b k') (hg : w.grownBy w' (some b)) : DT x b R S L t k' w' := ⟨h.1.call hc hg, h.2.1.away hg (Ne.symm h.2.2.1), h.2.2⟩
theorem DT.below (h : DT x b R S L t k w) (hb : Below w.heap.size w w') : DT x b R S L t k w' := ⟨h.1.below hb, h.2.1.below hb, h.2.2⟩
theorem DT.drewN (h : DT x b R S L t k w) (n : Nat) : DT x b R S L t k (w.drewN n) := h.below (belN (Below.refl _ _) n)
theorem DT.drew (h : DT x b R S L t k w) : DT x b R S L t k w.drew := h.below (Below.refl _ _).drew
theorem DT.more (h : DT x b R S L t k w) (hk : k ≤ k') : DT x b R S L t k' w := ⟨h.1.more hk, h.2⟩
theorem DT.cur (h : DT x b R S L t k w) : Cur w b k := h.1.cur
theorem DT.bel (h : DT x b R S L t k w) : Below x.heap.size x w := h.1.bel
end
/-- What is known while a draw of two lines goes on: the results hold lines, whichever. -/
def QT (x : World) (b R S L : Nat) (t : Tm) (k : Nat) (w : World) : Prop := (∃ r, B3 w R r ∧ wfT r) ∧ (∃ r, B3 w S r ∧ wfT r) ∧ B3 w L t ∧ Cur w b k ∧ Below x.heap.size x w ∧ x.heap.size ≤ b ∧ (b < R ∨ R < b) ∧ (b < S ∨ S < b) ∧ b < L ∧ x.heap.size ≤ R ∧ x.heap.size ≤ S ∧ R ≠ S ∧ R ≠ L ∧ S ≠ L
theorem zero_wf : wfT (0, 0, 0) := ⟨rfl, rfl⟩
theorem B3.off3 {w : World} {g R : Nat} {r : Tm} (h : B3 w g r) (hne : g ≠ R) (s : Tm) : B3 (((w.setCell ⟨R, 0, none⟩ (.int .i64 s.1)).setCell ⟨R, 1, none⟩ (.int .i64 s.2.1)).setCell ⟨R, 2, none⟩ (.int .i64 s.2.2)) g r :=
  ((h.other hne).other hne).other hne
theorem Cur.off3 {w : World} {b k R : Nat} (h : Cur w b k) (hne : b < R ∨ R < b) (hnl : ¬ R < b) (s : Tm) : Cur (((w.setCell ⟨R, 0, none⟩ (.int .i64 s.1)).setCell ⟨R, 1, none⟩ (.int .i64 s.2.1)).setCell ⟨R, 2, none⟩ (.int .i64 s.2.2)) b k :=
  h.set3L (by omega)
section
variable {x w w' : World} {b R S L k k' : Nat} {t : Tm}
theorem QT.call (h : QT x b R S L t k w) (hc : Cur w' b k') (hg : w.grownBy w' (some b)) : QT x b R S L t k' w' := by
  obtain ⟨⟨r, h1, h1'⟩, ⟨s, h2, h2'⟩, h3, h4, h5, h6, h7, h8, h9, hr⟩ := h
  exact ⟨⟨r, h1.away hg (by omega), h1'⟩, ⟨s, h2.away hg (by omega), h2'⟩, h3.away hg (by omega), hc, bel_cur2 h5 h6 hg, h6, h7, h8, h9, hr⟩
theorem QT.below (h : QT x b R S L t k w) (hb : Below w.heap.size w w') : QT x b R S L t k w' := by
  obtain ⟨⟨r, h1, h1'⟩, ⟨s, h2, h2'⟩, h3, h4, h5, hr⟩ := h
  exact ⟨⟨r, h1.below hb, h1'⟩, ⟨s, h2.below hb, h2'⟩, h3.below hb, h4.below hb, bel2 h5 hb, hr⟩
theorem QT.drewN (h : QT x b R S L t k w) (n : Nat) : QT x b R S L t k (w.drewN n) := h.below (belN (Below.refl _ _) n)
theorem QT.drew (h : QT x b R S L t k w) : QT x b R S L t k w.drew := h.below (Below.refl _ _).drew
theorem QT.more (h : QT x b R S L t k w) (hk : k ≤ k') : QT x b R S L t k' w := ⟨h.1, h.2.1, h.2.2.1, h.2.2.2.1.more hk, h.2.2.2.2⟩
theorem QT.cur (h : QT x b R S L t k w) : Cur w b k := h.2.2.2.1
end
/-- The cursor's part alone is wanted no more: what a store leaves. -/
def QS2 (x : World) (R S L : Nat) (t : Tm) (w : World) : Prop := (∃ r, B3 w R r ∧ wfT r) ∧ (∃ r, B3 w S r ∧ wfT r) ∧ B3 w L t ∧ Below x.heap.size x w ∧ x.heap.size ≤ R ∧ x.heap.size ≤ S ∧ R ≠ S ∧ R ≠ L ∧ S ≠ L
section
variable {x w w' : World} {b R S L k k' : Nat} {t : Tm}
theorem QS2.of (h : QT x b R S L t k w) : QS2 x R S L t w := ⟨h.1, h.2.1, h.2.2.1, h.2.2.2.2.1, h.2.2.2.2.2.2.2.2.2⟩
theorem QS2.put1 (h : QS2 x R S L t w) {s : Tm} (hs : wfT s) : QS2 x R S L t (((w.setCell ⟨R, 0, none⟩ (.int .i64 s.1)).setCell ⟨R, 1, none⟩ (.int .i64 s.2.1)).setCell ⟨R, 2, none⟩ (.int .i64 s.2.2)) := by
  obtain ⟨⟨r, h1, h1'⟩, ⟨u, h2, h2'⟩, h3, h4, h5, h6, h7, h8, h9⟩ := h
  exact ⟨⟨s, h1.put3 s, hs⟩, ⟨u, h2.off3 (Ne.symm h7) s, h2'⟩, h3.off3 (Ne.symm h8) s, bel3D h4 h5 _ _ _, h5, h6, h7, h8, h9⟩
theorem QS2.put2 (h : QS2 x R S L t w) {s : Tm} (hs : wfT s) : QS2 x R S L t (((w.setCell ⟨S, 0, none⟩ (.int .i64 s.1)).setCell ⟨S, 1, none⟩ (.int .i64 s.2.1)).setCell ⟨S, 2, none⟩ (.int .i64 s.2.2)) := by
  obtain ⟨⟨r, h1, h1'⟩, ⟨u, h2, h2'⟩, h3, h4, h5, h6, h7, h8, h9⟩ := h
  exact ⟨⟨r, h1.off3 h7 s, h1'⟩, ⟨s, h2.put3 s, hs⟩, h3.off3 (Ne.symm h9) s, bel3D h4 h6 _ _ _, h5, h6, h7, h8, h9⟩
theorem QS2.below (h : QS2 x R S L t w) (hb : Below w.heap.size w w') : QS2 x R S L t w' := by
  obtain ⟨⟨r, h1, h1'⟩, ⟨u, h2, h2'⟩, h3, h4, hr⟩ := h
  exact ⟨⟨r, h1.below hb, h1'⟩, ⟨u, h2.below hb, h2'⟩, h3.below hb, bel2 h4 hb, hr⟩
theorem QS2.drew (h : QS2 x R S L t w) : QS2 x R S L t w.drew := h.below (Below.refl _ _).drew
theorem QS2.drewN (h : QS2 x R S L t w) (n : Nat) : QS2 x R S L t (w.drewN n) := h.below (belN (Below.refl _ _) n)
theorem QS2.one (h : QS2 x R S L t w) : ∃ r, B3 w R r ∧ wfT r := h.1
theorem QS2.two (h : QS2 x R S L t w) : ∃ r, B3 w S r ∧ wfT r := h.2.1
theorem QS2.hid (h : Hid (QS2 x R S L t w)) : QS2 x R S L t w := h
end
abbrev SQ (x : World) (R S L : Nat) (a c d : Int) (w : World) : Prop := w.cell? ⟨L, 0, none⟩ = some (.int .i64 a) ∧ w.cell? ⟨L, 1, none⟩ = some (.int .i64 c) ∧ w.cell? ⟨L, 2, none⟩ = some (.int .i64 d) ∧ Hid (QS2 x R S L (a, c, d) w)
theorem SQ.of {x w : World} {R S L : Nat} {a c d : Int} (h : QS2 x R S L (a, c, d) w) : SQ x R S L a c d w := ⟨h.2.2.1.1.1, h.2.2.1.1.2.1, h.2.2.1.1.2.2, h⟩
theorem SQ.qs {x w : World} {R S L : Nat} {a c d : Int} (h : SQ x R S L a c d w) : QS2 x R S L (a, c, d) w := h.2.2.2
theorem SQ.drew {x w : World} {R S L : Nat} {a c d : Int} (h : SQ x R S L a c d w) : SQ x R S L a c d w.drew := SQ.of (SQ.qs h).drew
theorem SQ.drewN {x w : World} {R S L : Nat} {a c d : Int} (h : SQ x R S L a c d w) (n : Nat) : SQ x R S L a c d (w.drewN n) := SQ.of ((SQ.qs h).drewN n)
/-- A line is stored in a block of the call's own: one operation of a drawn region. -/
theorem step_store3 {w : World} {ops : Array Oper} {o : Oper} {a : Act} {K : Act → World → Prop} {Q : Exit → Act → World → Prop} {E : Prop} (hgd : o.guard = none) (s y : Operand)
    (ho : o.op = .store 24 s y) (g : Nat) (t : Tm) (hs : a.eval s = .pointer (some ⟨g, 0, none⟩)) (hy : a.eval y = tmV t) (hB : ∃ r, B3 w g r)
    (h : K (a.put o.dst undef) (((w.setCell ⟨g, 0, none⟩ (.int .i64 t.1)).setCell ⟨g, 1, none⟩ (.int .i64 t.2.1)).setCell ⟨g, 2, none⟩ (.int .i64 t.2.2))) :
    if Region.wanted o (yielded ops a.tmps) = true then Oper.wp Tryz.prog o a w K Q else E := by
  have hw : Region.wanted o (yielded ops a.tmps) = true := by simp [Region.wanted, hgd]
  rw [if_pos hw]
  obtain ⟨r, ⟨c0, c1, c2⟩, f0, f1, f2⟩ := hB
  refine wp_store_mid 24 s y ho g 0 #[.int .i64 t.1, .int .i64 t.2.1, .int .i64 t.2.2] hs hy ?_ (by kernel_rfl) (by simp [Value.oneCell']) h
  intro j hj
  have hj3 : j = 0 ∨ j = 1 ∨ j = 2 := by simp at hj; omega
  rcases hj3 with rfl | rfl | rfl
  · exact ⟨by simp [c0], f0⟩
  · exact ⟨by simp [c1], f1⟩
  · exact ⟨by simp [c2], f2⟩
abbrev actMP (q0 q1 q2 q3 q4 q5 q6 q7 q8 q9 q10 q11 q12 q13 q14 q15 q16 q31 q32 q33 : Value) (s17 s18 s19 s20 s21 s22 s23 s24 s25 s26 s27 s28 s29 s30 : Value) : Act := { tmps := #[q0, q1, q2, q3, q4, q5, q6, q7, q8, q9, q10, q11, q12, q13, q14, q15, q16, s17, s18, s19, s20, s21, s22, s23, s24, s25, s26, s27, s28, s29, s30, q31, q32, q33], defers := [] }
/-- What is known when some operations are done. -/
structure IvMP (a c d X Y Z : Int) (x : World) (b R S Lb : Nat) (p : Int) (L : Array Bool) (s17 s18 s19 s20 s21 s22 s23 s24 s25 s26 s27 s28 s29 s30 : Value) (w : World) : Prop where
  z : L.size = 16
  qs : QS2 x R S Lb (a, c, d) w
  cu : L.getD 11 true = false → QT x b R S Lb (a, c, d) 16 w
  pb : (L.getD 11 false = true) → 0 ≤ p ∧ p ≤ 2
  c0 : (L.getD 0 false = true) → s17 = tmV (a, c, d)
  c1 : (L.getD 1 false = true) → s18 = .pointer (some ⟨Lb, 0, none⟩)
  c2 : (L.getD 2 false = true) → s19 = .int .i64 a
  c3 : (L.getD 3 false = true) → s20 = .int .i64 X
  c4 : (L.getD 4 false = true) → s21 = .pointer (some ⟨Lb, 1, none⟩)
  c5 : (L.getD 5 false = true) → s22 = .int .i64 c
  c6 : (L.getD 6 false = true) → s23 = .int .i64 Y
  c7 : (L.getD 7 false = true) → s24 = .pointer (some ⟨Lb, 2, none⟩)
  c8 : (L.getD 8 false = true) → s25 = .int .i64 d
  c9 : (L.getD 9 false = true) → s26 = .int .i64 Z
  c10 : (L.getD 10 false = true) → s27 = .pointer (some ⟨b, 0, none⟩)
  c11 : (L.getD 11 false = true) → s28 = .int .i64 p
  c12 : (L.getD 12 false = true) → s29 = .int .i64 (Z + p)
  c13 : (L.getD 13 false = true) → s30 = tmV (X, Y, Z + p)
  g12 : (L.getD 12 false = true) → (L.getD 11 false = true)
  g13 : (L.getD 13 false = true) → (L.getD 11 false = true)
theorem IvMP.start {a c d X Y Z : Int} {x : World} {b R S Lb : Nat} {p : Int} {s17 s18 s19 s20 s21 s22 s23 s24 s25 s26 s27 s28 s29 s30 : Value} {w : World} (hq : QS2 x R S Lb (a, c, d) w) (hc : QT x b R S Lb (a, c, d) 16 w) : IvMP a c d X Y Z x b R S Lb p (Array.replicate 16 false) s17 s18 s19 s20 s21 s22 s23 s24 s25 s26 s27 s28 s29 s30 w where
  z := rfl
  qs := hq
  cu := fun _ => hc
  pb := fun h => by simp at h
  c0 := fun h => by simp at h
  c1 := fun h => by simp at h
  c2 := fun h => by simp at h
  c3 := fun h => by simp at h
  c4 := fun h => by simp at h
  c5 := fun h => by simp at h
  c6 := fun h => by simp at h
  c7 := fun h => by simp at h
  c8 := fun h => by simp at h
  c9 := fun h => by simp at h
  c10 := fun h => by simp at h
  c11 := fun h => by simp at h
  c12 := fun h => by simp at h
  c13 := fun h => by simp at h
  g12 := fun h => by simp at h
  g13 := fun h => by simp at h
theorem IvMP.o0 {a c d X Y Z : Int} {x : World} {b R S Lb : Nat} {p : Int} {L : Array Bool} {s17 s18 s19 s20 s21 s22 s23 s24 s25 s26 s27 s28 s29 s30 : Value} {w : World} (H : IvMP a c d X Y Z x b R S Lb p L s17 s18 s19 s20 s21 s22 s23 s24 s25 s26 s27 s28 s29 s30 w) : IvMP a c d X Y Z x b R S Lb p (L.setIfInBounds 0 true) (tmV (a, c, d)) s18 s19 s20 s21 s22 s23 s24 s25 s26 s27 s28 s29 s30 w where
  z := by rw [Array.size_setIfInBounds]; exact H.z
  qs := H.qs
  cu := fun h => H.cu (by rwa [getD_set_ne _ (by decide)] at h)
  pb := fun h => H.pb (by rwa [getD_set_ne _ (by decide)] at h)
  c0 := fun _ => rfl
  c1 := fun h => H.c1 (by rwa [getD_set_ne _ (by decide)] at h)
  c2 := fun h => H.c2 (by rwa [getD_set_ne _ (by decide)] at h)
  c3 := fun h => H.c3 (by rwa [getD_set_ne _ (by decide)] at h)
  c4 := fun h => H.c4 (by rwa [getD_set_ne _ (by decide)] at h)
  c5 := fun h => H.c5 (by rwa [getD_set_ne _ (by decide)] at h)
  c6 := fun h => H.c6 (by rwa [getD_set_ne _ (by decide)] at h)
  c7 := fun h => H.c7 (by rwa [getD_set_ne _ (by decide)] at h)
  c8 := fun h => H.c8 (by rwa [getD_set_ne _ (by decide)] at h)
  c9 := fun h => H.c9 (by rwa [getD_set_ne _ (by decide)] at h)
  c10 := fun h => H.c10 (by rwa [getD_set_ne _ (by decide)] at h)
  c11 := fun h => H.c11 (by rwa [getD_set_ne _ (by decide)] at h)
  c12 := fun h => H.c12 (by rwa [getD_set_ne _ (by decide)] at h)
  c13 := fun h => H.c13 (by rwa [getD_set_ne _ (by decide)] at h)
  g12 := fun h => by rw [getD_set_ne _ (by decide)]; exact H.g12 (by rwa [getD_set_ne _ (by decide)] at h)
  g13 := fun h => by rw [getD_set_ne _ (by decide)]; exact H.g13 (by rwa [getD_set_ne _ (by decide)] at h)
theorem IvMP.o1 {a c d X Y Z : Int} {x : World} {b R S Lb : Nat} {p : Int} {L : Array Bool} {s17 s18 s19 s20 s21 s22 s23 s24 s25 s26 s27 s28 s29 s30 : Value} {w : World} (H : IvMP a c d X Y Z x b R S Lb p L s17 s18 s19 s20 s21 s22 s23 s24 s25 s26 s27 s28 s29 s30 w) : IvMP a c d X Y Z x b R S Lb p (L.setIfInBounds 1 true) s17 (.pointer (some ⟨Lb, 0, none⟩)) s19 s20 s21 s22 s23 s24 s25 s26 s27 s28 s29 s30 w where
  z := by rw [Array.size_setIfInBounds]; exact H.z
  qs := H.qs
  cu := fun h => H.cu (by rwa [getD_set_ne _ (by decide)] at h)
  pb := fun h => H.pb (by rwa [getD_set_ne _ (by decide)] at h)
  c0 := fun h => H.c0 (by rwa [getD_set_ne _ (by decide)] at h)
  c1 := fun _ => rfl
  c2 := fun h => H.c2 (by rwa [getD_set_ne _ (by decide)] at h)
  c3 := fun h => H.c3 (by rwa [getD_set_ne _ (by decide)] at h)
  c4 := fun h => H.c4 (by rwa [getD_set_ne _ (by decide)] at h)
  c5 := fun h => H.c5 (by rwa [getD_set_ne _ (by decide)] at h)
  c6 := fun h => H.c6 (by rwa [getD_set_ne _ (by decide)] at h)
  c7 := fun h => H.c7 (by rwa [getD_set_ne _ (by decide)] at h)
  c8 := fun h => H.c8 (by rwa [getD_set_ne _ (by decide)] at h)
  c9 := fun h => H.c9 (by rwa [getD_set_ne _ (by decide)] at h)
  c10 := fun h => H.c10 (by rwa [getD_set_ne _ (by decide)] at h)
  c11 := fun h => H.c11 (by rwa [getD_set_ne _ (by decide)] at h)
  c12 := fun h => H.c12 (by rwa [getD_set_ne _ (by decide)] at h)
  c13 := fun h => H.c13 (by rwa [getD_set_ne _ (by decide)] at h)
  g12 := fun h => by rw [getD_set_ne _ (by decide)]; exact H.g12 (by rwa [getD_set_ne _ (by decide)] at h)
  g13 := fun h => by rw [getD_set_ne _ (by decide)]; exact H.g13 (by rwa [getD_set_ne _ (by decide)] at h)
theorem IvMP.o2 {a c d X Y Z : Int} {x : World} {b R S Lb : Nat} {p : Int} {L : Array Bool} {s17 s18 s19 s20 s21 s22 s23 s24 s25 s26 s27 s28 s29 s30 : Value} {w : World} (H : IvMP a c d X Y Z x b R S Lb p L s17 s18 s19 s20 s21 s22 s23 s24 s25 s26 s27 s28 s29 s30 w) : IvMP a c d X Y Z x b R S Lb p (L.setIfInBounds 2 true) s17 s18 (.int .i64 a) s20 s21 s22 s23 s24 s25 s26 s27 s28 s29 s30 w where
  z := by rw [Array.size_setIfInBounds]; exact H.z
  qs := H.qs
  cu := fun h => H.cu (by rwa [getD_set_ne _ (by decide)] at h)
  pb := fun h => H.pb (by rwa [getD_set_ne _ (by decide)] at h)
  c0 := fun h => H.c0 (by rwa [getD_set_ne _ (by decide)] at h)
  c1 := fun h => H.c1 (by rwa [getD_set_ne _ (by decide)] at h)
  c2 := fun _ => rfl
  c3 := fun h => H.c3 (by rwa [getD_set_ne _ (by decide)] at h)
  c4 := fun h => H.c4 (by rwa [getD_set_ne _ (by decide)] at h)
  c5 := fun h => H.c5 (by rwa [getD_set_ne _ (by decide)] at h)
  c6 := fun h => H.c6 (by rwa [getD_set_ne _ (by decide)] at h)
  c7 := fun h => H.c7 (by rwa [getD_set_ne _ (by decide)] at h)
  c8 := fun h => H.c8 (by rwa [getD_set_ne _ (by decide)] at h)
  c9 := fun h => H.c9 (by rwa [getD_set_ne _ (by decide)] at h)
  c10 := fun h => H.c10 (by rwa [getD_set_ne _ (by decide)] at h)
  c11 := fun h => H.c11 (by rwa [getD_set_ne _ (by decide)] at h)
  c12 := fun h => H.c12 (by rwa [getD_set_ne _ (by decide)] at h)
  c13 := fun h => H.c13 (by rwa [getD_set_ne _ (by decide)] at h)
  g12 := fun h => by rw [getD_set_ne _ (by decide)]; exact H.g12 (by rwa [getD_set_ne _ (by decide)] at h)
  g13 := fun h => by rw [getD_set_ne _ (by decide)]; exact H.g13 (by rwa [getD_set_ne _ (by decide)] at h)
theorem IvMP.o3 {a c d X Y Z : Int} {x : World} {b R S Lb : Nat} {p : Int} {L : Array Bool} {s17 s18 s19 s20 s21 s22 s23 s24 s25 s26 s27 s28 s29 s30 : Value} {w : World} (H : IvMP a c d X Y Z x b R S Lb p L s17 s18 s19 s20 s21 s22 s23 s24 s25 s26 s27 s28 s29 s30 w) : IvMP a c d X Y Z x b R S Lb p (L.setIfInBounds 3 true) s17 s18 s19 (.int .i64 X) s21 s22 s23 s24 s25 s26 s27 s28 s29 s30 w where
  z := by rw [Array.size_setIfInBounds]; exact H.z
  qs := H.qs
  cu := fun h => H.cu (by rwa [getD_set_ne _ (by decide)] at h)
  pb := fun h => H.pb (by rwa [getD_set_ne _ (by decide)] at h)
  c0 := fun h => H.c0 (by rwa [getD_set_ne _ (by decide)] at h)
  c1 := fun h => H.c1 (by rwa [getD_set_ne _ (by decide)] at h)
  c2 := fun h => H.c2 (by rwa [getD_set_ne _ (by decide)] at h)
  c3 := fun _ => rfl
  c4 := fun h => H.c4 (by rwa [getD_set_ne _ (by decide)] at h)
  c5 := fun h => H.c5 (by rwa [getD_set_ne _ (by decide)] at h)
  c6 := fun h => H.c6 (by rwa [getD_set_ne _ (by decide)] at h)
  c7 := fun h => H.c7 (by rwa [getD_set_ne _ (by decide)] at h)
  c8 := fun h => H.c8 (by rwa [getD_set_ne _ (by decide)] at h)
  c9 := fun h => H.c9 (by rwa [getD_set_ne _ (by decide)] at h)
  c10 := fun h => H.c10 (by rwa [getD_set_ne _ (by decide)] at h)
  c11 := fun h => H.c11 (by rwa [getD_set_ne _ (by decide)] at h)
  c12 := fun h => H.c12 (by rwa [getD_set_ne _ (by decide)] at h)
  c13 := fun h => H.c13 (by rwa [getD_set_ne _ (by decide)] at h)
  g12 := fun h => by rw [getD_set_ne _ (by decide)]; exact H.g12 (by rwa [getD_set_ne _ (by decide)] at h)
  g13 := fun h => by rw [getD_set_ne _ (by decide)]; exact H.g13 (by rwa [getD_set_ne _ (by decide)] at h)
theorem IvMP.o4 {a c d X Y Z : Int} {x : World} {b R S Lb : Nat} {p : Int} {L : Array Bool} {s17 s18 s19 s20 s21 s22 s23 s24 s25 s26 s27 s28 s29 s30 : Value} {w : World} (H : IvMP a c d X Y Z x b R S Lb p L s17 s18 s19 s20 s21 s22 s23 s24 s25 s26 s27 s28 s29 s30 w) : IvMP a c d X Y Z x b R S Lb p (L.setIfInBounds 4 true) s17 s18 s19 s20 (.pointer (some ⟨Lb, 1, none⟩)) s22 s23 s24 s25 s26 s27 s28 s29 s30 w where
  z := by rw [Array.size_setIfInBounds]; exact H.z
  qs := H.qs
  cu := fun h => H.cu (by rwa [getD_set_ne _ (by decide)] at h)
  pb := fun h => H.pb (by rwa [getD_set_ne _ (by decide)] at h)
  c0 := fun h => H.c0 (by rwa [getD_set_ne _ (by decide)] at h)
  c1 := fun h => H.c1 (by rwa [getD_set_ne _ (by decide)] at h)
  c2 := fun h => H.c2 (by rwa [getD_set_ne _ (by decide)] at h)
  c3 := fun h => H.c3 (by rwa [getD_set_ne _ (by decide)] at h)
  c4 := fun _ => rfl
  c5 := fun h => H.c5 (by rwa [getD_set_ne _ (by decide)] at h)
  c6 := fun h => H.c6 (by rwa [getD_set_ne _ (by decide)] at h)
  c7 := fun h => H.c7 (by rwa [getD_set_ne _ (by decide)] at h)
  c8 := fun h => H.c8 (by rwa [getD_set_ne _ (by decide)] at h)
  c9 := fun h => H.c9 (by rwa [getD_set_ne _ (by decide)] at h)
  c10 := fun h => H.c10 (by rwa [getD_set_ne _ (by decide)] at h)
  c11 := fun h => H.c11 (by rwa [getD_set_ne _ (by decide)] at h)
  c12 := fun h => H.c12 (by rwa [getD_set_ne _ (by decide)] at h)
  c13 := fun h => H.c13 (by rwa [getD_set_ne _ (by decide)] at h)
  g12 := fun h => by rw [getD_set_ne _ (by decide)]; exact H.g12 (by rwa [getD_set_ne _ (by decide)] at h)
  g13 := fun h => by rw [getD_set_ne _ (by decide)]; exact H.g13 (by rwa [getD_set_ne _ (by decide)] at h)
theorem IvMP.o5 {a c d X Y Z : Int} {x : World} {b R S Lb : Nat} {p : Int} {L : Array Bool} {s17 s18 s19 s20 s21 s22 s23 s24 s25 s26 s27 s28 s29 s30 : Value} {w : World} (H : IvMP a c d X Y Z x b R S Lb p L s17 s18 s19 s20 s21 s22 s23 s24 s25 s26 s27 s28 s29 s30 w) : IvMP a c d X Y Z x b R S Lb p (L.setIfInBounds 5 true) s17 s18 s19 s20 s21 (.int .i64 c) s23 s24 s25 s26 s27 s28 s29 s30 w where
  z := by rw [Array.size_setIfInBounds]; exact H.z
  qs := H.qs
  cu := fun h => H.cu (by rwa [getD_set_ne _ (by decide)] at h)
  pb := fun h => H.pb (by rwa [getD_set_ne _ (by decide)] at h)
  c0 := fun h => H.c0 (by rwa [getD_set_ne _ (by decide)] at h)
  c1 := fun h => H.c1 (by rwa [getD_set_ne _ (by decide)] at h)
  c2 := fun h => H.c2 (by rwa [getD_set_ne _ (by decide)] at h)
  c3 := fun h => H.c3 (by rwa [getD_set_ne _ (by decide)] at h)
  c4 := fun h => H.c4 (by rwa [getD_set_ne _ (by decide)] at h)
  c5 := fun _ => rfl
  c6 := fun h => H.c6 (by rwa [getD_set_ne _ (by decide)] at h)
  c7 := fun h => H.c7 (by rwa [getD_set_ne _ (by decide)] at h)
  c8 := fun h => H.c8 (by rwa [getD_set_ne _ (by decide)] at h)
  c9 := fun h => H.c9 (by rwa [getD_set_ne _ (by decide)] at h)
  c10 := fun h => H.c10 (by rwa [getD_set_ne _ (by decide)] at h)
  c11 := fun h => H.c11 (by rwa [getD_set_ne _ (by decide)] at h)
  c12 := fun h => H.c12 (by rwa [getD_set_ne _ (by decide)] at h)
  c13 := fun h => H.c13 (by rwa [getD_set_ne _ (by decide)] at h)
  g12 := fun h => by rw [getD_set_ne _ (by decide)]; exact H.g12 (by rwa [getD_set_ne _ (by decide)] at h)
  g13 := fun h => by rw [getD_set_ne _ (by decide)]; exact H.g13 (by rwa [getD_set_ne _ (by decide)] at h)
theorem IvMP.o6 {a c d X Y Z : Int} {x : World} {b R S Lb : Nat} {p : Int} {L : Array Bool} {s17 s18 s19 s20 s21 s22 s23 s24 s25 s26 s27 s28 s29 s30 : Value} {w : World} (H : IvMP a c d X Y Z x b R S Lb p L s17 s18 s19 s20 s21 s22 s23 s24 s25 s26 s27 s28 s29 s30 w) : IvMP a c d X Y Z x b R S Lb p (L.setIfInBounds 6 true) s17 s18 s19 s20 s21 s22 (.int .i64 Y) s24 s25 s26 s27 s28 s29 s30 w where
  z := by rw [Array.size_setIfInBounds]; exact H.z
  qs := H.qs
  cu := fun h => H.cu (by rwa [getD_set_ne _ (by decide)] at h)
  pb := fun h => H.pb (by rwa [getD_set_ne _ (by decide)] at h)
  c0 := fun h => H.c0 (by rwa [getD_set_ne _ (by decide)] at h)
  c1 := fun h => H.c1 (by rwa [getD_set_ne _ (by decide)] at h)
  c2 := fun h => H.c2 (by rwa [getD_set_ne _ (by decide)] at h)
  c3 := fun h => H.c3 (by rwa [getD_set_ne _ (by decide)] at h)
  c4 := fun h => H.c4 (by rwa [getD_set_ne _ (by decide)] at h)
  c5 := fun h => H.c5 (by rwa [getD_set_ne _ (by decide)] at h)
  c6 := fun _ => rfl
  c7 := fun h => H.c7 (by rwa [getD_set_ne _ (by decide)] at h)
  c8 := fun h => H.c8 (by rwa [getD_set_ne _ (by decide)] at h)
  c9 := fun h => H.c9 (by rwa [getD_set_ne _ (by decide)] at h)
  c10 := fun h => H.c10 (by rwa [getD_set_ne _ (by decide)] at h)
  c11 := fun h => H.c11 (by rwa [getD_set_ne _ (by decide)] at h)
  c12 := fun h => H.c12 (by rwa [getD_set_ne _ (by decide)] at h)
  c13 := fun h => H.c13 (by rwa [getD_set_ne _ (by decide)] at h)
  g12 := fun h => by rw [getD_set_ne _ (by decide)]; exact H.g12 (by rwa [getD_set_ne _ (by decide)] at h)
  g13 := fun h => by rw [getD_set_ne _ (by decide)]; exact H.g13 (by rwa [getD_set_ne _ (by decide)] at h)
theorem IvMP.o7 {a c d X Y Z : Int} {x : World} {b R S Lb : Nat} {p : Int} {L : Array Bool} {s17 s18 s19 s20 s21 s22 s23 s24 s25 s26 s27 s28 s29 s30 : Value} {w : World} (H : IvMP a c d X Y Z x b R S Lb p L s17 s18 s19 s20 s21 s22 s23 s24 s25 s26 s27 s28 s29 s30 w) : IvMP a c d X Y Z x b R S Lb p (L.setIfInBounds 7 true) s17 s18 s19 s20 s21 s22 s23 (.pointer (some ⟨Lb, 2, none⟩)) s25 s26 s27 s28 s29 s30 w where
  z := by rw [Array.size_setIfInBounds]; exact H.z
  qs := H.qs
  cu := fun h => H.cu (by rwa [getD_set_ne _ (by decide)] at h)
  pb := fun h => H.pb (by rwa [getD_set_ne _ (by decide)] at h)
  c0 := fun h => H.c0 (by rwa [getD_set_ne _ (by decide)] at h)
  c1 := fun h => H.c1 (by rwa [getD_set_ne _ (by decide)] at h)
  c2 := fun h => H.c2 (by rwa [getD_set_ne _ (by decide)] at h)
  c3 := fun h => H.c3 (by rwa [getD_set_ne _ (by decide)] at h)
  c4 := fun h => H.c4 (by rwa [getD_set_ne _ (by decide)] at h)
  c5 := fun h => H.c5 (by rwa [getD_set_ne _ (by decide)] at h)
  c6 := fun h => H.c6 (by rwa [getD_set_ne _ (by decide)] at h)
  c7 := fun _ => rfl
  c8 := fun h => H.c8 (by rwa [getD_set_ne _ (by decide)] at h)
  c9 := fun h => H.c9 (by rwa [getD_set_ne _ (by decide)] at h)
  c10 := fun h => H.c10 (by rwa [getD_set_ne _ (by decide)] at h)
  c11 := fun h => H.c11 (by rwa [getD_set_ne _ (by decide)] at h)
  c12 := fun h => H.c12 (by rwa [getD_set_ne _ (by decide)] at h)
  c13 := fun h => H.c13 (by rwa [getD_set_ne _ (by decide)] at h)
  g12 := fun h => by rw [getD_set_ne _ (by decide)]; exact H.g12 (by rwa [getD_set_ne _ (by decide)] at h)
  g13 := fun h => by rw [getD_set_ne _ (by decide)]; exact H.g13 (by rwa [getD_set_ne _ (by decide)] at h)
theorem IvMP.o8 {a c d X Y Z : Int} {x : World} {b R S Lb : Nat} {p : Int} {L : Array Bool} {s17 s18 s19 s20 s21 s22 s23 s24 s25 s26 s27 s28 s29 s30 : Value} {w : World} (H : IvMP a c d X Y Z x b R S Lb p L s17 s18 s19 s20 s21 s22 s23 s24 s25 s26 s27 s28 s29 s30 w) : IvMP a c d X Y Z x b R S Lb p (L.setIfInBounds 8 true) s17 s18 s19 s20 s21 s22 s23 s24 (.int .i64 d) s26 s27 s28 s29 s30 w where
  z := by rw [Array.size_setIfInBounds]; exact H.z
  qs := H.qs
  cu := fun h => H.cu (by rwa [getD_set_ne _ (by decide)] at h)
  pb := fun h => H.pb (by rwa [getD_set_ne _ (by decide)] at h)
  c0 := fun h => H.c0 (by rwa [getD_set_ne _ (by decide)] at h)
  c1 := fun h => H.c1 (by rwa [getD_set_ne _ (by decide)] at h)
  c2 := fun h => H.c2 (by rwa [getD_set_ne _ (by decide)] at h)
  c3 := fun h => H.c3 (by rwa [getD_set_ne _ (by decide)] at h)
  c4 := fun h => H.c4 (by rwa [getD_set_ne _ (by decide)] at h)
  c5 := fun h => H.c5 (by rwa [getD_set_ne _ (by decide)] at h)
  c6 := fun h => H.c6 (by rwa [getD_set_ne _ (by decide)] at h)
  c7 := fun h => H.c7 (by rwa [getD_set_ne _ (by decide)] at h)
  c8 := fun _ => rfl
  c9 := fun h => H.c9 (by rwa [getD_set_ne _ (by decide)] at h)
  c10 := fun h => H.c10 (by rwa [getD_set_ne _ (by decide)] at h)
  c11 := fun h => H.c11 (by rwa [getD_set_ne _ (by decide)] at h)
  c12 := fun h => H.c12 (by rwa [getD_set_ne _ (by decide)] at h)
  c13 := fun h => H.c13 (by rwa [getD_set_ne _ (by decide)] at h)
  g12 := fun h => by rw [getD_set_ne _ (by decide)]; exact H.g12 (by rwa [getD_set_ne _ (by decide)] at h)
  g13 := fun h => by rw [getD_set_ne _ (by decide)]; exact H.g13 (by rwa [getD_set_ne _ (by decide)] at h)
theorem IvMP.o9 {a c d X Y Z : Int} {x : World} {b R S Lb : Nat} {p : Int} {L : Array Bool} {s17 s18 s19 s20 s21 s22 s23 s24 s25 s26 s27 s28 s29 s30 : Value} {w : World} (H : IvMP a c d X Y Z x b R S Lb p L s17 s18 s19 s20 s21 s22 s23 s24 s25 s26 s27 s28 s29 s30 w) : IvMP a c d X Y Z x b R S Lb p (L.setIfInBounds 9 true) s17 s18 s19 s20 s21 s22 s23 s24 s25 (.int .i64 Z) s27 s28 s29 s30 w where
  z := by rw [Array.size_setIfInBounds]; exact H.z
  qs := H.qs
  cu := fun h => H.cu (by rwa [getD_set_ne _ (by decide)] at h)
  pb := fun h => H.pb (by rwa [getD_set_ne _ (by decide)] at h)
  c0 := fun h => H.c0 (by rwa [getD_set_ne _ (by decide)] at h)
  c1 := fun h => H.c1 (by rwa [getD_set_ne _ (by decide)] at h)
  c2 := fun h => H.c2 (by rwa [getD_set_ne _ (by decide)] at h)
  c3 := fun h => H.c3 (by rwa [getD_set_ne _ (by decide)] at h)
  c4 := fun h => H.c4 (by rwa [getD_set_ne _ (by decide)] at h)
  c5 := fun h => H.c5 (by rwa [getD_set_ne _ (by decide)] at h)
  c6 := fun h => H.c6 (by rwa [getD_set_ne _ (by decide)] at h)
  c7 := fun h => H.c7 (by rwa [getD_set_ne _ (by decide)] at h)
  c8 := fun h => H.c8 (by rwa [getD_set_ne _ (by decide)] at h)
  c9 := fun _ => rfl
  c10 := fun h => H.c10 (by rwa [getD_set_ne _ (by decide)] at h)
  c11 := fun h => H.c11 (by rwa [getD_set_ne _ (by decide)] at h)
  c12 := fun h => H.c12 (by rwa [getD_set_ne _ (by decide)] at h)
  c13 := fun h => H.c13 (by rwa [getD_set_ne _ (by decide)] at h)
  g12 := fun h => by rw [getD_set_ne _ (by decide)]; exact H.g12 (by rwa [getD_set_ne _ (by decide)] at h)
  g13 := fun h => by rw [getD_set_ne _ (by decide)]; exact H.g13 (by rwa [getD_set_ne _ (by decide)] at h)
theorem IvMP.o10 {a c d X Y Z : Int} {x : World} {b R S Lb : Nat} {p : Int} {L : Array Bool} {s17 s18 s19 s20 s21 s22 s23 s24 s25 s26 s27 s28 s29 s30 : Value} {w : World} (H : IvMP a c d X Y Z x b R S Lb p L s17 s18 s19 s20 s21 s22 s23 s24 s25 s26 s27 s28 s29 s30 w) : IvMP a c d X Y Z x b R S Lb p (L.setIfInBounds 10 true) s17 s18 s19 s20 s21 s22 s23 s24 s25 s26 (.pointer (some ⟨b, 0, none⟩)) s28 s29 s30 w where
  z := by rw [Array.size_setIfInBounds]; exact H.z
  qs := H.qs
  cu := fun h => H.cu (by rwa [getD_set_ne _ (by decide)] at h)
  pb := fun h => H.pb (by rwa [getD_set_ne _ (by decide)] at h)
  c0 := fun h => H.c0 (by rwa [getD_set_ne _ (by decide)] at h)
  c1 := fun h => H.c1 (by rwa [getD_set_ne _ (by decide)] at h)
  c2 := fun h => H.c2 (by rwa [getD_set_ne _ (by decide)] at h)
  c3 := fun h => H.c3 (by rwa [getD_set_ne _ (by decide)] at h)
  c4 := fun h => H.c4 (by rwa [getD_set_ne _ (by decide)] at h)
  c5 := fun h => H.c5 (by rwa [getD_set_ne _ (by decide)] at h)
  c6 := fun h => H.c6 (by rwa [getD_set_ne _ (by decide)] at h)
  c7 := fun h => H.c7 (by rwa [getD_set_ne _ (by decide)] at h)
  c8 := fun h => H.c8 (by rwa [getD_set_ne _ (by decide)] at h)
  c9 := fun h => H.c9 (by rwa [getD_set_ne _ (by decide)] at h)
  c10 := fun _ => rfl
  c11 := fun h => H.c11 (by rwa [getD_set_ne _ (by decide)] at h)
  c12 := fun h => H.c12 (by rwa [getD_set_ne _ (by decide)] at h)
  c13 := fun h => H.c13 (by rwa [getD_set_ne _ (by decide)] at h)
  g12 := fun h => by rw [getD_set_ne _ (by decide)]; exact H.g12 (by rwa [getD_set_ne _ (by decide)] at h)
  g13 := fun h => by rw [getD_set_ne _ (by decide)]; exact H.g13 (by rwa [getD_set_ne _ (by decide)] at h)
theorem IvMP.o11 {a c d X Y Z : Int} {x : World} {b R S Lb : Nat} {p : Int} {L : Array Bool} {s17 s18 s19 s20 s21 s22 s23 s24 s25 s26 s27 s28 s29 s30 : Value} {w : World} (H : IvMP a c d X Y Z x b R S Lb p L s17 s18 s19 s20 s21 s22 s23 s24 s25 s26 s27 s28 s29 s30 w) (hN : L.getD 11 true = false) {w' : World} {p' : Int} (hq : QS2 x R S Lb (a, c, d) w') (hb : 0 ≤ p' ∧ p' ≤ 2) : IvMP a c d X Y Z x b R S Lb p' (L.setIfInBounds 11 true) s17 s18 s19 s20 s21 s22 s23 s24 s25 s26 s27 (.int .i64 p') s29 s30 w' where
  z := by rw [Array.size_setIfInBounds]; exact H.z
  qs := hq
  cu := fun h => (notl h (getD_set_same (L := L) H.z (show 11 < 16 by decide))).elim
  pb := fun _ => hb
  c0 := fun h => H.c0 (by rwa [getD_set_ne _ (by decide)] at h)
  c1 := fun h => H.c1 (by rwa [getD_set_ne _ (by decide)] at h)
  c2 := fun h => H.c2 (by rwa [getD_set_ne _ (by decide)] at h)
  c3 := fun h => H.c3 (by rwa [getD_set_ne _ (by decide)] at h)
  c4 := fun h => H.c4 (by rwa [getD_set_ne _ (by decide)] at h)
  c5 := fun h => H.c5 (by rwa [getD_set_ne _ (by decide)] at h)
  c6 := fun h => H.c6 (by rwa [getD_set_ne _ (by decide)] at h)
  c7 := fun h => H.c7 (by rwa [getD_set_ne _ (by decide)] at h)
  c8 := fun h => H.c8 (by rwa [getD_set_ne _ (by decide)] at h)
  c9 := fun h => H.c9 (by rwa [getD_set_ne _ (by decide)] at h)
  c10 := fun h => H.c10 (by rwa [getD_set_ne _ (by decide)] at h)
  c11 := fun _ => rfl
  c12 := fun h => (notl hN (H.g12 (by rwa [getD_set_ne _ (by decide)] at h))).elim
  c13 := fun h => (notl hN (H.g13 (by rwa [getD_set_ne _ (by decide)] at h))).elim
  g12 := fun h => getD_set_same H.z (by decide)
  g13 := fun h => getD_set_same H.z (by decide)
theorem IvMP.o12 {a c d X Y Z : Int} {x : World} {b R S Lb : Nat} {p : Int} {L : Array Bool} {s17 s18 s19 s20 s21 s22 s23 s24 s25 s26 s27 s28 s29 s30 : Value} {w : World} (H : IvMP a c d X Y Z x b R S Lb p L s17 s18 s19 s20 s21 s22 s23 s24 s25 s26 s27 s28 s29 s30 w) (hcall : (L.getD 11 false = true)) : IvMP a c d X Y Z x b R S Lb p (L.setIfInBounds 12 true) s17 s18 s19 s20 s21 s22 s23 s24 s25 s26 s27 s28 (.int .i64 (Z + p)) s30 w where
  z := by rw [Array.size_setIfInBounds]; exact H.z
  qs := H.qs
  cu := fun h => H.cu (by rwa [getD_set_ne _ (by decide)] at h)
  pb := fun h => H.pb (by rwa [getD_set_ne _ (by decide)] at h)
  c0 := fun h => H.c0 (by rwa [getD_set_ne _ (by decide)] at h)
  c1 := fun h => H.c1 (by rwa [getD_set_ne _ (by decide)] at h)
  c2 := fun h => H.c2 (by rwa [getD_set_ne _ (by decide)] at h)
  c3 := fun h => H.c3 (by rwa [getD_set_ne _ (by decide)] at h)
  c4 := fun h => H.c4 (by rwa [getD_set_ne _ (by decide)] at h)
  c5 := fun h => H.c5 (by rwa [getD_set_ne _ (by decide)] at h)
  c6 := fun h => H.c6 (by rwa [getD_set_ne _ (by decide)] at h)
  c7 := fun h => H.c7 (by rwa [getD_set_ne _ (by decide)] at h)
  c8 := fun h => H.c8 (by rwa [getD_set_ne _ (by decide)] at h)
  c9 := fun h => H.c9 (by rwa [getD_set_ne _ (by decide)] at h)
  c10 := fun h => H.c10 (by rwa [getD_set_ne _ (by decide)] at h)
  c11 := fun h => H.c11 (by rwa [getD_set_ne _ (by decide)] at h)
  c12 := fun _ => rfl
  c13 := fun h => H.c13 (by rwa [getD_set_ne _ (by decide)] at h)
  g12 := fun _ => by rw [getD_set_ne _ (by decide)]; exact hcall
  g13 := fun h => by rw [getD_set_ne _ (by decide)]; exact H.g13 (by rwa [getD_set_ne _ (by decide)] at h)
theorem IvMP.o13 {a c d X Y Z : Int} {x : World} {b R S Lb : Nat} {p : Int} {L : Array Bool} {s17 s18 s19 s20 s21 s22 s23 s24 s25 s26 s27 s28 s29 s30 : Value} {w : World} (H : IvMP a c d X Y Z x b R S Lb p L s17 s18 s19 s20 s21 s22 s23 s24 s25 s26 s27 s28 s29 s30 w) (hcall : (L.getD 11 false = true)) : IvMP a c d X Y Z x b R S Lb p (L.setIfInBounds 13 true) s17 s18 s19 s20 s21 s22 s23 s24 s25 s26 s27 s28 s29 (tmV (X, Y, Z + p)) w where
  z := by rw [Array.size_setIfInBounds]; exact H.z
  qs := H.qs
  cu := fun h => H.cu (by rwa [getD_set_ne _ (by decide)] at h)
  pb := fun h => H.pb (by rwa [getD_set_ne _ (by decide)] at h)
  c0 := fun h => H.c0 (by rwa [getD_set_ne _ (by decide)] at h)
  c1 := fun h => H.c1 (by rwa [getD_set_ne _ (by decide)] at h)
  c2 := fun h => H.c2 (by rwa [getD_set_ne _ (by decide)] at h)
  c3 := fun h => H.c3 (by rwa [getD_set_ne _ (by decide)] at h)
  c4 := fun h => H.c4 (by rwa [getD_set_ne _ (by decide)] at h)
  c5 := fun h => H.c5 (by rwa [getD_set_ne _ (by decide)] at h)
  c6 := fun h => H.c6 (by rwa [getD_set_ne _ (by decide)] at h)
  c7 := fun h => H.c7 (by rwa [getD_set_ne _ (by decide)] at h)
  c8 := fun h => H.c8 (by rwa [getD_set_ne _ (by decide)] at h)
  c9 := fun h => H.c9 (by rwa [getD_set_ne _ (by decide)] at h)
  c10 := fun h => H.c10 (by rwa [getD_set_ne _ (by decide)] at h)
  c11 := fun h => H.c11 (by rwa [getD_set_ne _ (by decide)] at h)
  c12 := fun h => H.c12 (by rwa [getD_set_ne _ (by decide)] at h)
  c13 := fun _ => rfl
  g12 := fun h => by rw [getD_set_ne _ (by decide)]; exact H.g12 (by rwa [getD_set_ne _ (by decide)] at h)
  g13 := fun _ => by rw [getD_set_ne _ (by decide)]; exact hcall
theorem IvMP.o14 {a c d X Y Z : Int} {x : World} {b R S Lb : Nat} {p : Int} {L : Array Bool} {s17 s18 s19 s20 s21 s22 s23 s24 s25 s26 s27 s28 s29 s30 : Value} {w : World} (H : IvMP a c d X Y Z x b R S Lb p L s17 s18 s19 s20 s21 s22 s23 s24 s25 s26 s27 s28 s29 s30 w) (hcall : (L.getD 11 false = true)) {w' : World} (hq : QS2 x R S Lb (a, c, d) w') : IvMP a c d X Y Z x b R S Lb p (L.setIfInBounds 14 true) s17 s18 s19 s20 s21 s22 s23 s24 s25 s26 s27 s28 s29 s30 w' where
  z := by rw [Array.size_setIfInBounds]; exact H.z
  qs := hq
  cu := fun h => (notl (by rwa [getD_set_ne _ (by decide)] at h) hcall).elim
  pb := fun h => H.pb (by rwa [getD_set_ne _ (by decide)] at h)
  c0 := fun h => H.c0 (by rwa [getD_set_ne _ (by decide)] at h)
  c1 := fun h => H.c1 (by rwa [getD_set_ne _ (by decide)] at h)
  c2 := fun h => H.c2 (by rwa [getD_set_ne _ (by decide)] at h)
  c3 := fun h => H.c3 (by rwa [getD_set_ne _ (by decide)] at h)
  c4 := fun h => H.c4 (by rwa [getD_set_ne _ (by decide)] at h)
  c5 := fun h => H.c5 (by rwa [getD_set_ne _ (by decide)] at h)
  c6 := fun h => H.c6 (by rwa [getD_set_ne _ (by decide)] at h)
  c7 := fun h => H.c7 (by rwa [getD_set_ne _ (by decide)] at h)
  c8 := fun h => H.c8 (by rwa [getD_set_ne _ (by decide)] at h)
  c9 := fun h => H.c9 (by rwa [getD_set_ne _ (by decide)] at h)
  c10 := fun h => H.c10 (by rwa [getD_set_ne _ (by decide)] at h)
  c11 := fun h => H.c11 (by rwa [getD_set_ne _ (by decide)] at h)
  c12 := fun h => H.c12 (by rwa [getD_set_ne _ (by decide)] at h)
  c13 := fun h => H.c13 (by rwa [getD_set_ne _ (by decide)] at h)
  g12 := fun h => by rw [getD_set_ne _ (by decide)]; exact H.g12 (by rwa [getD_set_ne _ (by decide)] at h)
  g13 := fun h => by rw [getD_set_ne _ (by decide)]; exact H.g13 (by rwa [getD_set_ne _ (by decide)] at h)
theorem IvMP.o15 {a c d X Y Z : Int} {x : World} {b R S Lb : Nat} {p : Int} {L : Array Bool} {s17 s18 s19 s20 s21 s22 s23 s24 s25 s26 s27 s28 s29 s30 : Value} {w : World} (H : IvMP a c d X Y Z x b R S Lb p L s17 s18 s19 s20 s21 s22 s23 s24 s25 s26 s27 s28 s29 s30 w) (hcall : (L.getD 11 false = true)) {w' : World} (hq : QS2 x R S Lb (a, c, d) w') : IvMP a c d X Y Z x b R S Lb p (L.setIfInBounds 15 true) s17 s18 s19 s20 s21 s22 s23 s24 s25 s26 s27 s28 s29 s30 w' where
  z := by rw [Array.size_setIfInBounds]; exact H.z
  qs := hq
  cu := fun h => (notl (by rwa [getD_set_ne _ (by decide)] at h) hcall).elim
  pb := fun h => H.pb (by rwa [getD_set_ne _ (by decide)] at h)
  c0 := fun h => H.c0 (by rwa [getD_set_ne _ (by decide)] at h)
  c1 := fun h => H.c1 (by rwa [getD_set_ne _ (by decide)] at h)
  c2 := fun h => H.c2 (by rwa [getD_set_ne _ (by decide)] at h)
  c3 := fun h => H.c3 (by rwa [getD_set_ne _ (by decide)] at h)
  c4 := fun h => H.c4 (by rwa [getD_set_ne _ (by decide)] at h)
  c5 := fun h => H.c5 (by rwa [getD_set_ne _ (by decide)] at h)
  c6 := fun h => H.c6 (by rwa [getD_set_ne _ (by decide)] at h)
  c7 := fun h => H.c7 (by rwa [getD_set_ne _ (by decide)] at h)
  c8 := fun h => H.c8 (by rwa [getD_set_ne _ (by decide)] at h)
  c9 := fun h => H.c9 (by rwa [getD_set_ne _ (by decide)] at h)
  c10 := fun h => H.c10 (by rwa [getD_set_ne _ (by decide)] at h)
  c11 := fun h => H.c11 (by rwa [getD_set_ne _ (by decide)] at h)
  c12 := fun h => H.c12 (by rwa [getD_set_ne _ (by decide)] at h)
  c13 := fun h => H.c13 (by rwa [getD_set_ne _ (by decide)] at h)
  g12 := fun h => by rw [getD_set_ne _ (by decide)]; exact H.g12 (by rwa [getD_set_ne _ (by decide)] at h)
  g13 := fun h => by rw [getD_set_ne _ (by decide)]; exact H.g13 (by rwa [getD_set_ne _ (by decide)] at h)
set_option maxHeartbeats 4000000 in
set_option maxRecDepth 100000 in
theorem drawMeetingPoint_any (w : World) (A : Option Addr) (n cap : Nat) (h : RB w w.heap.size A n) (hn : n ≤ 1048576) : Calls Tryz.prog 4 #[.slice A n cap] w fun e w' => DrawsTT w e w' := by
  have hb0 : Below w.heap.size w ((w.alloc (.cells #[.int .i64 0, .int .i64 0, .int .i64 0] 24)).alloc (.cells #[.int .i64 0, .int .i64 0, .int .i64 0] 24)) := (gr2 _ _ _).below
  have hc := cur_new (cap := cap) (h.belowL hb0) hn
  rw [World.size_alloc, World.size_alloc] at hc
  have R0 := B3.new w (0, 0, 0) 24
  have R1 := (R0.old (.cells #[.int .i64 0, .int .i64 0, .int .i64 0] 24)).old (.cells #[.slice A n cap, .int .i64 0, .int .u64 0] 46)
  have S0 := B3.new (w.alloc (.cells #[.int .i64 0, .int .i64 0, .int .i64 0] 24)) (0, 0, 0) 24
  rw [World.size_alloc] at S0
  have S1 := S0.old (.cells #[.slice A n cap, .int .i64 0, .int .u64 0] 46)
  have hb1 : Below w.heap.size w (((w.alloc (.cells #[.int .i64 0, .int .i64 0, .int .i64 0] 24)).alloc (.cells #[.int .i64 0, .int .i64 0, .int .i64 0] 24)).alloc (.cells #[.slice A n cap, .int .i64 0, .int .u64 0] 46)) := (gr3 _ _ _ _).below
  clear hb0 R0 S0
  go_enter Tryz.func4, Tryz.ntmps4
  go_wp2_with fail
  refine (anyLine_any _ _ 0 hc (by omega)).mono ?_
  rintro e v1 ⟨t, rfl, ht, hc1, hg1⟩
  have HT := Lib.hid ht
  have hl1 := hc1.lt
  have D1 : QT w (w.heap.size + 1 + 1) w.heap.size (w.heap.size + 1) v1.heap.size t 14 (v1.alloc (.cells #[.int .i64 t.1, .int .i64 t.2.1, .int .i64 t.2.2] 24)) :=
    ⟨⟨_, (R1.away hg1 (by omega)).old _, zero_wf⟩, ⟨_, (S1.away hg1 (by omega)).old _, zero_wf⟩, B3.new v1 t 24, hc1.alloc _, bel2 (bel_cur2 hb1 (by omega) hg1) (gr1 _ _).below, by omega, by omega, by omega, by omega, by omega, by omega, by omega, by omega, by omega⟩
  obtain ⟨L, hL⟩ : ∃ L, L = v1.heap.size := ⟨_, rfl⟩
  rw [← hL] at D1
  have HLB := Lib.hid (show w.heap.size + 1 + 1 < L by omega)
  clear ht hc hc1 hg1 R1 S1 hb1 hl1
  go_wp2_with fail
  rw [← hL]
  generalize v1.alloc (.cells #[.int .i64 t.1, .int .i64 t.2.1, .int .i64 t.2.2] 24) = X1 at D1 ⊢
  clear hL
  refine (lnGood_any t _).mono ?_
  rintro e v2 ⟨rfl, g2⟩
  have D2 := D1.below g2.below
  clear D1 g2
  obtain ⟨a, c, d⟩ := t
  cases hb : lnB (a, c, d)
  · clear hb
    go_wp2_with fail
    have DK := D2.more (show 14 ≤ 16 by omega)
    clear D2
    obtain ⟨⟨r, ⟨⟨r0, r1, r2⟩, f0, f1, f2⟩, -⟩, ⟨u, ⟨⟨s0, s1, s2⟩, h0, h1, h2⟩, -⟩, ⟨⟨l0, l1, l2⟩, -, -, -⟩, -⟩ := id DK
    have ll := cell_lt l0
    have lr := cell_lt r0
    have ls := cell_lt s0
    have e1 : ¬ L = w.heap.size := by have := HLB.out; omega
    have e2 : ¬ L = w.heap.size + 1 := by have := HLB.out; omega
    have e3 : ¬ w.heap.size = L := by have := HLB.out; omega
    have e4 : ¬ w.heap.size + 1 = L := by have := HLB.out; omega
    go_region_with (first | (go_at_call 20; refine (anyLine_any _ _ 16 (by first | exact DK.cur | exact DK.drew.cur | exact (DK.drewN _).cur) (by omega)).mono ?_; rintro e w4 ⟨m, rfl, hm, hc4, hg4⟩; have D4 := QT.call (by first | exact DK | exact DK.drew | exact DK.drewN _) hc4 hg4; obtain ⟨⟨r', ⟨⟨t0, t1, t2⟩, u0, u1, u2⟩, -⟩, ⟨u', ⟨⟨m0, m1, m2⟩, n0, n1, n2⟩, -⟩, ⟨⟨p0, p1, p2⟩, -, -, -⟩, -⟩ := id D4; have vr := cell_lt t0; have vs := cell_lt m0; have HM := Lib.hid hm; clear hm; obtain ⟨x, y, z⟩ := m) | (fail))
    all_goals
      obtain ⟨⟨r9, h9, h9w⟩, ⟨u9, k9, k9w⟩, -, B9, -⟩ := QS2.put2 (QS2.put1 (QS2.of D4) HT.out) HM.out
      go_wp2
      refine bodyPost_ret (T3.results2L (s := r9) (t := u9) (g := w.heap.size) (g' := w.heap.size + 1) ?_ ?_ rfl rfl rfl) rfl ⟨r9, u9, rfl, ⟨h9w, k9w⟩, ?_⟩
      · exact h9.1
      · exact k9.1
      · first | exact B9 | exact B9.drew | exact belN B9 _
  · obtain ⟨⟨a1, a2⟩, ⟨b1, b2⟩, z1, z2⟩ := lnB_parts hb
    dsimp only at a1 a2 b1 b2 z1 z2
    clear hb
    go_wp2_with fail
    refine (one_any 4 (by omega) _ _ 14 D2.cur (by omega)).mono ?_
    rintro e v3 ⟨r, rfl, hc3, hg3⟩
    have DK := QT.call D2 hc3 hg3
    clear D2 hc3 hg3
    cases r
    · clear a1 a2 b1 b2 z1 z2
      go_wp2_with fail
      obtain ⟨⟨r, ⟨⟨r0, r1, r2⟩, f0, f1, f2⟩, -⟩, ⟨u, ⟨⟨s0, s1, s2⟩, h0, h1, h2⟩, -⟩, ⟨⟨l0, l1, l2⟩, -, -, -⟩, -⟩ := id DK
      have ll := cell_lt l0
      have lr := cell_lt r0
      have ls := cell_lt s0
      have e1 : ¬ L = w.heap.size := by have := HLB.out; omega
      have e2 : ¬ L = w.heap.size + 1 := by have := HLB.out; omega
      have e3 : ¬ w.heap.size = L := by have := HLB.out; omega
      have e4 : ¬ w.heap.size + 1 = L := by have := HLB.out; omega
      go_region_with (first | (go_at_call 20; refine (anyLine_any _ _ 16 (by first | exact DK.cur | exact DK.drew.cur | exact (DK.drewN _).cur) (by omega)).mono ?_; rintro e w4 ⟨m, rfl, hm, hc4, hg4⟩; have D4 := QT.call (by first | exact DK | exact DK.drew | exact DK.drewN _) hc4 hg4; obtain ⟨⟨r', ⟨⟨t0, t1, t2⟩, u0, u1, u2⟩, -⟩, ⟨u', ⟨⟨m0, m1, m2⟩, n0, n1, n2⟩, -⟩, ⟨⟨p0, p1, p2⟩, -, -, -⟩, -⟩ := id D4; have vr := cell_lt t0; have vs := cell_lt m0; have HM := Lib.hid hm; clear hm; obtain ⟨x, y, z⟩ := m) | (fail))
      all_goals
        obtain ⟨⟨r9, h9, h9w⟩, ⟨u9, k9, k9w⟩, -, B9, -⟩ := QS2.put2 (QS2.put1 (QS2.of D4) HT.out) HM.out
        go_wp2
        refine bodyPost_ret (T3.results2L (s := r9) (t := u9) (g := w.heap.size) (g' := w.heap.size + 1) ?_ ?_ rfl rfl rfl) rfl ⟨r9, u9, rfl, ⟨h9w, k9w⟩, ?_⟩
        · exact h9.1
        · exact k9.1
        · first | exact B9 | exact B9.drew | exact belN B9 _
    · obtain ⟨X, hX⟩ : ∃ X, X = a + 1 := ⟨_, rfl⟩
      obtain ⟨Y, hY⟩ : ∃ Y, Y = c + 1 := ⟨_, rfl⟩
      obtain ⟨Z, hZ⟩ : ∃ Z, Z = d + 1 := ⟨_, rfl⟩
      have q1 : IntKind.i64.wrap (a + 1) = X := by rw [hX]; exact IntWalk.i64_in _ (by omega)
      have q2 : IntKind.i64.wrap (c + 1) = Y := by rw [hY]; exact IntWalk.i64_in _ (by omega)
      have q3 : IntKind.i64.wrap (d + 1) = Z := by rw [hZ]; exact IntWalk.i64_in _ (by omega)
      have HXY := Lib.hid (show (-2000000 ≤ X ∧ X ≤ 2000000) ∧ (-2000000 ≤ Y ∧ Y ≤ 2000000) ∧ (-2000000 ≤ Z ∧ Z ≤ 2000000) by omega)
      clear hX hY hZ a1 a2 b1 b2 z1 z2
      go_wp2_with fail
      refine wp_region_inv (by kernel_rfl) (fun La a' w' => ∃ (p : Int) (s17 s18 s19 s20 s21 s22 s23 s24 s25 s26 s27 s28 s29 s30 : Value), a' = actMP (.slice A n cap) (undef) (.pointer (some ⟨w.heap.size, 0, none⟩)) (.pointer (some ⟨w.heap.size + 1, 0, none⟩)) (.pointer (some ⟨w.heap.size + 1 + 1, 0, none⟩)) (.pointer (some ⟨L, 0, none⟩)) (.slice A n cap) (.agg #[.slice A n cap, .int .i64 0, .int .u64 0]) (.pointer (some ⟨w.heap.size + 1 + 1, 0, none⟩)) (.pointer (some ⟨w.heap.size + 1 + 1, 0, none⟩)) (tmV (a, c, d)) (.agg #[.int .i64 a, .int .i64 c, .int .i64 d]) (.bool true) (.bool true) (.pointer (some ⟨w.heap.size + 1 + 1, 0, none⟩)) (.bool true) (.bool true) (undef) (undef) (undef) s17 s18 s19 s20 s21 s22 s23 s24 s25 s26 s27 s28 s29 s30 ∧ IvMP a c d X Y Z w (w.heap.size + 1 + 1) w.heap.size (w.heap.size + 1) L p La s17 s18 s19 s20 s21 s22 s23 s24 s25 s26 s27 s28 s29 s30 w') ?_ ?_ ?_
      · exact ⟨0, _, _, _, _, _, _, _, _, _, _, _, _, _, _, rfl, IvMP.start (QS2.of DK.drew) DK.drew⟩
      · rintro La a' w' i ⟨p, s17, s18, s19, s20, s21, s22, s23, s24, s25, s26, s27, s28, s29, s30, rfl, H⟩ hi
        obtain ⟨hL, o, ho, haf⟩ := mem_ready.1 hi
        have hiN : i < 16 := (Array.getElem?_eq_some_iff.1 ho).1
        clear hi
        obtain ⟨l0, l1, l2⟩ := H.qs.2.2.1.1
        have ll := cell_lt l0
        have hcs : i = 0 ∨ i = 1 ∨ i = 2 ∨ i = 3 ∨ i = 4 ∨ i = 5 ∨ i = 6 ∨ i = 7 ∨ i = 8 ∨ i = 9 ∨ i = 10 ∨ i = 11 ∨ i = 12 ∨ i = 13 ∨ i = 14 ∨ i = 15 := by omega
        rcases hcs with rfl | rfl | rfl | rfl | rfl | rfl | rfl | rfl | rfl | rfl | rfl | rfl | rfl | rfl | rfl | rfl
        · cases ho
          refine wpOp_step rfl fun K' hK => ?_
          rw [if_pos (by rfl)]
          go_simp
          exact hK _ _ ⟨p, _, _, _, _, _, _, _, _, _, _, _, _, _, _, rfl, H.o0⟩
        · cases ho
          refine wpOp_step rfl fun K' hK => ?_
          rw [if_pos (by rfl)]
          go_simp
          exact hK _ _ ⟨p, _, _, _, _, _, _, _, _, _, _, _, _, _, _, rfl, H.o1⟩
        · cases ho
          have e1 := H.c1 (haf_of haf 1 (by kernel_rfl))
          subst e1
          refine wpOp_step rfl fun K' hK => ?_
          rw [if_pos (by rfl)]
          go_simp
          exact hK _ _ ⟨p, _, _, _, _, _, _, _, _, _, _, _, _, _, _, rfl, H.o2⟩
        · cases ho
          have e2 := H.c2 (haf_of haf 2 (by kernel_rfl))
          subst e2
          refine wpOp_step rfl fun K' hK => ?_
          rw [if_pos (by rfl)]
          go_simp
          exact hK _ _ ⟨p, _, _, _, _, _, _, _, _, _, _, _, _, _, _, rfl, H.o3⟩
        · cases ho
          refine wpOp_step rfl fun K' hK => ?_
          rw [if_pos (by rfl)]
          go_simp
          exact hK _ _ ⟨p, _, _, _, _, _, _, _, _, _, _, _, _, _, _, rfl, H.o4⟩
        · cases ho
          have e4 := H.c4 (haf_of haf 4 (by kernel_rfl))
          subst e4
          refine wpOp_step rfl fun K' hK => ?_
          rw [if_pos (by rfl)]
          go_simp
          exact hK _ _ ⟨p, _, _, _, _, _, _, _, _, _, _, _, _, _, _, rfl, H.o5⟩
        · cases ho
          have e5 := H.c5 (haf_of haf 5 (by kernel_rfl))
          subst e5
          refine wpOp_step rfl fun K' hK => ?_
          rw [if_pos (by rfl)]
          go_simp
          exact hK _ _ ⟨p, _, _, _, _, _, _, _, _, _, _, _, _, _, _, rfl, H.o6⟩
        · cases ho
          refine wpOp_step rfl fun K' hK => ?_
          rw [if_pos (by rfl)]
          go_simp
          exact hK _ _ ⟨p, _, _, _, _, _, _, _, _, _, _, _, _, _, _, rfl, H.o7⟩
        · cases ho
          have e7 := H.c7 (haf_of haf 7 (by kernel_rfl))
          subst e7
          refine wpOp_step rfl fun K' hK => ?_
          rw [if_pos (by rfl)]
          go_simp
          exact hK _ _ ⟨p, _, _, _, _, _, _, _, _, _, _, _, _, _, _, rfl, H.o8⟩
        · cases ho
          have e8 := H.c8 (haf_of haf 8 (by kernel_rfl))
          subst e8
          refine wpOp_step rfl fun K' hK => ?_
          rw [if_pos (by rfl)]
          go_simp
          exact hK _ _ ⟨p, _, _, _, _, _, _, _, _, _, _, _, _, _, _, rfl, H.o9⟩
        · cases ho
          refine wpOp_step rfl fun K' hK => ?_
          rw [if_pos (by rfl)]
          go_simp
          exact hK _ _ ⟨p, _, _, _, _, _, _, _, _, _, _, _, _, _, _, rfl, H.o10⟩
        · cases ho
          have e10 := H.c10 (haf_of haf 10 (by kernel_rfl))
          subst e10
          refine wpOp_step rfl fun K' hK => ?_
          rw [if_pos (by rfl)]
          go_simp
          refine (pick_any 2 (by omega) _ _ 16 (H.cu hL).cur (by omega)).mono ?_
          rintro e w1 ⟨p', rfl, hp, hc, hg⟩
          exact hK _ _ ⟨p', _, _, _, _, _, _, _, _, _, _, _, _, _, _, rfl, H.o11 hL (QS2.of ((H.cu hL).call hc hg)) (by omega)⟩
        · cases ho
          have e9 := H.c9 (haf_of haf 9 (by kernel_rfl))
          subst e9
          have e11 := H.c11 (haf_of haf 11 (by kernel_rfl))
          subst e11
          have q4 : IntKind.i64.wrap (Z + p) = Z + p := (IntWalk.i64_in _ (by have := HXY.out; have := H.pb (haf_of haf 11 (by kernel_rfl)); omega))
          refine wpOp_step rfl fun K' hK => ?_
          rw [if_pos (by rfl)]
          go_simp
          exact hK _ _ ⟨p, _, _, _, _, _, _, _, _, _, _, _, _, _, _, rfl, H.o12 (haf_of haf 11 (by kernel_rfl))⟩
        · cases ho
          have e3 := H.c3 (haf_of haf 3 (by kernel_rfl))
          subst e3
          have e6 := H.c6 (haf_of haf 6 (by kernel_rfl))
          subst e6
          have e12 := H.c12 (haf_of haf 12 (by kernel_rfl))
          subst e12
          refine wpOp_step rfl fun K' hK => ?_
          rw [if_pos (by rfl)]
          go_simp
          exact hK _ _ ⟨p, _, _, _, _, _, _, _, _, _, _, _, _, _, _, rfl, H.o13 (H.g12 (haf_of haf 12 (by kernel_rfl)))⟩
        · cases ho
          have e0 := H.c0 (haf_of haf 0 (by kernel_rfl))
          subst e0
          refine wpOp_step rfl fun K' hK => ?_
          refine step_store3 (by rfl) (.tmp 2) (.tmp 17) (by rfl) (w.heap.size) (a, c, d) (by rfl) (by rfl) (by obtain ⟨r, h, -⟩ := H.qs.1; exact ⟨r, h⟩) ?_
          exact hK _ _ ⟨p, _, _, _, _, _, _, _, _, _, _, _, _, _, _, rfl, H.o14 (haf_of haf 11 (by kernel_rfl)) (QS2.put1 H.qs HT.out)⟩
        · cases ho
          have e13 := H.c13 (haf_of haf 13 (by kernel_rfl))
          subst e13
          refine wpOp_step rfl fun K' hK => ?_
          refine step_store3 (by rfl) (.tmp 3) (.tmp 30) (by rfl) (w.heap.size + 1) (X, Y, Z + p) (by rfl) (by rfl) (by obtain ⟨r, h, -⟩ := H.qs.2.1; exact ⟨r, h⟩) ?_
          exact hK _ _ ⟨p, _, _, _, _, _, _, _, _, _, _, _, _, _, _, rfl, H.o15 (haf_of haf 11 (by kernel_rfl)) (QS2.put2 H.qs (s := (X, Y, Z + p)) ⟨IntWalk.i64_in _ (by have := HXY.out; dsimp only; omega), IntWalk.i64_in _ (by have := HXY.out; dsimp only; omega)⟩)⟩
      · rintro La a' w' ⟨p, s17, s18, s19, s20, s21, s22, s23, s24, s25, s26, s27, s28, s29, s30, rfl, H⟩ hr
        have hall := ready_nil H.z (by kernel_rfl) hr
        obtain ⟨⟨r9, h9, h9w⟩, ⟨u9, k9, k9w⟩, -, B9, -⟩ := H.qs
        go_wp2
        refine bodyPost_ret (T3.results2L (s := r9) (t := u9) (g := w.heap.size) (g' := w.heap.size + 1) ?_ ?_ rfl rfl rfl) rfl ⟨r9, u9, rfl, ⟨h9w, k9w⟩, ?_⟩
        · exact h9.1
        · exact k9.1
        · exact B9
set_option maxHeartbeats 1000000 in
theorem drawMoveLine_any (w : World) (A : Option Addr) (n cap : Nat) (h : RB w w.heap.size A n) (hn : n ≤ 1048576) : Calls Tryz.prog 14 #[.slice A n cap] w fun e w' => ∃ (t : Tm) (x y : Int), e = .returned (.tuple #[tmV t, .int .i64 x, .int .i64 y]) ∧ (wfT t ∧ i64W x ∧ i64W y) ∧ Below w.heap.size w w' := by
  have hb0 : Below w.heap.size w (w.alloc (.cells #[.int .i64 0, .int .i64 0, .int .i64 0] 24)) := (gr1 _ _).below
  have hc := cur_new (cap := cap) (h.belowL hb0) hn
  rw [World.size_alloc] at hc
  have R1 := (B3.new w (0, 0, 0) 24).old (.cells #[.slice A n cap, .int .i64 0, .int .u64 0] 46)
  have hb1 : Below w.heap.size w ((w.alloc (.cells #[.int .i64 0, .int .i64 0, .int .i64 0] 24)).alloc (.cells #[.slice A n cap, .int .i64 0, .int .u64 0] 46)) := (gr2 _ _ _).below
  clear hb0
  go_enter Tryz.func14, Tryz.ntmps14
  go_wp2_with fail
  refine (anyLine_any _ _ 0 hc (by omega)).mono ?_
  rintro e v1 ⟨t, rfl, ht, hc1, hg1⟩
  have HT := Lib.hid ht
  have R2 := R1.away hg1 (by omega)
  have B2 := bel_cur2 hb1 (by omega) hg1
  clear ht R1 hb1 hg1
  go_wp2_with fail
  refine (coord_any _ _ _ hc1 (by omega)).mono ?_
  rintro e v2 ⟨x, rfl, hx, hc2, hg2⟩
  have HX := Lib.hid hx
  have R3 := R2.away hg2 (by omega)
  have B3' := bel_cur2 B2 (by omega) hg2
  clear hx R2 B2 hg2
  go_wp2_with fail
  refine (coord_any _ _ _ hc2 (by omega)).mono ?_
  rintro e v3 ⟨y, rfl, hy, hc3, hg3⟩
  have HY := Lib.hid hy
  have R4 := R3.away hg3 (by omega)
  have HR := Lib.hid R4
  have B4 := Lib.hid (bel_cur2 B3' (by omega) hg3)
  clear hy R3 B3' hg3
  obtain ⟨⟨c0, c1, c2⟩, f0, f1, f2⟩ := R4
  have hl := cell_lt c0
  obtain ⟨a, c, d⟩ := t
  go_wp2
  refine bodyPost_ret (T3.results3L (t := (a, c, d)) (g := w.heap.size) (HR.out.put3 (a, c, d)).1 rfl rfl rfl rfl) rfl ⟨(a, c, d), x, y, rfl, ⟨HT.out, HX.out, HY.out⟩, ?_⟩
  exact bel3D B4.out (Nat.le_refl _) _ _ _
end Go.Proofs.YtakamboflfkchaaGreatDoor

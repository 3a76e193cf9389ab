/-
  How often an end's direction is gone between two vertices: of the model.
  Conditions: the slice reads as what is named.
-/
import Derived.Test.YtbapepflfgcioaaGreatCuL
namespace Go.Proofs.YtbapepflfgcioaaGreat
set_option linter.unusedSimpArgs false
set_option linter.unusedVariables false
open Go.ChangeShapes Go.WideShapes Go.ChangeAt Go.RowKit
open Go.Sort (grow)

/-- A new block of 4 integers: from block N on, it holds p. -/
def Bs (N : Nat) (w : World) (v : Value) (p : Int × Int × Int × Int) : Prop := ∃ g, v = .pointer (some ⟨g, 0, none⟩) ∧ N ≤ g ∧ w.heap[g]? = some (.cells #[.int .i64 p.1, .int .i64 p.2.1, .int .i64 p.2.2.1, .int .i64 p.2.2.2] 76 (0, 0))
theorem Bs.gr {N : Nat} {w w' : World} {v : Value} {p : Int × Int × Int × Int} (h : Bs N w v p) (hg : Below w.heap.size w w') : Bs N w' v p := by
  obtain ⟨g, h1, h2, h3⟩ := h
  exact ⟨g, h1, h2, (hg.block g (Array.getElem?_eq_some_iff.1 h3).1).trans h3⟩
theorem Bs.new {N : Nat} {w : World} (h : N ≤ w.heap.size) : Bs N (w.alloc (.cells #[.int .i64 0, .int .i64 0, .int .i64 0, .int .i64 0] 76)) (.pointer (some ⟨w.heap.size, 0, none⟩)) ((0 : Int), (0 : Int), (0 : Int), (0 : Int)) :=
  ⟨_, rfl, h, heap_alloc_new w _⟩
theorem Bs.ne_new {N : Nat} {w : World} {v : Value} {p : Int × Int × Int × Int} (h : Bs N w v p) : v ≠ .pointer (some ⟨w.heap.size, 0, none⟩) := by
  obtain ⟨g, rfl, h2, h3⟩ := h
  intro e
  have h4 := (Array.getElem?_eq_some_iff.1 h3).1
  simp only [Value.pointer.injEq, Option.some.injEq, Addr.mk.injEq] at e
  omega
theorem Bs.at {N g : Nat} {w : World} {p : Int × Int × Int × Int} (h : Bs N w (.pointer (some ⟨g, 0, none⟩)) p) : N ≤ g ∧ w.heap[g]? = some (.cells #[.int .i64 p.1, .int .i64 p.2.1, .int .i64 p.2.2.1, .int .i64 p.2.2.2] 76 (0, 0)) := by
  obtain ⟨g', h1, h2, h3⟩ := h
  simp only [Value.pointer.injEq, Option.some.injEq, Addr.mk.injEq] at h1
  obtain ⟨rfl, -⟩ := h1
  exact ⟨h2, h3⟩
theorem Bs.cells {N g : Nat} {w : World} {p : Int × Int × Int × Int} (h : Bs N w (.pointer (some ⟨g, 0, none⟩)) p) : (w.cell? ⟨g, 0, none⟩ = some (.int .i64 p.1) ∧ w.cell? ⟨g, 1, none⟩ = some (.int .i64 p.2.1) ∧ w.cell? ⟨g, 2, none⟩ = some (.int .i64 p.2.2.1) ∧ w.cell? ⟨g, 3, none⟩ = some (.int .i64 p.2.2.2)) ∧ w.frozen? ⟨g, 0, none⟩ = false ∧ w.frozen? ⟨g, 1, none⟩ = false ∧ w.frozen? ⟨g, 2, none⟩ = false ∧ w.frozen? ⟨g, 3, none⟩ = false := by
  have h3 := h.at.2
  refine ⟨⟨?_, ?_, ?_, ?_⟩, ?_, ?_, ?_, ?_⟩ <;> simp [World.cell?, World.frozen?, h3]
theorem Bs.put {N g : Nat} {w : World} {p : Int × Int × Int × Int} (h : Bs N w (.pointer (some ⟨g, 0, none⟩)) p) (q : Int × Int × Int × Int) : Bs N ((((w.setCell ⟨g, 0, none⟩ (.int .i64 q.1)).setCell ⟨g, 1, none⟩ (.int .i64 q.2.1)).setCell ⟨g, 2, none⟩ (.int .i64 q.2.2.1)).setCell ⟨g, 3, none⟩ (.int .i64 q.2.2.2)) (.pointer (some ⟨g, 0, none⟩)) q := by
  obtain ⟨h1, h2⟩ := h.at
  exact ⟨g, rfl, h1, heap_set_at _ (heap_set_at _ (heap_set_at _ (heap_set_at _ h2)))⟩
theorem Bs.off {N g : Nat} {w : World} {v : Value} {p : Int × Int × Int × Int} (h : Bs N w v p) (hne : v ≠ .pointer (some ⟨g, 0, none⟩)) {u0 u1 u2 u3 : Value} : Bs N ((((w.setCell ⟨g, 0, none⟩ u0).setCell ⟨g, 1, none⟩ u1).setCell ⟨g, 2, none⟩ u2).setCell ⟨g, 3, none⟩ u3) v p := by
  obtain ⟨g', rfl, h2, h3⟩ := h
  have hn : g' ≠ g := fun e => hne (by rw [e])
  refine ⟨g', rfl, h2, ?_⟩
  iterate 4 rw [Below.heap_setCell _ _ _ g' hn]
  exact h3
/-- A new block of 2 integers: from block N on, it holds p. -/
def Bfr (N : Nat) (w : World) (v : Value) (p : Int × Int) : Prop := ∃ g, v = .pointer (some ⟨g, 0, none⟩) ∧ N ≤ g ∧ w.heap[g]? = some (.cells #[.int .i64 p.1, .int .i64 p.2] 39 (0, 0))
theorem Bfr.gr {N : Nat} {w w' : World} {v : Value} {p : Int × Int} (h : Bfr N w v p) (hg : Below w.heap.size w w') : Bfr N w' v p := by
  obtain ⟨g, h1, h2, h3⟩ := h
  exact ⟨g, h1, h2, (hg.block g (Array.getElem?_eq_some_iff.1 h3).1).trans h3⟩
theorem Bfr.new {N : Nat} {w : World} (h : N ≤ w.heap.size) : Bfr N (w.alloc (.cells #[.int .i64 0, .int .i64 0] 39)) (.pointer (some ⟨w.heap.size, 0, none⟩)) ((0 : Int), (0 : Int)) :=
  ⟨_, rfl, h, heap_alloc_new w _⟩
theorem Bfr.ne_new {N : Nat} {w : World} {v : Value} {p : Int × Int} (h : Bfr N w v p) : v ≠ .pointer (some ⟨w.heap.size, 0, none⟩) := by
  obtain ⟨g, rfl, h2, h3⟩ := h
  intro e
  have h4 := (Array.getElem?_eq_some_iff.1 h3).1
  simp only [Value.pointer.injEq, Option.some.injEq, Addr.mk.injEq] at e
  omega
theorem Bfr.at {N g : Nat} {w : World} {p : Int × Int} (h : Bfr N w (.pointer (some ⟨g, 0, none⟩)) p) : N ≤ g ∧ w.heap[g]? = some (.cells #[.int .i64 p.1, .int .i64 p.2] 39 (0, 0)) := by
  obtain ⟨g', h1, h2, h3⟩ := h
  simp only [Value.pointer.injEq, Option.some.injEq, Addr.mk.injEq] at h1
  obtain ⟨rfl, -⟩ := h1
  exact ⟨h2, h3⟩
theorem Bfr.cells {N g : Nat} {w : World} {p : Int × Int} (h : Bfr N w (.pointer (some ⟨g, 0, none⟩)) p) : (w.cell? ⟨g, 0, none⟩ = some (.int .i64 p.1) ∧ w.cell? ⟨g, 1, none⟩ = some (.int .i64 p.2)) ∧ w.frozen? ⟨g, 0, none⟩ = false ∧ w.frozen? ⟨g, 1, none⟩ = false := by
  have h3 := h.at.2
  refine ⟨⟨?_, ?_⟩, ?_, ?_⟩ <;> simp [World.cell?, World.frozen?, h3]
theorem Bfr.put {N g : Nat} {w : World} {p : Int × Int} (h : Bfr N w (.pointer (some ⟨g, 0, none⟩)) p) (q : Int × Int) : Bfr N ((w.setCell ⟨g, 0, none⟩ (.int .i64 q.1)).setCell ⟨g, 1, none⟩ (.int .i64 q.2)) (.pointer (some ⟨g, 0, none⟩)) q := by
  obtain ⟨h1, h2⟩ := h.at
  exact ⟨g, rfl, h1, heap_set_at _ (heap_set_at _ h2)⟩
theorem Bfr.off {N g : Nat} {w : World} {v : Value} {p : Int × Int} (h : Bfr N w v p) (hne : v ≠ .pointer (some ⟨g, 0, none⟩)) {u0 u1 : Value} : Bfr N ((w.setCell ⟨g, 0, none⟩ u0).setCell ⟨g, 1, none⟩ u1) v p := by
  obtain ⟨g', rfl, h2, h3⟩ := h
  have hn : g' ≠ g := fun e => hne (by rw [e])
  refine ⟨g', rfl, h2, ?_⟩
  iterate 2 rw [Below.heap_setCell _ _ _ g' hn]
  exact h3
/-- The cells' slice; the place of a cell in it; a cell. -/
def RcL (l : List Tm) (w : World) (v : Value) : Prop := ∃ (C : VL) (A : Option Addr) (cap B : Nat), v = .slice A C.length cap ∧ lls C = ceL l ∧ LS w B (.slice A C.length cap) C
def RcV (l : List Tm) (k : Nat) (w : World) (v : Value) : Prop := ∃ B, IS w B v ((ceL l).getD k [])
def RcP (l : List Tm) (k : Nat) (w : World) (v : Value) : Prop := ∃ g u, v = .pointer (some ⟨g, k, none⟩) ∧ (w.cell? ⟨g, k, none⟩ = some u ∧ ∃ cs, w.heap[g]? = some (.cells cs 49 (0, 0))) ∧ RcV l k w u
theorem RcV.gr {l : List Tm} {k : Nat} {w w' : World} {v : Value} (h : RcV l k w v) (hb : Below w.heap.size w w') : RcV l k w' v := h.imp fun _ q => q.below hb
theorem RcP.gr {l : List Tm} {k : Nat} {w w' : World} {v : Value} (h : RcP l k w v) (hb : Below w.heap.size w w') : RcP l k w' v := by
  obtain ⟨g, u, h1, ⟨h2, cs, h3⟩, h4⟩ := h
  exact ⟨g, u, h1, ⟨X3.below.box_old3 h2 hb, cs, (hb.block g (Array.getElem?_eq_some_iff.1 h3).1).trans h3⟩, h4.gr hb⟩
theorem RcL.gr {l : List Tm} {w w' : World} {v : Value} (h : RcL l w v) (hb : Below w.heap.size w w') : RcL l w' v := by
  obtain ⟨C, A, cap, B, h1, h2, h3⟩ := h
  exact ⟨C, A, cap, B, h1, h2, h3.below hb⟩
theorem RcL.of {l : List Tm} {w : World} {B : Nat} {v : Value} {C : VL} (h : LS w B v C) (e : lls C = ceL l) : RcL l w v := by
  obtain ⟨A, cap, rfl, -, -⟩ := h.parts
  exact ⟨C, A, cap, B, rfl, e, h⟩
theorem off4 {w : World} {N g g' : Nat} {p : Int × Int × Int × Int} (hb : Bs N w (.pointer (some ⟨g, 0, none⟩)) p) {cs : Array Value} {T : TypeId} {fz : Nat × Nat} (h : w.heap[g']? = some (.cells cs T fz)) (hT : T ≠ 76) (a b c d : Value) :
    ((((w.setCell ⟨g, 0, none⟩ a).setCell ⟨g, 1, none⟩ b).setCell ⟨g, 2, none⟩ c).setCell ⟨g, 3, none⟩ d).heap[g']? = w.heap[g']? := by
  have hn : g' ≠ g := fun e => by
    subst e
    have h2 := hb.at.2
    rw [h] at h2
    simp only [Option.some.injEq, Obj.cells.injEq] at h2
    exact hT h2.2.1
  iterate 4 rw [Below.heap_setCell _ _ _ g' hn]
theorem is_off {w : World} {N g : Nat} {p : Int × Int × Int × Int} (hb : Bs N w (.pointer (some ⟨g, 0, none⟩)) p) {B : Nat} {v : Value} {zs : List Int} (h : IS w B v zs) (a b c d : Value) : IS ((((w.setCell ⟨g, 0, none⟩ a).setCell ⟨g, 1, none⟩ b).setCell ⟨g, 2, none⟩ c).setCell ⟨g, 3, none⟩ d) B v zs :=
  h.keep fun g' hg' => by
    rcases h.2 with ⟨rfl, -⟩ | ⟨q, cap, cur, rfl, -, hh, -⟩
    · cases hg'
    · obtain rfl : q = g' := by simpa [Value.ownBlock] using hg'
      exact off4 hb hh (by decide) a b c d
theorem RcV.off {l : List Tm} {k : Nat} {w : World} {v : Value} (h : RcV l k w v) {N g : Nat} {p : Int × Int × Int × Int} (hb : Bs N w (.pointer (some ⟨g, 0, none⟩)) p) (a b c d : Value) : RcV l k ((((w.setCell ⟨g, 0, none⟩ a).setCell ⟨g, 1, none⟩ b).setCell ⟨g, 2, none⟩ c).setCell ⟨g, 3, none⟩ d) v := h.imp fun _ q => is_off hb q a b c d
theorem RcP.off {l : List Tm} {k : Nat} {w : World} {v : Value} (h : RcP l k w v) {N g : Nat} {p : Int × Int × Int × Int} (hb : Bs N w (.pointer (some ⟨g, 0, none⟩)) p) (a b c d : Value) : RcP l k ((((w.setCell ⟨g, 0, none⟩ a).setCell ⟨g, 1, none⟩ b).setCell ⟨g, 2, none⟩ c).setCell ⟨g, 3, none⟩ d) v := by
  obtain ⟨g', u, h1, ⟨h2, cs, h3⟩, h4⟩ := h
  have e := off4 hb h3 (by decide) a b c d
  refine ⟨g', u, h1, ⟨?_, cs, e.trans h3⟩, h4.off hb a b c d⟩
  rw [← h2]
  unfold World.cell?
  rw [e]
theorem RcL.off {l : List Tm} {w : World} {v : Value} (h : RcL l w v) {N g : Nat} {p : Int × Int × Int × Int} (hb : Bs N w (.pointer (some ⟨g, 0, none⟩)) p) (a b c d : Value) : RcL l ((((w.setCell ⟨g, 0, none⟩ a).setCell ⟨g, 1, none⟩ b).setCell ⟨g, 2, none⟩ c).setCell ⟨g, 3, none⟩ d) v := by
  obtain ⟨C, A, cap, B, h1, h2, h3⟩ := h
  refine ⟨C, A, cap, B, h1, h2, ⟨⟨h3.1.1, ?_⟩, fun p hp => is_off hb (h3.2.1 p hp) a b c d, h3.2.2⟩⟩
  rcases h3.1.2 with q | ⟨q, cap', cur, q1, q2, q3, q4⟩
  · exact .inl q
  · exact .inr ⟨q, cap', cur, q1, q2, (off4 hb q3 (by decide) a b c d).trans q3, q4⟩
theorem RcL.at {l : List Tm} {w : World} {v : Value} (h : RcL l w v) {k : Nat} (hk : k < (ceL l).length) : ∃ (A : Option Addr) (cap m gc : Nat), v = .slice A m cap ∧ A = some ⟨gc, 0, none⟩ ∧ k < m ∧ RcP l k w (.pointer (some ⟨gc, k, none⟩)) := by
  obtain ⟨C, A, cap, B, h1, h2, h3⟩ := h
  obtain ⟨A', cap', he, -, hp⟩ := h3.parts
  simp only [Value.slice.injEq] at he
  obtain ⟨rfl, -, -⟩ := he
  have hC : k < C.length := by rw [← h2, lls_len] at hk; exact hk
  obtain ⟨gc, rfl, e0⟩ := hp k hC
  refine ⟨_, cap, C.length, gc, h1, rfl, hC, gc, pvl C k, rfl, ⟨e0, ?_⟩, B, ?_⟩
  · rcases h3.1.2 with ⟨q, -⟩ | ⟨q, cap', cur, q1, q2, q3, q4⟩
    · cases q
    · simp only [Value.slice.injEq, Option.some.injEq, Addr.mk.injEq] at q1
      obtain ⟨⟨rfl, -⟩, -⟩ := q1
      exact ⟨cur, q3⟩
  · have := h3.2.at hC
    rwa [pll_get h2 hC] at this
theorem RcP.get {l : List Tm} {k : Nat} {w : World} {v : Value} (h : RcP l k w v) : ∃ gc u, v = .pointer (some ⟨gc, k, none⟩) ∧ w.cell? ⟨gc, k, none⟩ = some u ∧ RcV l k w u := by
  obtain ⟨g, u, h1, ⟨h2, -⟩, h3⟩ := h
  exact ⟨g, u, h1, h2, h3⟩
/-- A vertex' four integers. -/
abbrev vx4 (l : List Tm) (x : List Int) : Int × Int × Int × Int := (vxN l x, vxD l x, vyN l x, vyD l x)
/-- The side's list; the end's. -/
def RcS (i k : Nat) (w : World) (v : Value) : Prop := ∃ B, IS w B v [(i : Int), (k : Int)]
def RcE (l : List Tm) (x : List Int) (i k : Nat) (w : World) (v : Value) : Prop := ∃ B, IS w B v (enT l x i k)
theorem RcS.gr {i k : Nat} {w w' : World} {v : Value} (h : RcS i k w v) (hb : Below w.heap.size w w') : RcS i k w' v := h.imp fun _ q => q.below hb
theorem RcE.gr {l : List Tm} {x : List Int} {i k : Nat} {w w' : World} {v : Value} (h : RcE l x i k w v) (hb : Below w.heap.size w w') : RcE l x i k w' v := h.imp fun _ q => q.below hb
theorem gsl_y {dx dy a b c d a' b' c' d' : Int} {w w' : World} {e : Ending} (h : dx = 0) (H : GivesTq c d c' d' dy w e w') : GivesF (sgN dx dy a b c d a' b' c' d') (sgD dx dy a b c d a' b' c' d') (sgB dx dy a b c d a' b' c' d') w e w' := by
  unfold sgN sgD sgB
  rw [if_pos h, if_pos h, if_pos h]
  exact H
theorem gsl_x {dx dy a b c d a' b' c' d' : Int} {w w' : World} {e : Ending} (h : dx ≠ 0) (H : GivesTq a b a' b' dx w e w') : GivesF (sgN dx dy a b c d a' b' c' d') (sgD dx dy a b c d a' b' c' d') (sgB dx dy a b c d a' b' c' d') w e w' := by
  unfold sgN sgD sgB
  rw [if_neg h, if_neg h, if_neg h]
  exact H
theorem frSub_ty {a b c d : Int} (h1 : frB a b = true) (h2 : frB c d = true) (w : World) : Calls Tryz.prog 56 #[fracV c d, fracV a b] w fun x w' => GivesF (tyN a b c d) (tyD a b c d) (tyB a b c d) w x w' := frSub_any c d a b w h2 h1
theorem frDiv_ty {a b c d s : Int} (h : tyB a b c d = true) (hs : -1000 ≤ s ∧ s ≤ 1000) (w : World) : Calls Tryz.prog 57 #[fracV (tyN a b c d) (tyD a b c d), fracV s 1] w fun x w' => GivesF (mkN (tyN a b c d) (tyD a b c d * s)) (mkD (tyN a b c d) (tyD a b c d * s)) (mkB (tyN a b c d) (tyD a b c d * s)) w x w' := by
  have := frDiv_any (tyN a b c d) (tyD a b c d) s 1 w (mk_fr (show mkB (c * b - a * d) (d * b) = true from h)) (frB_whole (n := s) (by omega))
  rw [Int.mul_one] at this
  exact this
abbrev actSl (q0 q1 q2 q3 q4 q5 q6 q7 q8 q11 q12 q13 q14 q15 q16 q17 q18 q19 q20 q21 q22 q23 q24 q25 q26 q27 q46 q47 q48 q49 q50 q51 q52 q53 q54 q55 q56 q57 q58 q59 q60 q61 q62 q63 q64 q65 q66 q67 q68 q69 q70 q71 q72 q73 q74 q75 q76 q77 q78 q79 q80 q81 q82 q83 q84 q85 q86 q87 q88 q89 q90 q91 : Value) (s9 s10 s28 s29 s30 s31 s32 s33 s34 s35 s36 s37 s38 s39 s40 s41 s42 s43 s44 s45 : Value) : Act := { tmps := #[q0, q1, q2, q3, q4, q5, q6, q7, q8, s9, s10, q11, q12, q13, q14, q15, q16, q17, q18, q19, q20, q21, q22, q23, q24, q25, q26, q27, s28, s29, s30, s31, s32, s33, s34, s35, s36, s37, s38, s39, s40, s41, s42, s43, s44, s45, q46, q47, q48, q49, q50, q51, q52, q53, q54, q55, q56, q57, q58, q59, q60, q61, q62, q63, q64, q65, q66, q67, q68, q69, q70, q71, q72, q73, q74, q75, q76, q77, q78, q79, q80, q81, q82, q83, q84, q85, q86, q87, q88, q89, q90, q91], defers := [] }
/-- What is known when some operations are done. -/
structure IvSl (x : World) (l : List Tm) (tA : Option Addr) (n nt gv cv ci di : Nat) (cx cy : List Int) (L : Array Bool) (s9 s10 s28 s29 s30 s31 s32 s33 s34 s35 s36 s37 s38 s39 s40 s41 s42 s43 s44 s45 : Value) (w : World) : Prop where
  z : L.size = 22
  bel : Below x.heap.size x w
  c0 : (L.getD 0 false = true) → s28 = .slice tA n nt
  c1 : (L.getD 1 false = true) → s29 = .slice tA n nt
  c2 : (L.getD 2 false = true) → (L.getD 20 false = false) → (L.getD 21 false = false) → RcL l w s30
  c3 : (L.getD 3 false = true) → s31 = .slice (some ⟨gv, 0, none⟩) 2 cv
  c4 : (L.getD 4 false = true) → s32 = .pointer (some ⟨gv, 0, none⟩)
  c5 : (L.getD 5 false = true) → s33 = .int .i64 (ci : Int)
  c6 : (L.getD 6 false = true) → (L.getD 20 false = false) → (L.getD 21 false = false) → RcP l ci w s34
  c7 : (L.getD 7 false = true) → (L.getD 20 false = false) → (L.getD 21 false = false) → RcV l ci w s35
  c8 : (L.getD 8 false = true) → s36 = vxV l cx
  c9 : (L.getD 9 false = true) → s37 = .slice tA n nt
  c10 : (L.getD 10 false = true) → s38 = .slice tA n nt
  c11 : (L.getD 11 false = true) → (L.getD 21 false = false) → RcL l w s39
  c12 : (L.getD 12 false = true) → s40 = .slice (some ⟨gv, 0, none⟩) 2 cv
  c13 : (L.getD 13 false = true) → s41 = .pointer (some ⟨gv, 1, none⟩)
  c14 : (L.getD 14 false = true) → s42 = .int .i64 (di : Int)
  c15 : (L.getD 15 false = true) → (L.getD 21 false = false) → RcP l di w s43
  c16 : (L.getD 16 false = true) → (L.getD 21 false = false) → RcV l di w s44
  c17 : (L.getD 17 false = true) → s45 = vxV l cy
  b18 : (L.getD 18 false = true) → ∃ p, Bs x.heap.size w s9 p
  b19 : (L.getD 19 false = true) → ∃ p, Bs x.heap.size w s10 p
  d18_19 : (L.getD 18 false = true) → (L.getD 19 false = true) → s9 ≠ s10
  e20 : (L.getD 20 false = true) → Bs x.heap.size w s9 (vx4 l cx)
  e21 : (L.getD 21 false = true) → Bs x.heap.size w s10 (vx4 l cy)
  g20 : (L.getD 20 false = true) → ∀ j, j ∈ [0, 1, 2, 3, 4, 5, 6, 7, 8, 18, 19] → L.getD j false = true
  g21 : (L.getD 21 false = true) → ∀ j, j ∈ [0, 1, 2, 3, 4, 5, 6, 7, 8, 9, 10, 11, 12, 13, 14, 15, 16, 17, 18, 19, 20] → L.getD j false = true
theorem IvSl.start (x : World) (l : List Tm) (tA : Option Addr) (n nt gv cv ci di : Nat) (cx cy : List Int) (s9 s10 s28 s29 s30 s31 s32 s33 s34 s35 s36 s37 s38 s39 s40 s41 s42 s43 s44 s45 : Value) : IvSl x l tA n nt gv cv ci di cx cy (Array.replicate 22 false) s9 s10 s28 s29 s30 s31 s32 s33 s34 s35 s36 s37 s38 s39 s40 s41 s42 s43 s44 s45 x.drew where
  z := rfl
  bel := belD (Below.refl _ _)
  c0 := fun h => by simp at h
  c1 := fun h => by simp at h
  c2 := fun h => by simp at h
  c3 := fun h => by simp at h
  c4 := fun h => by simp at h
  c5 := fun h => by simp at h
  c6 := fun h => by simp at h
  c7 := fun h => by simp at h
  c8 := fun h => by simp at h
  c9 := fun h => by simp at h
  c10 := fun h => by simp at h
  c11 := fun h => by simp at h
  c12 := fun h => by simp at h
  c13 := fun h => by simp at h
  c14 := fun h => by simp at h
  c15 := fun h => by simp at h
  c16 := fun h => by simp at h
  c17 := fun h => by simp at h
  b18 := fun h => by simp at h
  b19 := fun h => by simp at h
  d18_19 := fun h => by simp at h
  e20 := fun h => by simp at h
  e21 := fun h => by simp at h
  g20 := fun h => by simp at h
  g21 := fun h => by simp at h
theorem IvSl.o0 {x : World} {l : List Tm} {tA : Option Addr} {n nt gv cv ci di : Nat} {cx cy : List Int} {L : Array Bool} {s9 s10 s28 s29 s30 s31 s32 s33 s34 s35 s36 s37 s38 s39 s40 s41 s42 s43 s44 s45 : Value} {w : World} (H : IvSl x l tA n nt gv cv ci di cx cy L s9 s10 s28 s29 s30 s31 s32 s33 s34 s35 s36 s37 s38 s39 s40 s41 s42 s43 s44 s45 w)  : IvSl x l tA n nt gv cv ci di cx cy (L.setIfInBounds 0 true) s9 s10 (.slice tA n nt) s29 s30 s31 s32 s33 s34 s35 s36 s37 s38 s39 s40 s41 s42 s43 s44 s45 w where
  z := by rw [Array.size_setIfInBounds]; exact H.z
  bel := H.bel
  c0 := fun _ => rfl
  c1 := fun h => H.c1 (by rwa [getD_set_ne _ (by decide)] at h)
  c2 := fun h n20 n21 => (H.c2 (by rwa [getD_set_ne _ (by decide)] at h) (by rwa [getD_set_ne _ (by decide)] at n20) (by rwa [getD_set_ne _ (by decide)] at n21))
  c3 := fun h => H.c3 (by rwa [getD_set_ne _ (by decide)] at h)
  c4 := fun h => H.c4 (by rwa [getD_set_ne _ (by decide)] at h)
  c5 := fun h => H.c5 (by rwa [getD_set_ne _ (by decide)] at h)
  c6 := fun h n20 n21 => (H.c6 (by rwa [getD_set_ne _ (by decide)] at h) (by rwa [getD_set_ne _ (by decide)] at n20) (by rwa [getD_set_ne _ (by decide)] at n21))
  c7 := fun h n20 n21 => (H.c7 (by rwa [getD_set_ne _ (by decide)] at h) (by rwa [getD_set_ne _ (by decide)] at n20) (by rwa [getD_set_ne _ (by decide)] at n21))
  c8 := fun h => H.c8 (by rwa [getD_set_ne _ (by decide)] at h)
  c9 := fun h => H.c9 (by rwa [getD_set_ne _ (by decide)] at h)
  c10 := fun h => H.c10 (by rwa [getD_set_ne _ (by decide)] at h)
  c11 := fun h n21 => (H.c11 (by rwa [getD_set_ne _ (by decide)] at h) (by rwa [getD_set_ne _ (by decide)] at n21))
  c12 := fun h => H.c12 (by rwa [getD_set_ne _ (by decide)] at h)
  c13 := fun h => H.c13 (by rwa [getD_set_ne _ (by decide)] at h)
  c14 := fun h => H.c14 (by rwa [getD_set_ne _ (by decide)] at h)
  c15 := fun h n21 => (H.c15 (by rwa [getD_set_ne _ (by decide)] at h) (by rwa [getD_set_ne _ (by decide)] at n21))
  c16 := fun h n21 => (H.c16 (by rwa [getD_set_ne _ (by decide)] at h) (by rwa [getD_set_ne _ (by decide)] at n21))
  c17 := fun h => H.c17 (by rwa [getD_set_ne _ (by decide)] at h)
  b18 := fun h => (H.b18 (by rwa [getD_set_ne _ (by decide)] at h))
  b19 := fun h => (H.b19 (by rwa [getD_set_ne _ (by decide)] at h))
  d18_19 := fun h h' => H.d18_19 (by rwa [getD_set_ne _ (by decide)] at h) (by rwa [getD_set_ne _ (by decide)] at h')
  e20 := fun h => (H.e20 (by rwa [getD_set_ne _ (by decide)] at h))
  e21 := fun h => (H.e21 (by rwa [getD_set_ne _ (by decide)] at h))
  g20 := fun h j hj => by
    by_cases e : j = 0
    · subst e; exact getD_set_same H.z (by decide)
    · rw [getD_set_ne _ (fun q => e q.symm)]; exact H.g20 (by rwa [getD_set_ne _ (by decide)] at h) j hj
  g21 := fun h j hj => by
    by_cases e : j = 0
    · subst e; exact getD_set_same H.z (by decide)
    · rw [getD_set_ne _ (fun q => e q.symm)]; exact H.g21 (by rwa [getD_set_ne _ (by decide)] at h) j hj
theorem IvSl.o1 {x : World} {l : List Tm} {tA : Option Addr} {n nt gv cv ci di : Nat} {cx cy : List Int} {L : Array Bool} {s9 s10 s28 s29 s30 s31 s32 s33 s34 s35 s36 s37 s38 s39 s40 s41 s42 s43 s44 s45 : Value} {w : World} (H : IvSl x l tA n nt gv cv ci di cx cy L s9 s10 s28 s29 s30 s31 s32 s33 s34 s35 s36 s37 s38 s39 s40 s41 s42 s43 s44 s45 w)  : IvSl x l tA n nt gv cv ci di cx cy (L.setIfInBounds 1 true) s9 s10 s28 (.slice tA n nt) s30 s31 s32 s33 s34 s35 s36 s37 s38 s39 s40 s41 s42 s43 s44 s45 w where
  z := by rw [Array.size_setIfInBounds]; exact H.z
  bel := H.bel
  c0 := fun h => H.c0 (by rwa [getD_set_ne _ (by decide)] at h)
  c1 := fun _ => rfl
  c2 := fun h n20 n21 => (H.c2 (by rwa [getD_set_ne _ (by decide)] at h) (by rwa [getD_set_ne _ (by decide)] at n20) (by rwa [getD_set_ne _ (by decide)] at n21))
  c3 := fun h => H.c3 (by rwa [getD_set_ne _ (by decide)] at h)
  c4 := fun h => H.c4 (by rwa [getD_set_ne _ (by decide)] at h)
  c5 := fun h => H.c5 (by rwa [getD_set_ne _ (by decide)] at h)
  c6 := fun h n20 n21 => (H.c6 (by rwa [getD_set_ne _ (by decide)] at h) (by rwa [getD_set_ne _ (by decide)] at n20) (by rwa [getD_set_ne _ (by decide)] at n21))
  c7 := fun h n20 n21 => (H.c7 (by rwa [getD_set_ne _ (by decide)] at h) (by rwa [getD_set_ne _ (by decide)] at n20) (by rwa [getD_set_ne _ (by decide)] at n21))
  c8 := fun h => H.c8 (by rwa [getD_set_ne _ (by decide)] at h)
  c9 := fun h => H.c9 (by rwa [getD_set_ne _ (by decide)] at h)
  c10 := fun h => H.c10 (by rwa [getD_set_ne _ (by decide)] at h)
  c11 := fun h n21 => (H.c11 (by rwa [getD_set_ne _ (by decide)] at h) (by rwa [getD_set_ne _ (by decide)] at n21))
  c12 := fun h => H.c12 (by rwa [getD_set_ne _ (by decide)] at h)
  c13 := fun h => H.c13 (by rwa [getD_set_ne _ (by decide)] at h)
  c14 := fun h => H.c14 (by rwa [getD_set_ne _ (by decide)] at h)
  c15 := fun h n21 => (H.c15 (by rwa [getD_set_ne _ (by decide)] at h) (by rwa [getD_set_ne _ (by decide)] at n21))
  c16 := fun h n21 => (H.c16 (by rwa [getD_set_ne _ (by decide)] at h) (by rwa [getD_set_ne _ (by decide)] at n21))
  c17 := fun h => H.c17 (by rwa [getD_set_ne _ (by decide)] at h)
  b18 := fun h => (H.b18 (by rwa [getD_set_ne _ (by decide)] at h))
  b19 := fun h => (H.b19 (by rwa [getD_set_ne _ (by decide)] at h))
  d18_19 := fun h h' => H.d18_19 (by rwa [getD_set_ne _ (by decide)] at h) (by rwa [getD_set_ne _ (by decide)] at h')
  e20 := fun h => (H.e20 (by rwa [getD_set_ne _ (by decide)] at h))
  e21 := fun h => (H.e21 (by rwa [getD_set_ne _ (by decide)] at h))
  g20 := fun h j hj => by
    by_cases e : j = 1
    · subst e; exact getD_set_same H.z (by decide)
    · rw [getD_set_ne _ (fun q => e q.symm)]; exact H.g20 (by rwa [getD_set_ne _ (by decide)] at h) j hj
  g21 := fun h j hj => by
    by_cases e : j = 1
    · subst e; exact getD_set_same H.z (by decide)
    · rw [getD_set_ne _ (fun q => e q.symm)]; exact H.g21 (by rwa [getD_set_ne _ (by decide)] at h) j hj
theorem IvSl.o2 {x : World} {l : List Tm} {tA : Option Addr} {n nt gv cv ci di : Nat} {cx cy : List Int} {L : Array Bool} {s9 s10 s28 s29 s30 s31 s32 s33 s34 s35 s36 s37 s38 s39 s40 s41 s42 s43 s44 s45 : Value} {w : World} (H : IvSl x l tA n nt gv cv ci di cx cy L s9 s10 s28 s29 s30 s31 s32 s33 s34 s35 s36 s37 s38 s39 s40 s41 s42 s43 s44 s45 w) {w' : World} (hg : Below w.heap.size w w') {u : Value} (hR : RcL l w' u) : IvSl x l tA n nt gv cv ci di cx cy (L.setIfInBounds 2 true) s9 s10 s28 s29 u s31 s32 s33 s34 s35 s36 s37 s38 s39 s40 s41 s42 s43 s44 s45 w' where
  z := by rw [Array.size_setIfInBounds]; exact H.z
  bel := bel2 H.bel hg
  c0 := fun h => H.c0 (by rwa [getD_set_ne _ (by decide)] at h)
  c1 := fun h => H.c1 (by rwa [getD_set_ne _ (by decide)] at h)
  c2 := fun h n20 n21 => hR
  c3 := fun h => H.c3 (by rwa [getD_set_ne _ (by decide)] at h)
  c4 := fun h => H.c4 (by rwa [getD_set_ne _ (by decide)] at h)
  c5 := fun h => H.c5 (by rwa [getD_set_ne _ (by decide)] at h)
  c6 := fun h n20 n21 => (H.c6 (by rwa [getD_set_ne _ (by decide)] at h) (by rwa [getD_set_ne _ (by decide)] at n20) (by rwa [getD_set_ne _ (by decide)] at n21)).gr hg
  c7 := fun h n20 n21 => (H.c7 (by rwa [getD_set_ne _ (by decide)] at h) (by rwa [getD_set_ne _ (by decide)] at n20) (by rwa [getD_set_ne _ (by decide)] at n21)).gr hg
  c8 := fun h => H.c8 (by rwa [getD_set_ne _ (by decide)] at h)
  c9 := fun h => H.c9 (by rwa [getD_set_ne _ (by decide)] at h)
  c10 := fun h => H.c10 (by rwa [getD_set_ne _ (by decide)] at h)
  c11 := fun h n21 => (H.c11 (by rwa [getD_set_ne _ (by decide)] at h) (by rwa [getD_set_ne _ (by decide)] at n21)).gr hg
  c12 := fun h => H.c12 (by rwa [getD_set_ne _ (by decide)] at h)
  c13 := fun h => H.c13 (by rwa [getD_set_ne _ (by decide)] at h)
  c14 := fun h => H.c14 (by rwa [getD_set_ne _ (by decide)] at h)
  c15 := fun h n21 => (H.c15 (by rwa [getD_set_ne _ (by decide)] at h) (by rwa [getD_set_ne _ (by decide)] at n21)).gr hg
  c16 := fun h n21 => (H.c16 (by rwa [getD_set_ne _ (by decide)] at h) (by rwa [getD_set_ne _ (by decide)] at n21)).gr hg
  c17 := fun h => H.c17 (by rwa [getD_set_ne _ (by decide)] at h)
  b18 := fun h => (H.b18 (by rwa [getD_set_ne _ (by decide)] at h)).imp fun _ k => k.gr hg
  b19 := fun h => (H.b19 (by rwa [getD_set_ne _ (by decide)] at h)).imp fun _ k => k.gr hg
  d18_19 := fun h h' => H.d18_19 (by rwa [getD_set_ne _ (by decide)] at h) (by rwa [getD_set_ne _ (by decide)] at h')
  e20 := fun h => (H.e20 (by rwa [getD_set_ne _ (by decide)] at h)).gr hg
  e21 := fun h => (H.e21 (by rwa [getD_set_ne _ (by decide)] at h)).gr hg
  g20 := fun h j hj => by
    by_cases e : j = 2
    · subst e; exact getD_set_same H.z (by decide)
    · rw [getD_set_ne _ (fun q => e q.symm)]; exact H.g20 (by rwa [getD_set_ne _ (by decide)] at h) j hj
  g21 := fun h j hj => by
    by_cases e : j = 2
    · subst e; exact getD_set_same H.z (by decide)
    · rw [getD_set_ne _ (fun q => e q.symm)]; exact H.g21 (by rwa [getD_set_ne _ (by decide)] at h) j hj
theorem IvSl.o3 {x : World} {l : List Tm} {tA : Option Addr} {n nt gv cv ci di : Nat} {cx cy : List Int} {L : Array Bool} {s9 s10 s28 s29 s30 s31 s32 s33 s34 s35 s36 s37 s38 s39 s40 s41 s42 s43 s44 s45 : Value} {w : World} (H : IvSl x l tA n nt gv cv ci di cx cy L s9 s10 s28 s29 s30 s31 s32 s33 s34 s35 s36 s37 s38 s39 s40 s41 s42 s43 s44 s45 w)  : IvSl x l tA n nt gv cv ci di cx cy (L.setIfInBounds 3 true) s9 s10 s28 s29 s30 (.slice (some ⟨gv, 0, none⟩) 2 cv) s32 s33 s34 s35 s36 s37 s38 s39 s40 s41 s42 s43 s44 s45 w where
  z := by rw [Array.size_setIfInBounds]; exact H.z
  bel := H.bel
  c0 := fun h => H.c0 (by rwa [getD_set_ne _ (by decide)] at h)
  c1 := fun h => H.c1 (by rwa [getD_set_ne _ (by decide)] at h)
  c2 := fun h n20 n21 => (H.c2 (by rwa [getD_set_ne _ (by decide)] at h) (by rwa [getD_set_ne _ (by decide)] at n20) (by rwa [getD_set_ne _ (by decide)] at n21))
  c3 := fun _ => rfl
  c4 := fun h => H.c4 (by rwa [getD_set_ne _ (by decide)] at h)
  c5 := fun h => H.c5 (by rwa [getD_set_ne _ (by decide)] at h)
  c6 := fun h n20 n21 => (H.c6 (by rwa [getD_set_ne _ (by decide)] at h) (by rwa [getD_set_ne _ (by decide)] at n20) (by rwa [getD_set_ne _ (by decide)] at n21))
  c7 := fun h n20 n21 => (H.c7 (by rwa [getD_set_ne _ (by decide)] at h) (by rwa [getD_set_ne _ (by decide)] at n20) (by rwa [getD_set_ne _ (by decide)] at n21))
  c8 := fun h => H.c8 (by rwa [getD_set_ne _ (by decide)] at h)
  c9 := fun h => H.c9 (by rwa [getD_set_ne _ (by decide)] at h)
  c10 := fun h => H.c10 (by rwa [getD_set_ne _ (by decide)] at h)
  c11 := fun h n21 => (H.c11 (by rwa [getD_set_ne _ (by decide)] at h) (by rwa [getD_set_ne _ (by decide)] at n21))
  c12 := fun h => H.c12 (by rwa [getD_set_ne _ (by decide)] at h)
  c13 := fun h => H.c13 (by rwa [getD_set_ne _ (by decide)] at h)
  c14 := fun h => H.c14 (by rwa [getD_set_ne _ (by decide)] at h)
  c15 := fun h n21 => (H.c15 (by rwa [getD_set_ne _ (by decide)] at h) (by rwa [getD_set_ne _ (by decide)] at n21))
  c16 := fun h n21 => (H.c16 (by rwa [getD_set_ne _ (by decide)] at h) (by rwa [getD_set_ne _ (by decide)] at n21))
  c17 := fun h => H.c17 (by rwa [getD_set_ne _ (by decide)] at h)
  b18 := fun h => (H.b18 (by rwa [getD_set_ne _ (by decide)] at h))
  b19 := fun h => (H.b19 (by rwa [getD_set_ne _ (by decide)] at h))
  d18_19 := fun h h' => H.d18_19 (by rwa [getD_set_ne _ (by decide)] at h) (by rwa [getD_set_ne _ (by decide)] at h')
  e20 := fun h => (H.e20 (by rwa [getD_set_ne _ (by decide)] at h))
  e21 := fun h => (H.e21 (by rwa [getD_set_ne _ (by decide)] at h))
  g20 := fun h j hj => by
    by_cases e : j = 3
    · subst e; exact getD_set_same H.z (by decide)
    · rw [getD_set_ne _ (fun q => e q.symm)]; exact H.g20 (by rwa [getD_set_ne _ (by decide)] at h) j hj
  g21 := fun h j hj => by
    by_cases e : j = 3
    · subst e; exact getD_set_same H.z (by decide)
    · rw [getD_set_ne _ (fun q => e q.symm)]; exact H.g21 (by rwa [getD_set_ne _ (by decide)] at h) j hj
theorem IvSl.o4 {x : World} {l : List Tm} {tA : Option Addr} {n nt gv cv ci di : Nat} {cx cy : List Int} {L : Array Bool} {s9 s10 s28 s29 s30 s31 s32 s33 s34 s35 s36 s37 s38 s39 s40 s41 s42 s43 s44 s45 : Value} {w : World} (H : IvSl x l tA n nt gv cv ci di cx cy L s9 s10 s28 s29 s30 s31 s32 s33 s34 s35 s36 s37 s38 s39 s40 s41 s42 s43 s44 s45 w)  : IvSl x l tA n nt gv cv ci di cx cy (L.setIfInBounds 4 true) s9 s10 s28 s29 s30 s31 (.pointer (some ⟨gv, 0, none⟩)) s33 s34 s35 s36 s37 s38 s39 s40 s41 s42 s43 s44 s45 w where
  z := by rw [Array.size_setIfInBounds]; exact H.z
  bel := H.bel
  c0 := fun h => H.c0 (by rwa [getD_set_ne _ (by decide)] at h)
  c1 := fun h => H.c1 (by rwa [getD_set_ne _ (by decide)] at h)
  c2 := fun h n20 n21 => (H.c2 (by rwa [getD_set_ne _ (by decide)] at h) (by rwa [getD_set_ne _ (by decide)] at n20) (by rwa [getD_set_ne _ (by decide)] at n21))
  c3 := fun h => H.c3 (by rwa [getD_set_ne _ (by decide)] at h)
  c4 := fun _ => rfl
  c5 := fun h => H.c5 (by rwa [getD_set_ne _ (by decide)] at h)
  c6 := fun h n20 n21 => (H.c6 (by rwa [getD_set_ne _ (by decide)] at h) (by rwa [getD_set_ne _ (by decide)] at n20) (by rwa [getD_set_ne _ (by decide)] at n21))
  c7 := fun h n20 n21 => (H.c7 (by rwa [getD_set_ne _ (by decide)] at h) (by rwa [getD_set_ne _ (by decide)] at n20) (by rwa [getD_set_ne _ (by decide)] at n21))
  c8 := fun h => H.c8 (by rwa [getD_set_ne _ (by decide)] at h)
  c9 := fun h => H.c9 (by rwa [getD_set_ne _ (by decide)] at h)
  c10 := fun h => H.c10 (by rwa [getD_set_ne _ (by decide)] at h)
  c11 := fun h n21 => (H.c11 (by rwa [getD_set_ne _ (by decide)] at h) (by rwa [getD_set_ne _ (by decide)] at n21))
  c12 := fun h => H.c12 (by rwa [getD_set_ne _ (by decide)] at h)
  c13 := fun h => H.c13 (by rwa [getD_set_ne _ (by decide)] at h)
  c14 := fun h => H.c14 (by rwa [getD_set_ne _ (by decide)] at h)
  c15 := fun h n21 => (H.c15 (by rwa [getD_set_ne _ (by decide)] at h) (by rwa [getD_set_ne _ (by decide)] at n21))
  c16 := fun h n21 => (H.c16 (by rwa [getD_set_ne _ (by decide)] at h) (by rwa [getD_set_ne _ (by decide)] at n21))
  c17 := fun h => H.c17 (by rwa [getD_set_ne _ (by decide)] at h)
  b18 := fun h => (H.b18 (by rwa [getD_set_ne _ (by decide)] at h))
  b19 := fun h => (H.b19 (by rwa [getD_set_ne _ (by decide)] at h))
  d18_19 := fun h h' => H.d18_19 (by rwa [getD_set_ne _ (by decide)] at h) (by rwa [getD_set_ne _ (by decide)] at h')
  e20 := fun h => (H.e20 (by rwa [getD_set_ne _ (by decide)] at h))
  e21 := fun h => (H.e21 (by rwa [getD_set_ne _ (by decide)] at h))
  g20 := fun h j hj => by
    by_cases e : j = 4
    · subst e; exact getD_set_same H.z (by decide)
    · rw [getD_set_ne _ (fun q => e q.symm)]; exact H.g20 (by rwa [getD_set_ne _ (by decide)] at h) j hj
  g21 := fun h j hj => by
    by_cases e : j = 4
    · subst e; exact getD_set_same H.z (by decide)
    · rw [getD_set_ne _ (fun q => e q.symm)]; exact H.g21 (by rwa [getD_set_ne _ (by decide)] at h) j hj
theorem IvSl.o5 {x : World} {l : List Tm} {tA : Option Addr} {n nt gv cv ci di : Nat} {cx cy : List Int} {L : Array Bool} {s9 s10 s28 s29 s30 s31 s32 s33 s34 s35 s36 s37 s38 s39 s40 s41 s42 s43 s44 s45 : Value} {w : World} (H : IvSl x l tA n nt gv cv ci di cx cy L s9 s10 s28 s29 s30 s31 s32 s33 s34 s35 s36 s37 s38 s39 s40 s41 s42 s43 s44 s45 w)  : IvSl x l tA n nt gv cv ci di cx cy (L.setIfInBounds 5 true) s9 s10 s28 s29 s30 s31 s32 (.int .i64 (ci : Int)) s34 s35 s36 s37 s38 s39 s40 s41 s42 s43 s44 s45 w where
  z := by rw [Array.size_setIfInBounds]; exact H.z
  bel := H.bel
  c0 := fun h => H.c0 (by rwa [getD_set_ne _ (by decide)] at h)
  c1 := fun h => H.c1 (by rwa [getD_set_ne _ (by decide)] at h)
  c2 := fun h n20 n21 => (H.c2 (by rwa [getD_set_ne _ (by decide)] at h) (by rwa [getD_set_ne _ (by decide)] at n20) (by rwa [getD_set_ne _ (by decide)] at n21))
  c3 := fun h => H.c3 (by rwa [getD_set_ne _ (by decide)] at h)
  c4 := fun h => H.c4 (by rwa [getD_set_ne _ (by decide)] at h)
  c5 := fun _ => rfl
  c6 := fun h n20 n21 => (H.c6 (by rwa [getD_set_ne _ (by decide)] at h) (by rwa [getD_set_ne _ (by decide)] at n20) (by rwa [getD_set_ne _ (by decide)] at n21))
  c7 := fun h n20 n21 => (H.c7 (by rwa [getD_set_ne _ (by decide)] at h) (by rwa [getD_set_ne _ (by decide)] at n20) (by rwa [getD_set_ne _ (by decide)] at n21))
  c8 := fun h => H.c8 (by rwa [getD_set_ne _ (by decide)] at h)
  c9 := fun h => H.c9 (by rwa [getD_set_ne _ (by decide)] at h)
  c10 := fun h => H.c10 (by rwa [getD_set_ne _ (by decide)] at h)
  c11 := fun h n21 => (H.c11 (by rwa [getD_set_ne _ (by decide)] at h) (by rwa [getD_set_ne _ (by decide)] at n21))
  c12 := fun h => H.c12 (by rwa [getD_set_ne _ (by decide)] at h)
  c13 := fun h => H.c13 (by rwa [getD_set_ne _ (by decide)] at h)
  c14 := fun h => H.c14 (by rwa [getD_set_ne _ (by decide)] at h)
  c15 := fun h n21 => (H.c15 (by rwa [getD_set_ne _ (by decide)] at h) (by rwa [getD_set_ne _ (by decide)] at n21))
  c16 := fun h n21 => (H.c16 (by rwa [getD_set_ne _ (by decide)] at h) (by rwa [getD_set_ne _ (by decide)] at n21))
  c17 := fun h => H.c17 (by rwa [getD_set_ne _ (by decide)] at h)
  b18 := fun h => (H.b18 (by rwa [getD_set_ne _ (by decide)] at h))
  b19 := fun h => (H.b19 (by rwa [getD_set_ne _ (by decide)] at h))
  d18_19 := fun h h' => H.d18_19 (by rwa [getD_set_ne _ (by decide)] at h) (by rwa [getD_set_ne _ (by decide)] at h')
  e20 := fun h => (H.e20 (by rwa [getD_set_ne _ (by decide)] at h))
  e21 := fun h => (H.e21 (by rwa [getD_set_ne _ (by decide)] at h))
  g20 := fun h j hj => by
    by_cases e : j = 5
    · subst e; exact getD_set_same H.z (by decide)
    · rw [getD_set_ne _ (fun q => e q.symm)]; exact H.g20 (by rwa [getD_set_ne _ (by decide)] at h) j hj
  g21 := fun h j hj => by
    by_cases e : j = 5
    · subst e; exact getD_set_same H.z (by decide)
    · rw [getD_set_ne _ (fun q => e q.symm)]; exact H.g21 (by rwa [getD_set_ne _ (by decide)] at h) j hj
theorem IvSl.o6 {x : World} {l : List Tm} {tA : Option Addr} {n nt gv cv ci di : Nat} {cx cy : List Int} {L : Array Bool} {s9 s10 s28 s29 s30 s31 s32 s33 s34 s35 s36 s37 s38 s39 s40 s41 s42 s43 s44 s45 : Value} {w : World} (H : IvSl x l tA n nt gv cv ci di cx cy L s9 s10 s28 s29 s30 s31 s32 s33 s34 s35 s36 s37 s38 s39 s40 s41 s42 s43 s44 s45 w) {u : Value} (hR : RcP l ci w u) : IvSl x l tA n nt gv cv ci di cx cy (L.setIfInBounds 6 true) s9 s10 s28 s29 s30 s31 s32 s33 u s35 s36 s37 s38 s39 s40 s41 s42 s43 s44 s45 w where
  z := by rw [Array.size_setIfInBounds]; exact H.z
  bel := H.bel
  c0 := fun h => H.c0 (by rwa [getD_set_ne _ (by decide)] at h)
  c1 := fun h => H.c1 (by rwa [getD_set_ne _ (by decide)] at h)
  c2 := fun h n20 n21 => (H.c2 (by rwa [getD_set_ne _ (by decide)] at h) (by rwa [getD_set_ne _ (by decide)] at n20) (by rwa [getD_set_ne _ (by decide)] at n21))
  c3 := fun h => H.c3 (by rwa [getD_set_ne _ (by decide)] at h)
  c4 := fun h => H.c4 (by rwa [getD_set_ne _ (by decide)] at h)
  c5 := fun h => H.c5 (by rwa [getD_set_ne _ (by decide)] at h)
  c6 := fun h n20 n21 => hR
  c7 := fun h n20 n21 => (H.c7 (by rwa [getD_set_ne _ (by decide)] at h) (by rwa [getD_set_ne _ (by decide)] at n20) (by rwa [getD_set_ne _ (by decide)] at n21))
  c8 := fun h => H.c8 (by rwa [getD_set_ne _ (by decide)] at h)
  c9 := fun h => H.c9 (by rwa [getD_set_ne _ (by decide)] at h)
  c10 := fun h => H.c10 (by rwa [getD_set_ne _ (by decide)] at h)
  c11 := fun h n21 => (H.c11 (by rwa [getD_set_ne _ (by decide)] at h) (by rwa [getD_set_ne _ (by decide)] at n21))
  c12 := fun h => H.c12 (by rwa [getD_set_ne _ (by decide)] at h)
  c13 := fun h => H.c13 (by rwa [getD_set_ne _ (by decide)] at h)
  c14 := fun h => H.c14 (by rwa [getD_set_ne _ (by decide)] at h)
  c15 := fun h n21 => (H.c15 (by rwa [getD_set_ne _ (by decide)] at h) (by rwa [getD_set_ne _ (by decide)] at n21))
  c16 := fun h n21 => (H.c16 (by rwa [getD_set_ne _ (by decide)] at h) (by rwa [getD_set_ne _ (by decide)] at n21))
  c17 := fun h => H.c17 (by rwa [getD_set_ne _ (by decide)] at h)
  b18 := fun h => (H.b18 (by rwa [getD_set_ne _ (by decide)] at h))
  b19 := fun h => (H.b19 (by rwa [getD_set_ne _ (by decide)] at h))
  d18_19 := fun h h' => H.d18_19 (by rwa [getD_set_ne _ (by decide)] at h) (by rwa [getD_set_ne _ (by decide)] at h')
  e20 := fun h => (H.e20 (by rwa [getD_set_ne _ (by decide)] at h))
  e21 := fun h => (H.e21 (by rwa [getD_set_ne _ (by decide)] at h))
  g20 := fun h j hj => by
    by_cases e : j = 6
    · subst e; exact getD_set_same H.z (by decide)
    · rw [getD_set_ne _ (fun q => e q.symm)]; exact H.g20 (by rwa [getD_set_ne _ (by decide)] at h) j hj
  g21 := fun h j hj => by
    by_cases e : j = 6
    · subst e; exact getD_set_same H.z (by decide)
    · rw [getD_set_ne _ (fun q => e q.symm)]; exact H.g21 (by rwa [getD_set_ne _ (by decide)] at h) j hj
theorem IvSl.o7 {x : World} {l : List Tm} {tA : Option Addr} {n nt gv cv ci di : Nat} {cx cy : List Int} {L : Array Bool} {s9 s10 s28 s29 s30 s31 s32 s33 s34 s35 s36 s37 s38 s39 s40 s41 s42 s43 s44 s45 : Value} {w : World} (H : IvSl x l tA n nt gv cv ci di cx cy L s9 s10 s28 s29 s30 s31 s32 s33 s34 s35 s36 s37 s38 s39 s40 s41 s42 s43 s44 s45 w) {u : Value} (hR : RcV l ci w u) : IvSl x l tA n nt gv cv ci di cx cy (L.setIfInBounds 7 true) s9 s10 s28 s29 s30 s31 s32 s33 s34 u s36 s37 s38 s39 s40 s41 s42 s43 s44 s45 w where
  z := by rw [Array.size_setIfInBounds]; exact H.z
  bel := H.bel
  c0 := fun h => H.c0 (by rwa [getD_set_ne _ (by decide)] at h)
  c1 := fun h => H.c1 (by rwa [getD_set_ne _ (by decide)] at h)
  c2 := fun h n20 n21 => (H.c2 (by rwa [getD_set_ne _ (by decide)] at h) (by rwa [getD_set_ne _ (by decide)] at n20) (by rwa [getD_set_ne _ (by decide)] at n21))
  c3 := fun h => H.c3 (by rwa [getD_set_ne _ (by decide)] at h)
  c4 := fun h => H.c4 (by rwa [getD_set_ne _ (by decide)] at h)
  c5 := fun h => H.c5 (by rwa [getD_set_ne _ (by decide)] at h)
  c6 := fun h n20 n21 => (H.c6 (by rwa [getD_set_ne _ (by decide)] at h) (by rwa [getD_set_ne _ (by decide)] at n20) (by rwa [getD_set_ne _ (by decide)] at n21))
  c7 := fun h n20 n21 => hR
  c8 := fun h => H.c8 (by rwa [getD_set_ne _ (by decide)] at h)
  c9 := fun h => H.c9 (by rwa [getD_set_ne _ (by decide)] at h)
  c10 := fun h => H.c10 (by rwa [getD_set_ne _ (by decide)] at h)
  c11 := fun h n21 => (H.c11 (by rwa [getD_set_ne _ (by decide)] at h) (by rwa [getD_set_ne _ (by decide)] at n21))
  c12 := fun h => H.c12 (by rwa [getD_set_ne _ (by decide)] at h)
  c13 := fun h => H.c13 (by rwa [getD_set_ne _ (by decide)] at h)
  c14 := fun h => H.c14 (by rwa [getD_set_ne _ (by decide)] at h)
  c15 := fun h n21 => (H.c15 (by rwa [getD_set_ne _ (by decide)] at h) (by rwa [getD_set_ne _ (by decide)] at n21))
  c16 := fun h n21 => (H.c16 (by rwa [getD_set_ne _ (by decide)] at h) (by rwa [getD_set_ne _ (by decide)] at n21))
  c17 := fun h => H.c17 (by rwa [getD_set_ne _ (by decide)] at h)
  b18 := fun h => (H.b18 (by rwa [getD_set_ne _ (by decide)] at h))
  b19 := fun h => (H.b19 (by rwa [getD_set_ne _ (by decide)] at h))
  d18_19 := fun h h' => H.d18_19 (by rwa [getD_set_ne _ (by decide)] at h) (by rwa [getD_set_ne _ (by decide)] at h')
  e20 := fun h => (H.e20 (by rwa [getD_set_ne _ (by decide)] at h))
  e21 := fun h => (H.e21 (by rwa [getD_set_ne _ (by decide)] at h))
  g20 := fun h j hj => by
    by_cases e : j = 7
    · subst e; exact getD_set_same H.z (by decide)
    · rw [getD_set_ne _ (fun q => e q.symm)]; exact H.g20 (by rwa [getD_set_ne _ (by decide)] at h) j hj
  g21 := fun h j hj => by
    by_cases e : j = 7
    · subst e; exact getD_set_same H.z (by decide)
    · rw [getD_set_ne _ (fun q => e q.symm)]; exact H.g21 (by rwa [getD_set_ne _ (by decide)] at h) j hj
theorem IvSl.o8 {x : World} {l : List Tm} {tA : Option Addr} {n nt gv cv ci di : Nat} {cx cy : List Int} {L : Array Bool} {s9 s10 s28 s29 s30 s31 s32 s33 s34 s35 s36 s37 s38 s39 s40 s41 s42 s43 s44 s45 : Value} {w : World} (H : IvSl x l tA n nt gv cv ci di cx cy L s9 s10 s28 s29 s30 s31 s32 s33 s34 s35 s36 s37 s38 s39 s40 s41 s42 s43 s44 s45 w) {w' : World} (hg : Below w.heap.size w w') : IvSl x l tA n nt gv cv ci di cx cy (L.setIfInBounds 8 true) s9 s10 s28 s29 s30 s31 s32 s33 s34 s35 (vxV l cx) s37 s38 s39 s40 s41 s42 s43 s44 s45 w' where
  z := by rw [Array.size_setIfInBounds]; exact H.z
  bel := bel2 H.bel hg
  c0 := fun h => H.c0 (by rwa [getD_set_ne _ (by decide)] at h)
  c1 := fun h => H.c1 (by rwa [getD_set_ne _ (by decide)] at h)
  c2 := fun h n20 n21 => (H.c2 (by rwa [getD_set_ne _ (by decide)] at h) (by rwa [getD_set_ne _ (by decide)] at n20) (by rwa [getD_set_ne _ (by decide)] at n21)).gr hg
  c3 := fun h => H.c3 (by rwa [getD_set_ne _ (by decide)] at h)
  c4 := fun h => H.c4 (by rwa [getD_set_ne _ (by decide)] at h)
  c5 := fun h => H.c5 (by rwa [getD_set_ne _ (by decide)] at h)
  c6 := fun h n20 n21 => (H.c6 (by rwa [getD_set_ne _ (by decide)] at h) (by rwa [getD_set_ne _ (by decide)] at n20) (by rwa [getD_set_ne _ (by decide)] at n21)).gr hg
  c7 := fun h n20 n21 => (H.c7 (by rwa [getD_set_ne _ (by decide)] at h) (by rwa [getD_set_ne _ (by decide)] at n20) (by rwa [getD_set_ne _ (by decide)] at n21)).gr hg
  c8 := fun _ => rfl
  c9 := fun h => H.c9 (by rwa [getD_set_ne _ (by decide)] at h)
  c10 := fun h => H.c10 (by rwa [getD_set_ne _ (by decide)] at h)
  c11 := fun h n21 => (H.c11 (by rwa [getD_set_ne _ (by decide)] at h) (by rwa [getD_set_ne _ (by decide)] at n21)).gr hg
  c12 := fun h => H.c12 (by rwa [getD_set_ne _ (by decide)] at h)
  c13 := fun h => H.c13 (by rwa [getD_set_ne _ (by decide)] at h)
  c14 := fun h => H.c14 (by rwa [getD_set_ne _ (by decide)] at h)
  c15 := fun h n21 => (H.c15 (by rwa [getD_set_ne _ (by decide)] at h) (by rwa [getD_set_ne _ (by decide)] at n21)).gr hg
  c16 := fun h n21 => (H.c16 (by rwa [getD_set_ne _ (by decide)] at h) (by rwa [getD_set_ne _ (by decide)] at n21)).gr hg
  c17 := fun h => H.c17 (by rwa [getD_set_ne _ (by decide)] at h)
  b18 := fun h => (H.b18 (by rwa [getD_set_ne _ (by decide)] at h)).imp fun _ k => k.gr hg
  b19 := fun h => (H.b19 (by rwa [getD_set_ne _ (by decide)] at h)).imp fun _ k => k.gr hg
  d18_19 := fun h h' => H.d18_19 (by rwa [getD_set_ne _ (by decide)] at h) (by rwa [getD_set_ne _ (by decide)] at h')
  e20 := fun h => (H.e20 (by rwa [getD_set_ne _ (by decide)] at h)).gr hg
  e21 := fun h => (H.e21 (by rwa [getD_set_ne _ (by decide)] at h)).gr hg
  g20 := fun h j hj => by
    by_cases e : j = 8
    · subst e; exact getD_set_same H.z (by decide)
    · rw [getD_set_ne _ (fun q => e q.symm)]; exact H.g20 (by rwa [getD_set_ne _ (by decide)] at h) j hj
  g21 := fun h j hj => by
    by_cases e : j = 8
    · subst e; exact getD_set_same H.z (by decide)
    · rw [getD_set_ne _ (fun q => e q.symm)]; exact H.g21 (by rwa [getD_set_ne _ (by decide)] at h) j hj
theorem IvSl.o9 {x : World} {l : List Tm} {tA : Option Addr} {n nt gv cv ci di : Nat} {cx cy : List Int} {L : Array Bool} {s9 s10 s28 s29 s30 s31 s32 s33 s34 s35 s36 s37 s38 s39 s40 s41 s42 s43 s44 s45 : Value} {w : World} (H : IvSl x l tA n nt gv cv ci di cx cy L s9 s10 s28 s29 s30 s31 s32 s33 s34 s35 s36 s37 s38 s39 s40 s41 s42 s43 s44 s45 w)  : IvSl x l tA n nt gv cv ci di cx cy (L.setIfInBounds 9 true) s9 s10 s28 s29 s30 s31 s32 s33 s34 s35 s36 (.slice tA n nt) s38 s39 s40 s41 s42 s43 s44 s45 w where
  z := by rw [Array.size_setIfInBounds]; exact H.z
  bel := H.bel
  c0 := fun h => H.c0 (by rwa [getD_set_ne _ (by decide)] at h)
  c1 := fun h => H.c1 (by rwa [getD_set_ne _ (by decide)] at h)
  c2 := fun h n20 n21 => (H.c2 (by rwa [getD_set_ne _ (by decide)] at h) (by rwa [getD_set_ne _ (by decide)] at n20) (by rwa [getD_set_ne _ (by decide)] at n21))
  c3 := fun h => H.c3 (by rwa [getD_set_ne _ (by decide)] at h)
  c4 := fun h => H.c4 (by rwa [getD_set_ne _ (by decide)] at h)
  c5 := fun h => H.c5 (by rwa [getD_set_ne _ (by decide)] at h)
  c6 := fun h n20 n21 => (H.c6 (by rwa [getD_set_ne _ (by decide)] at h) (by rwa [getD_set_ne _ (by decide)] at n20) (by rwa [getD_set_ne _ (by decide)] at n21))
  c7 := fun h n20 n21 => (H.c7 (by rwa [getD_set_ne _ (by decide)] at h) (by rwa [getD_set_ne _ (by decide)] at n20) (by rwa [getD_set_ne _ (by decide)] at n21))
  c8 := fun h => H.c8 (by rwa [getD_set_ne _ (by decide)] at h)
  c9 := fun _ => rfl
  c10 := fun h => H.c10 (by rwa [getD_set_ne _ (by decide)] at h)
  c11 := fun h n21 => (H.c11 (by rwa [getD_set_ne _ (by decide)] at h) (by rwa [getD_set_ne _ (by decide)] at n21))
  c12 := fun h => H.c12 (by rwa [getD_set_ne _ (by decide)] at h)
  c13 := fun h => H.c13 (by rwa [getD_set_ne _ (by decide)] at h)
  c14 := fun h => H.c14 (by rwa [getD_set_ne _ (by decide)] at h)
  c15 := fun h n21 => (H.c15 (by rwa [getD_set_ne _ (by decide)] at h) (by rwa [getD_set_ne _ (by decide)] at n21))
  c16 := fun h n21 => (H.c16 (by rwa [getD_set_ne _ (by decide)] at h) (by rwa [getD_set_ne _ (by decide)] at n21))
  c17 := fun h => H.c17 (by rwa [getD_set_ne _ (by decide)] at h)
  b18 := fun h => (H.b18 (by rwa [getD_set_ne _ (by decide)] at h))
  b19 := fun h => (H.b19 (by rwa [getD_set_ne _ (by decide)] at h))
  d18_19 := fun h h' => H.d18_19 (by rwa [getD_set_ne _ (by decide)] at h) (by rwa [getD_set_ne _ (by decide)] at h')
  e20 := fun h => (H.e20 (by rwa [getD_set_ne _ (by decide)] at h))
  e21 := fun h => (H.e21 (by rwa [getD_set_ne _ (by decide)] at h))
  g20 := fun h j hj => by
    by_cases e : j = 9
    · subst e; exact getD_set_same H.z (by decide)
    · rw [getD_set_ne _ (fun q => e q.symm)]; exact H.g20 (by rwa [getD_set_ne _ (by decide)] at h) j hj
  g21 := fun h j hj => by
    by_cases e : j = 9
    · subst e; exact getD_set_same H.z (by decide)
    · rw [getD_set_ne _ (fun q => e q.symm)]; exact H.g21 (by rwa [getD_set_ne _ (by decide)] at h) j hj
theorem IvSl.o10 {x : World} {l : List Tm} {tA : Option Addr} {n nt gv cv ci di : Nat} {cx cy : List Int} {L : Array Bool} {s9 s10 s28 s29 s30 s31 s32 s33 s34 s35 s36 s37 s38 s39 s40 s41 s42 s43 s44 s45 : Value} {w : World} (H : IvSl x l tA n nt gv cv ci di cx cy L s9 s10 s28 s29 s30 s31 s32 s33 s34 s35 s36 s37 s38 s39 s40 s41 s42 s43 s44 s45 w)  : IvSl x l tA n nt gv cv ci di cx cy (L.setIfInBounds 10 true) s9 s10 s28 s29 s30 s31 s32 s33 s34 s35 s36 s37 (.slice tA n nt) s39 s40 s41 s42 s43 s44 s45 w where
  z := by rw [Array.size_setIfInBounds]; exact H.z
  bel := H.bel
  c0 := fun h => H.c0 (by rwa [getD_set_ne _ (by decide)] at h)
  c1 := fun h => H.c1 (by rwa [getD_set_ne _ (by decide)] at h)
  c2 := fun h n20 n21 => (H.c2 (by rwa [getD_set_ne _ (by decide)] at h) (by rwa [getD_set_ne _ (by decide)] at n20) (by rwa [getD_set_ne _ (by decide)] at n21))
  c3 := fun h => H.c3 (by rwa [getD_set_ne _ (by decide)] at h)
  c4 := fun h => H.c4 (by rwa [getD_set_ne _ (by decide)] at h)
  c5 := fun h => H.c5 (by rwa [getD_set_ne _ (by decide)] at h)
  c6 := fun h n20 n21 => (H.c6 (by rwa [getD_set_ne _ (by decide)] at h) (by rwa [getD_set_ne _ (by decide)] at n20) (by rwa [getD_set_ne _ (by decide)] at n21))
  c7 := fun h n20 n21 => (H.c7 (by rwa [getD_set_ne _ (by decide)] at h) (by rwa [getD_set_ne _ (by decide)] at n20) (by rwa [getD_set_ne _ (by decide)] at n21))
  c8 := fun h => H.c8 (by rwa [getD_set_ne _ (by decide)] at h)
  c9 := fun h => H.c9 (by rwa [getD_set_ne _ (by decide)] at h)
  c10 := fun _ => rfl
  c11 := fun h n21 => (H.c11 (by rwa [getD_set_ne _ (by decide)] at h) (by rwa [getD_set_ne _ (by decide)] at n21))
  c12 := fun h => H.c12 (by rwa [getD_set_ne _ (by decide)] at h)
  c13 := fun h => H.c13 (by rwa [getD_set_ne _ (by decide)] at h)
  c14 := fun h => H.c14 (by rwa [getD_set_ne _ (by decide)] at h)
  c15 := fun h n21 => (H.c15 (by rwa [getD_set_ne _ (by decide)] at h) (by rwa [getD_set_ne _ (by decide)] at n21))
  c16 := fun h n21 => (H.c16 (by rwa [getD_set_ne _ (by decide)] at h) (by rwa [getD_set_ne _ (by decide)] at n21))
  c17 := fun h => H.c17 (by rwa [getD_set_ne _ (by decide)] at h)
  b18 := fun h => (H.b18 (by rwa [getD_set_ne _ (by decide)] at h))
  b19 := fun h => (H.b19 (by rwa [getD_set_ne _ (by decide)] at h))
  d18_19 := fun h h' => H.d18_19 (by rwa [getD_set_ne _ (by decide)] at h) (by rwa [getD_set_ne _ (by decide)] at h')
  e20 := fun h => (H.e20 (by rwa [getD_set_ne _ (by decide)] at h))
  e21 := fun h => (H.e21 (by rwa [getD_set_ne _ (by decide)] at h))
  g20 := fun h j hj => by
    by_cases e : j = 10
    · subst e; exact getD_set_same H.z (by decide)
    · rw [getD_set_ne _ (fun q => e q.symm)]; exact H.g20 (by rwa [getD_set_ne _ (by decide)] at h) j hj
  g21 := fun h j hj => by
    by_cases e : j = 10
    · subst e; exact getD_set_same H.z (by decide)
    · rw [getD_set_ne _ (fun q => e q.symm)]; exact H.g21 (by rwa [getD_set_ne _ (by decide)] at h) j hj
theorem IvSl.o11 {x : World} {l : List Tm} {tA : Option Addr} {n nt gv cv ci di : Nat} {cx cy : List Int} {L : Array Bool} {s9 s10 s28 s29 s30 s31 s32 s33 s34 s35 s36 s37 s38 s39 s40 s41 s42 s43 s44 s45 : Value} {w : World} (H : IvSl x l tA n nt gv cv ci di cx cy L s9 s10 s28 s29 s30 s31 s32 s33 s34 s35 s36 s37 s38 s39 s40 s41 s42 s43 s44 s45 w) {w' : World} (hg : Below w.heap.size w w') {u : Value} (hR : RcL l w' u) : IvSl x l tA n nt gv cv ci di cx cy (L.setIfInBounds 11 true) s9 s10 s28 s29 s30 s31 s32 s33 s34 s35 s36 s37 s38 u s40 s41 s42 s43 s44 s45 w' where
  z := by rw [Array.size_setIfInBounds]; exact H.z
  bel := bel2 H.bel hg
  c0 := fun h => H.c0 (by rwa [getD_set_ne _ (by decide)] at h)
  c1 := fun h => H.c1 (by rwa [getD_set_ne _ (by decide)] at h)
  c2 := fun h n20 n21 => (H.c2 (by rwa [getD_set_ne _ (by decide)] at h) (by rwa [getD_set_ne _ (by decide)] at n20) (by rwa [getD_set_ne _ (by decide)] at n21)).gr hg
  c3 := fun h => H.c3 (by rwa [getD_set_ne _ (by decide)] at h)
  c4 := fun h => H.c4 (by rwa [getD_set_ne _ (by decide)] at h)
  c5 := fun h => H.c5 (by rwa [getD_set_ne _ (by decide)] at h)
  c6 := fun h n20 n21 => (H.c6 (by rwa [getD_set_ne _ (by decide)] at h) (by rwa [getD_set_ne _ (by decide)] at n20) (by rwa [getD_set_ne _ (by decide)] at n21)).gr hg
  c7 := fun h n20 n21 => (H.c7 (by rwa [getD_set_ne _ (by decide)] at h) (by rwa [getD_set_ne _ (by decide)] at n20) (by rwa [getD_set_ne _ (by decide)] at n21)).gr hg
  c8 := fun h => H.c8 (by rwa [getD_set_ne _ (by decide)] at h)
  c9 := fun h => H.c9 (by rwa [getD_set_ne _ (by decide)] at h)
  c10 := fun h => H.c10 (by rwa [getD_set_ne _ (by decide)] at h)
  c11 := fun h n21 => hR
  c12 := fun h => H.c12 (by rwa [getD_set_ne _ (by decide)] at h)
  c13 := fun h => H.c13 (by rwa [getD_set_ne _ (by decide)] at h)
  c14 := fun h => H.c14 (by rwa [getD_set_ne _ (by decide)] at h)
  c15 := fun h n21 => (H.c15 (by rwa [getD_set_ne _ (by decide)] at h) (by rwa [getD_set_ne _ (by decide)] at n21)).gr hg
  c16 := fun h n21 => (H.c16 (by rwa [getD_set_ne _ (by decide)] at h) (by rwa [getD_set_ne _ (by decide)] at n21)).gr hg
  c17 := fun h => H.c17 (by rwa [getD_set_ne _ (by decide)] at h)
  b18 := fun h => (H.b18 (by rwa [getD_set_ne _ (by decide)] at h)).imp fun _ k => k.gr hg
  b19 := fun h => (H.b19 (by rwa [getD_set_ne _ (by decide)] at h)).imp fun _ k => k.gr hg
  d18_19 := fun h h' => H.d18_19 (by rwa [getD_set_ne _ (by decide)] at h) (by rwa [getD_set_ne _ (by decide)] at h')
  e20 := fun h => (H.e20 (by rwa [getD_set_ne _ (by decide)] at h)).gr hg
  e21 := fun h => (H.e21 (by rwa [getD_set_ne _ (by decide)] at h)).gr hg
  g20 := fun h j hj => by
    by_cases e : j = 11
    · subst e; exact getD_set_same H.z (by decide)
    · rw [getD_set_ne _ (fun q => e q.symm)]; exact H.g20 (by rwa [getD_set_ne _ (by decide)] at h) j hj
  g21 := fun h j hj => by
    by_cases e : j = 11
    · subst e; exact getD_set_same H.z (by decide)
    · rw [getD_set_ne _ (fun q => e q.symm)]; exact H.g21 (by rwa [getD_set_ne _ (by decide)] at h) j hj
theorem IvSl.o12 {x : World} {l : List Tm} {tA : Option Addr} {n nt gv cv ci di : Nat} {cx cy : List Int} {L : Array Bool} {s9 s10 s28 s29 s30 s31 s32 s33 s34 s35 s36 s37 s38 s39 s40 s41 s42 s43 s44 s45 : Value} {w : World} (H : IvSl x l tA n nt gv cv ci di cx cy L s9 s10 s28 s29 s30 s31 s32 s33 s34 s35 s36 s37 s38 s39 s40 s41 s42 s43 s44 s45 w)  : IvSl x l tA n nt gv cv ci di cx cy (L.setIfInBounds 12 true) s9 s10 s28 s29 s30 s31 s32 s33 s34 s35 s36 s37 s38 s39 (.slice (some ⟨gv, 0, none⟩) 2 cv) s41 s42 s43 s44 s45 w where
  z := by rw [Array.size_setIfInBounds]; exact H.z
  bel := H.bel
  c0 := fun h => H.c0 (by rwa [getD_set_ne _ (by decide)] at h)
  c1 := fun h => H.c1 (by rwa [getD_set_ne _ (by decide)] at h)
  c2 := fun h n20 n21 => (H.c2 (by rwa [getD_set_ne _ (by decide)] at h) (by rwa [getD_set_ne _ (by decide)] at n20) (by rwa [getD_set_ne _ (by decide)] at n21))
  c3 := fun h => H.c3 (by rwa [getD_set_ne _ (by decide)] at h)
  c4 := fun h => H.c4 (by rwa [getD_set_ne _ (by decide)] at h)
  c5 := fun h => H.c5 (by rwa [getD_set_ne _ (by decide)] at h)
  c6 := fun h n20 n21 => (H.c6 (by rwa [getD_set_ne _ (by decide)] at h) (by rwa [getD_set_ne _ (by decide)] at n20) (by rwa [getD_set_ne _ (by decide)] at n21))
  c7 := fun h n20 n21 => (H.c7 (by rwa [getD_set_ne _ (by decide)] at h) (by rwa [getD_set_ne _ (by decide)] at n20) (by rwa [getD_set_ne _ (by decide)] at n21))
  c8 := fun h => H.c8 (by rwa [getD_set_ne _ (by decide)] at h)
  c9 := fun h => H.c9 (by rwa [getD_set_ne _ (by decide)] at h)
  c10 := fun h => H.c10 (by rwa [getD_set_ne _ (by decide)] at h)
  c11 := fun h n21 => (H.c11 (by rwa [getD_set_ne _ (by decide)] at h) (by rwa [getD_set_ne _ (by decide)] at n21))
  c12 := fun _ => rfl
  c13 := fun h => H.c13 (by rwa [getD_set_ne _ (by decide)] at h)
  c14 := fun h => H.c14 (by rwa [getD_set_ne _ (by decide)] at h)
  c15 := fun h n21 => (H.c15 (by rwa [getD_set_ne _ (by decide)] at h) (by rwa [getD_set_ne _ (by decide)] at n21))
  c16 := fun h n21 => (H.c16 (by rwa [getD_set_ne _ (by decide)] at h) (by rwa [getD_set_ne _ (by decide)] at n21))
  c17 := fun h => H.c17 (by rwa [getD_set_ne _ (by decide)] at h)
  b18 := fun h => (H.b18 (by rwa [getD_set_ne _ (by decide)] at h))
  b19 := fun h => (H.b19 (by rwa [getD_set_ne _ (by decide)] at h))
  d18_19 := fun h h' => H.d18_19 (by rwa [getD_set_ne _ (by decide)] at h) (by rwa [getD_set_ne _ (by decide)] at h')
  e20 := fun h => (H.e20 (by rwa [getD_set_ne _ (by decide)] at h))
  e21 := fun h => (H.e21 (by rwa [getD_set_ne _ (by decide)] at h))
  g20 := fun h j hj => by
    by_cases e : j = 12
    · subst e; exact getD_set_same H.z (by decide)
    · rw [getD_set_ne _ (fun q => e q.symm)]; exact H.g20 (by rwa [getD_set_ne _ (by decide)] at h) j hj
  g21 := fun h j hj => by
    by_cases e : j = 12
    · subst e; exact getD_set_same H.z (by decide)
    · rw [getD_set_ne _ (fun q => e q.symm)]; exact H.g21 (by rwa [getD_set_ne _ (by decide)] at h) j hj
theorem IvSl.o13 {x : World} {l : List Tm} {tA : Option Addr} {n nt gv cv ci di : Nat} {cx cy : List Int} {L : Array Bool} {s9 s10 s28 s29 s30 s31 s32 s33 s34 s35 s36 s37 s38 s39 s40 s41 s42 s43 s44 s45 : Value} {w : World} (H : IvSl x l tA n nt gv cv ci di cx cy L s9 s10 s28 s29 s30 s31 s32 s33 s34 s35 s36 s37 s38 s39 s40 s41 s42 s43 s44 s45 w)  : IvSl x l tA n nt gv cv ci di cx cy (L.setIfInBounds 13 true) s9 s10 s28 s29 s30 s31 s32 s33 s34 s35 s36 s37 s38 s39 s40 (.pointer (some ⟨gv, 1, none⟩)) s42 s43 s44 s45 w where
  z := by rw [Array.size_setIfInBounds]; exact H.z
  bel := H.bel
  c0 := fun h => H.c0 (by rwa [getD_set_ne _ (by decide)] at h)
  c1 := fun h => H.c1 (by rwa [getD_set_ne _ (by decide)] at h)
  c2 := fun h n20 n21 => (H.c2 (by rwa [getD_set_ne _ (by decide)] at h) (by rwa [getD_set_ne _ (by decide)] at n20) (by rwa [getD_set_ne _ (by decide)] at n21))
  c3 := fun h => H.c3 (by rwa [getD_set_ne _ (by decide)] at h)
  c4 := fun h => H.c4 (by rwa [getD_set_ne _ (by decide)] at h)
  c5 := fun h => H.c5 (by rwa [getD_set_ne _ (by decide)] at h)
  c6 := fun h n20 n21 => (H.c6 (by rwa [getD_set_ne _ (by decide)] at h) (by rwa [getD_set_ne _ (by decide)] at n20) (by rwa [getD_set_ne _ (by decide)] at n21))
  c7 := fun h n20 n21 => (H.c7 (by rwa [getD_set_ne _ (by decide)] at h) (by rwa [getD_set_ne _ (by decide)] at n20) (by rwa [getD_set_ne _ (by decide)] at n21))
  c8 := fun h => H.c8 (by rwa [getD_set_ne _ (by decide)] at h)
  c9 := fun h => H.c9 (by rwa [getD_set_ne _ (by decide)] at h)
  c10 := fun h => H.c10 (by rwa [getD_set_ne _ (by decide)] at h)
  c11 := fun h n21 => (H.c11 (by rwa [getD_set_ne _ (by decide)] at h) (by rwa [getD_set_ne _ (by decide)] at n21))
  c12 := fun h => H.c12 (by rwa [getD_set_ne _ (by decide)] at h)
  c13 := fun _ => rfl
  c14 := fun h => H.c14 (by rwa [getD_set_ne _ (by decide)] at h)
  c15 := fun h n21 => (H.c15 (by rwa [getD_set_ne _ (by decide)] at h) (by rwa [getD_set_ne _ (by decide)] at n21))
  c16 := fun h n21 => (H.c16 (by rwa [getD_set_ne _ (by decide)] at h) (by rwa [getD_set_ne _ (by decide)] at n21))
  c17 := fun h => H.c17 (by rwa [getD_set_ne _ (by decide)] at h)
  b18 := fun h => (H.b18 (by rwa [getD_set_ne _ (by decide)] at h))
  b19 := fun h => (H.b19 (by rwa [getD_set_ne _ (by decide)] at h))
  d18_19 := fun h h' => H.d18_19 (by rwa [getD_set_ne _ (by decide)] at h) (by rwa [getD_set_ne _ (by decide)] at h')
  e20 := fun h => (H.e20 (by rwa [getD_set_ne _ (by decide)] at h))
  e21 := fun h => (H.e21 (by rwa [getD_set_ne _ (by decide)] at h))
  g20 := fun h j hj => by
    by_cases e : j = 13
    · subst e; exact getD_set_same H.z (by decide)
    · rw [getD_set_ne _ (fun q => e q.symm)]; exact H.g20 (by rwa [getD_set_ne _ (by decide)] at h) j hj
  g21 := fun h j hj => by
    by_cases e : j = 13
    · subst e; exact getD_set_same H.z (by decide)
    · rw [getD_set_ne _ (fun q => e q.symm)]; exact H.g21 (by rwa [getD_set_ne _ (by decide)] at h) j hj
theorem IvSl.o14 {x : World} {l : List Tm} {tA : Option Addr} {n nt gv cv ci di : Nat} {cx cy : List Int} {L : Array Bool} {s9 s10 s28 s29 s30 s31 s32 s33 s34 s35 s36 s37 s38 s39 s40 s41 s42 s43 s44 s45 : Value} {w : World} (H : IvSl x l tA n nt gv cv ci di cx cy L s9 s10 s28 s29 s30 s31 s32 s33 s34 s35 s36 s37 s38 s39 s40 s41 s42 s43 s44 s45 w)  : IvSl x l tA n nt gv cv ci di cx cy (L.setIfInBounds 14 true) s9 s10 s28 s29 s30 s31 s32 s33 s34 s35 s36 s37 s38 s39 s40 s41 (.int .i64 (di : Int)) s43 s44 s45 w where
  z := by rw [Array.size_setIfInBounds]; exact H.z
  bel := H.bel
  c0 := fun h => H.c0 (by rwa [getD_set_ne _ (by decide)] at h)
  c1 := fun h => H.c1 (by rwa [getD_set_ne _ (by decide)] at h)
  c2 := fun h n20 n21 => (H.c2 (by rwa [getD_set_ne _ (by decide)] at h) (by rwa [getD_set_ne _ (by decide)] at n20) (by rwa [getD_set_ne _ (by decide)] at n21))
  c3 := fun h => H.c3 (by rwa [getD_set_ne _ (by decide)] at h)
  c4 := fun h => H.c4 (by rwa [getD_set_ne _ (by decide)] at h)
  c5 := fun h => H.c5 (by rwa [getD_set_ne _ (by decide)] at h)
  c6 := fun h n20 n21 => (H.c6 (by rwa [getD_set_ne _ (by decide)] at h) (by rwa [getD_set_ne _ (by decide)] at n20) (by rwa [getD_set_ne _ (by decide)] at n21))
  c7 := fun h n20 n21 => (H.c7 (by rwa [getD_set_ne _ (by decide)] at h) (by rwa [getD_set_ne _ (by decide)] at n20) (by rwa [getD_set_ne _ (by decide)] at n21))
  c8 := fun h => H.c8 (by rwa [getD_set_ne _ (by decide)] at h)
  c9 := fun h => H.c9 (by rwa [getD_set_ne _ (by decide)] at h)
  c10 := fun h => H.c10 (by rwa [getD_set_ne _ (by decide)] at h)
  c11 := fun h n21 => (H.c11 (by rwa [getD_set_ne _ (by decide)] at h) (by rwa [getD_set_ne _ (by decide)] at n21))
  c12 := fun h => H.c12 (by rwa [getD_set_ne _ (by decide)] at h)
  c13 := fun h => H.c13 (by rwa [getD_set_ne _ (by decide)] at h)
  c14 := fun _ => rfl
  c15 := fun h n21 => (H.c15 (by rwa [getD_set_ne _ (by decide)] at h) (by rwa [getD_set_ne _ (by decide)] at n21))
  c16 := fun h n21 => (H.c16 (by rwa [getD_set_ne _ (by decide)] at h) (by rwa [getD_set_ne _ (by decide)] at n21))
  c17 := fun h => H.c17 (by rwa [getD_set_ne _ (by decide)] at h)
  b18 := fun h => (H.b18 (by rwa [getD_set_ne _ (by decide)] at h))
  b19 := fun h => (H.b19 (by rwa [getD_set_ne _ (by decide)] at h))
  d18_19 := fun h h' => H.d18_19 (by rwa [getD_set_ne _ (by decide)] at h) (by rwa [getD_set_ne _ (by decide)] at h')
  e20 := fun h => (H.e20 (by rwa [getD_set_ne _ (by decide)] at h))
  e21 := fun h => (H.e21 (by rwa [getD_set_ne _ (by decide)] at h))
  g20 := fun h j hj => by
    by_cases e : j = 14
    · subst e; exact getD_set_same H.z (by decide)
    · rw [getD_set_ne _ (fun q => e q.symm)]; exact H.g20 (by rwa [getD_set_ne _ (by decide)] at h) j hj
  g21 := fun h j hj => by
    by_cases e : j = 14
    · subst e; exact getD_set_same H.z (by decide)
    · rw [getD_set_ne _ (fun q => e q.symm)]; exact H.g21 (by rwa [getD_set_ne _ (by decide)] at h) j hj
theorem IvSl.o15 {x : World} {l : List Tm} {tA : Option Addr} {n nt gv cv ci di : Nat} {cx cy : List Int} {L : Array Bool} {s9 s10 s28 s29 s30 s31 s32 s33 s34 s35 s36 s37 s38 s39 s40 s41 s42 s43 s44 s45 : Value} {w : World} (H : IvSl x l tA n nt gv cv ci di cx cy L s9 s10 s28 s29 s30 s31 s32 s33 s34 s35 s36 s37 s38 s39 s40 s41 s42 s43 s44 s45 w) {u : Value} (hR : RcP l di w u) : IvSl x l tA n nt gv cv ci di cx cy (L.setIfInBounds 15 true) s9 s10 s28 s29 s30 s31 s32 s33 s34 s35 s36 s37 s38 s39 s40 s41 s42 u s44 s45 w where
  z := by rw [Array.size_setIfInBounds]; exact H.z
  bel := H.bel
  c0 := fun h => H.c0 (by rwa [getD_set_ne _ (by decide)] at h)
  c1 := fun h => H.c1 (by rwa [getD_set_ne _ (by decide)] at h)
  c2 := fun h n20 n21 => (H.c2 (by rwa [getD_set_ne _ (by decide)] at h) (by rwa [getD_set_ne _ (by decide)] at n20) (by rwa [getD_set_ne _ (by decide)] at n21))
  c3 := fun h => H.c3 (by rwa [getD_set_ne _ (by decide)] at h)
  c4 := fun h => H.c4 (by rwa [getD_set_ne _ (by decide)] at h)
  c5 := fun h => H.c5 (by rwa [getD_set_ne _ (by decide)] at h)
  c6 := fun h n20 n21 => (H.c6 (by rwa [getD_set_ne _ (by decide)] at h) (by rwa [getD_set_ne _ (by decide)] at n20) (by rwa [getD_set_ne _ (by decide)] at n21))
  c7 := fun h n20 n21 => (H.c7 (by rwa [getD_set_ne _ (by decide)] at h) (by rwa [getD_set_ne _ (by decide)] at n20) (by rwa [getD_set_ne _ (by decide)] at n21))
  c8 := fun h => H.c8 (by rwa [getD_set_ne _ (by decide)] at h)
  c9 := fun h => H.c9 (by rwa [getD_set_ne _ (by decide)] at h)
  c10 := fun h => H.c10 (by rwa [getD_set_ne _ (by decide)] at h)
  c11 := fun h n21 => (H.c11 (by rwa [getD_set_ne _ (by decide)] at h) (by rwa [getD_set_ne _ (by decide)] at n21))
  c12 := fun h => H.c12 (by rwa [getD_set_ne _ (by decide)] at h)
  c13 := fun h => H.c13 (by rwa [getD_set_ne _ (by decide)] at h)
  c14 := fun h => H.c14 (by rwa [getD_set_ne _ (by decide)] at h)
  c15 := fun h n21 => hR
  c16 := fun h n21 => (H.c16 (by rwa [getD_set_ne _ (by decide)] at h) (by rwa [getD_set_ne _ (by decide)] at n21))
  c17 := fun h => H.c17 (by rwa [getD_set_ne _ (by decide)] at h)
  b18 := fun h => (H.b18 (by rwa [getD_set_ne _ (by decide)] at h))
  b19 := fun h => (H.b19 (by rwa [getD_set_ne _ (by decide)] at h))
  d18_19 := fun h h' => H.d18_19 (by rwa [getD_set_ne _ (by decide)] at h) (by rwa [getD_set_ne _ (by decide)] at h')
  e20 := fun h => (H.e20 (by rwa [getD_set_ne _ (by decide)] at h))
  e21 := fun h => (H.e21 (by rwa [getD_set_ne _ (by decide)] at h))
  g20 := fun h j hj => by
    by_cases e : j = 15
    · subst e; exact getD_set_same H.z (by decide)
    · rw [getD_set_ne _ (fun q => e q.symm)]; exact H.g20 (by rwa [getD_set_ne _ (by decide)] at h) j hj
  g21 := fun h j hj => by
    by_cases e : j = 15
    · subst e; exact getD_set_same H.z (by decide)
    · rw [getD_set_ne _ (fun q => e q.symm)]; exact H.g21 (by rwa [getD_set_ne _ (by decide)] at h) j hj
theorem IvSl.o16 {x : World} {l : List Tm} {tA : Option Addr} {n nt gv cv ci di : Nat} {cx cy : List Int} {L : Array Bool} {s9 s10 s28 s29 s30 s31 s32 s33 s34 s35 s36 s37 s38 s39 s40 s41 s42 s43 s44 s45 : Value} {w : World} (H : IvSl x l tA n nt gv cv ci di cx cy L s9 s10 s28 s29 s30 s31 s32 s33 s34 s35 s36 s37 s38 s39 s40 s41 s42 s43 s44 s45 w) {u : Value} (hR : RcV l di w u) : IvSl x l tA n nt gv cv ci di cx cy (L.setIfInBounds 16 true) s9 s10 s28 s29 s30 s31 s32 s33 s34 s35 s36 s37 s38 s39 s40 s41 s42 s43 u s45 w where
  z := by rw [Array.size_setIfInBounds]; exact H.z
  bel := H.bel
  c0 := fun h => H.c0 (by rwa [getD_set_ne _ (by decide)] at h)
  c1 := fun h => H.c1 (by rwa [getD_set_ne _ (by decide)] at h)
  c2 := fun h n20 n21 => (H.c2 (by rwa [getD_set_ne _ (by decide)] at h) (by rwa [getD_set_ne _ (by decide)] at n20) (by rwa [getD_set_ne _ (by decide)] at n21))
  c3 := fun h => H.c3 (by rwa [getD_set_ne _ (by decide)] at h)
  c4 := fun h => H.c4 (by rwa [getD_set_ne _ (by decide)] at h)
  c5 := fun h => H.c5 (by rwa [getD_set_ne _ (by decide)] at h)
  c6 := fun h n20 n21 => (H.c6 (by rwa [getD_set_ne _ (by decide)] at h) (by rwa [getD_set_ne _ (by decide)] at n20) (by rwa [getD_set_ne _ (by decide)] at n21))
  c7 := fun h n20 n21 => (H.c7 (by rwa [getD_set_ne _ (by decide)] at h) (by rwa [getD_set_ne _ (by decide)] at n20) (by rwa [getD_set_ne _ (by decide)] at n21))
  c8 := fun h => H.c8 (by rwa [getD_set_ne _ (by decide)] at h)
  c9 := fun h => H.c9 (by rwa [getD_set_ne _ (by decide)] at h)
  c10 := fun h => H.c10 (by rwa [getD_set_ne _ (by decide)] at h)
  c11 := fun h n21 => (H.c11 (by rwa [getD_set_ne _ (by decide)] at h) (by rwa [getD_set_ne _ (by decide)] at n21))
  c12 := fun h => H.c12 (by rwa [getD_set_ne _ (by decide)] at h)
  c13 := fun h => H.c13 (by rwa [getD_set_ne _ (by decide)] at h)
  c14 := fun h => H.c14 (by rwa [getD_set_ne _ (by decide)] at h)
  c15 := fun h n21 => (H.c15 (by rwa [getD_set_ne _ (by decide)] at h) (by rwa [getD_set_ne _ (by decide)] at n21))
  c16 := fun h n21 => hR
  c17 := fun h => H.c17 (by rwa [getD_set_ne _ (by decide)] at h)
  b18 := fun h => (H.b18 (by rwa [getD_set_ne _ (by decide)] at h))
  b19 := fun h => (H.b19 (by rwa [getD_set_ne _ (by decide)] at h))
  d18_19 := fun h h' => H.d18_19 (by rwa [getD_set_ne _ (by decide)] at h) (by rwa [getD_set_ne _ (by decide)] at h')
  e20 := fun h => (H.e20 (by rwa [getD_set_ne _ (by decide)] at h))
  e21 := fun h => (H.e21 (by rwa [getD_set_ne _ (by decide)] at h))
  g20 := fun h j hj => by
    by_cases e : j = 16
    · subst e; exact getD_set_same H.z (by decide)
    · rw [getD_set_ne _ (fun q => e q.symm)]; exact H.g20 (by rwa [getD_set_ne _ (by decide)] at h) j hj
  g21 := fun h j hj => by
    by_cases e : j = 16
    · subst e; exact getD_set_same H.z (by decide)
    · rw [getD_set_ne _ (fun q => e q.symm)]; exact H.g21 (by rwa [getD_set_ne _ (by decide)] at h) j hj
theorem IvSl.o17 {x : World} {l : List Tm} {tA : Option Addr} {n nt gv cv ci di : Nat} {cx cy : List Int} {L : Array Bool} {s9 s10 s28 s29 s30 s31 s32 s33 s34 s35 s36 s37 s38 s39 s40 s41 s42 s43 s44 s45 : Value} {w : World} (H : IvSl x l tA n nt gv cv ci di cx cy L s9 s10 s28 s29 s30 s31 s32 s33 s34 s35 s36 s37 s38 s39 s40 s41 s42 s43 s44 s45 w) {w' : World} (hg : Below w.heap.size w w') : IvSl x l tA n nt gv cv ci di cx cy (L.setIfInBounds 17 true) s9 s10 s28 s29 s30 s31 s32 s33 s34 s35 s36 s37 s38 s39 s40 s41 s42 s43 s44 (vxV l cy) w' where
  z := by rw [Array.size_setIfInBounds]; exact H.z
  bel := bel2 H.bel hg
  c0 := fun h => H.c0 (by rwa [getD_set_ne _ (by decide)] at h)
  c1 := fun h => H.c1 (by rwa [getD_set_ne _ (by decide)] at h)
  c2 := fun h n20 n21 => (H.c2 (by rwa [getD_set_ne _ (by decide)] at h) (by rwa [getD_set_ne _ (by decide)] at n20) (by rwa [getD_set_ne _ (by decide)] at n21)).gr hg
  c3 := fun h => H.c3 (by rwa [getD_set_ne _ (by decide)] at h)
  c4 := fun h => H.c4 (by rwa [getD_set_ne _ (by decide)] at h)
  c5 := fun h => H.c5 (by rwa [getD_set_ne _ (by decide)] at h)
  c6 := fun h n20 n21 => (H.c6 (by rwa [getD_set_ne _ (by decide)] at h) (by rwa [getD_set_ne _ (by decide)] at n20) (by rwa [getD_set_ne _ (by decide)] at n21)).gr hg
  c7 := fun h n20 n21 => (H.c7 (by rwa [getD_set_ne _ (by decide)] at h) (by rwa [getD_set_ne _ (by decide)] at n20) (by rwa [getD_set_ne _ (by decide)] at n21)).gr hg
  c8 := fun h => H.c8 (by rwa [getD_set_ne _ (by decide)] at h)
  c9 := fun h => H.c9 (by rwa [getD_set_ne _ (by decide)] at h)
  c10 := fun h => H.c10 (by rwa [getD_set_ne _ (by decide)] at h)
  c11 := fun h n21 => (H.c11 (by rwa [getD_set_ne _ (by decide)] at h) (by rwa [getD_set_ne _ (by decide)] at n21)).gr hg
  c12 := fun h => H.c12 (by rwa [getD_set_ne _ (by decide)] at h)
  c13 := fun h => H.c13 (by rwa [getD_set_ne _ (by decide)] at h)
  c14 := fun h => H.c14 (by rwa [getD_set_ne _ (by decide)] at h)
  c15 := fun h n21 => (H.c15 (by rwa [getD_set_ne _ (by decide)] at h) (by rwa [getD_set_ne _ (by decide)] at n21)).gr hg
  c16 := fun h n21 => (H.c16 (by rwa [getD_set_ne _ (by decide)] at h) (by rwa [getD_set_ne _ (by decide)] at n21)).gr hg
  c17 := fun _ => rfl
  b18 := fun h => (H.b18 (by rwa [getD_set_ne _ (by decide)] at h)).imp fun _ k => k.gr hg
  b19 := fun h => (H.b19 (by rwa [getD_set_ne _ (by decide)] at h)).imp fun _ k => k.gr hg
  d18_19 := fun h h' => H.d18_19 (by rwa [getD_set_ne _ (by decide)] at h) (by rwa [getD_set_ne _ (by decide)] at h')
  e20 := fun h => (H.e20 (by rwa [getD_set_ne _ (by decide)] at h)).gr hg
  e21 := fun h => (H.e21 (by rwa [getD_set_ne _ (by decide)] at h)).gr hg
  g20 := fun h j hj => by
    by_cases e : j = 17
    · subst e; exact getD_set_same H.z (by decide)
    · rw [getD_set_ne _ (fun q => e q.symm)]; exact H.g20 (by rwa [getD_set_ne _ (by decide)] at h) j hj
  g21 := fun h j hj => by
    by_cases e : j = 17
    · subst e; exact getD_set_same H.z (by decide)
    · rw [getD_set_ne _ (fun q => e q.symm)]; exact H.g21 (by rwa [getD_set_ne _ (by decide)] at h) j hj
theorem IvSl.o18 {x : World} {l : List Tm} {tA : Option Addr} {n nt gv cv ci di : Nat} {cx cy : List Int} {L : Array Bool} {s9 s10 s28 s29 s30 s31 s32 s33 s34 s35 s36 s37 s38 s39 s40 s41 s42 s43 s44 s45 : Value} {w : World} (H : IvSl x l tA n nt gv cv ci di cx cy L s9 s10 s28 s29 s30 s31 s32 s33 s34 s35 s36 s37 s38 s39 s40 s41 s42 s43 s44 s45 w) (hN : L.getD 18 true = false) : IvSl x l tA n nt gv cv ci di cx cy (L.setIfInBounds 18 true) (.pointer (some ⟨w.heap.size, 0, none⟩)) s10 s28 s29 s30 s31 s32 s33 s34 s35 s36 s37 s38 s39 s40 s41 s42 s43 s44 s45 (w.alloc (.cells #[.int .i64 0, .int .i64 0, .int .i64 0, .int .i64 0] 76)) where
  z := by rw [Array.size_setIfInBounds]; exact H.z
  bel := belA1 H.bel _
  c0 := fun h => H.c0 (by rwa [getD_set_ne _ (by decide)] at h)
  c1 := fun h => H.c1 (by rwa [getD_set_ne _ (by decide)] at h)
  c2 := fun h n20 n21 => (H.c2 (by rwa [getD_set_ne _ (by decide)] at h) (by rwa [getD_set_ne _ (by decide)] at n20) (by rwa [getD_set_ne _ (by decide)] at n21)).gr ((Below.refl _ _).alloc (Nat.le_refl _) _)
  c3 := fun h => H.c3 (by rwa [getD_set_ne _ (by decide)] at h)
  c4 := fun h => H.c4 (by rwa [getD_set_ne _ (by decide)] at h)
  c5 := fun h => H.c5 (by rwa [getD_set_ne _ (by decide)] at h)
  c6 := fun h n20 n21 => (H.c6 (by rwa [getD_set_ne _ (by decide)] at h) (by rwa [getD_set_ne _ (by decide)] at n20) (by rwa [getD_set_ne _ (by decide)] at n21)).gr ((Below.refl _ _).alloc (Nat.le_refl _) _)
  c7 := fun h n20 n21 => (H.c7 (by rwa [getD_set_ne _ (by decide)] at h) (by rwa [getD_set_ne _ (by decide)] at n20) (by rwa [getD_set_ne _ (by decide)] at n21)).gr ((Below.refl _ _).alloc (Nat.le_refl _) _)
  c8 := fun h => H.c8 (by rwa [getD_set_ne _ (by decide)] at h)
  c9 := fun h => H.c9 (by rwa [getD_set_ne _ (by decide)] at h)
  c10 := fun h => H.c10 (by rwa [getD_set_ne _ (by decide)] at h)
  c11 := fun h n21 => (H.c11 (by rwa [getD_set_ne _ (by decide)] at h) (by rwa [getD_set_ne _ (by decide)] at n21)).gr ((Below.refl _ _).alloc (Nat.le_refl _) _)
  c12 := fun h => H.c12 (by rwa [getD_set_ne _ (by decide)] at h)
  c13 := fun h => H.c13 (by rwa [getD_set_ne _ (by decide)] at h)
  c14 := fun h => H.c14 (by rwa [getD_set_ne _ (by decide)] at h)
  c15 := fun h n21 => (H.c15 (by rwa [getD_set_ne _ (by decide)] at h) (by rwa [getD_set_ne _ (by decide)] at n21)).gr ((Below.refl _ _).alloc (Nat.le_refl _) _)
  c16 := fun h n21 => (H.c16 (by rwa [getD_set_ne _ (by decide)] at h) (by rwa [getD_set_ne _ (by decide)] at n21)).gr ((Below.refl _ _).alloc (Nat.le_refl _) _)
  c17 := fun h => H.c17 (by rwa [getD_set_ne _ (by decide)] at h)
  b18 := fun _ => ⟨_, Bs.new H.bel.size⟩
  b19 := fun h => (H.b19 (by rwa [getD_set_ne _ (by decide)] at h)).imp fun _ k => k.gr ((Below.refl _ _).alloc (Nat.le_refl _) _)
  d18_19 := fun h h' e => by obtain ⟨p, k⟩ := H.b19 (by rwa [getD_set_ne _ (by decide)] at h'); exact k.ne_new e.symm
  e20 := fun h => (notl hN (H.g20 (by rwa [getD_set_ne _ (by decide)] at h) 18 (by decide))).elim
  e21 := fun h => (H.e21 (by rwa [getD_set_ne _ (by decide)] at h)).gr ((Below.refl _ _).alloc (Nat.le_refl _) _)
  g20 := fun h j hj => by
    by_cases e : j = 18
    · subst e; exact getD_set_same H.z (by decide)
    · rw [getD_set_ne _ (fun q => e q.symm)]; exact H.g20 (by rwa [getD_set_ne _ (by decide)] at h) j hj
  g21 := fun h j hj => by
    by_cases e : j = 18
    · subst e; exact getD_set_same H.z (by decide)
    · rw [getD_set_ne _ (fun q => e q.symm)]; exact H.g21 (by rwa [getD_set_ne _ (by decide)] at h) j hj
theorem IvSl.o19 {x : World} {l : List Tm} {tA : Option Addr} {n nt gv cv ci di : Nat} {cx cy : List Int} {L : Array Bool} {s9 s10 s28 s29 s30 s31 s32 s33 s34 s35 s36 s37 s38 s39 s40 s41 s42 s43 s44 s45 : Value} {w : World} (H : IvSl x l tA n nt gv cv ci di cx cy L s9 s10 s28 s29 s30 s31 s32 s33 s34 s35 s36 s37 s38 s39 s40 s41 s42 s43 s44 s45 w) (hN : L.getD 19 true = false) : IvSl x l tA n nt gv cv ci di cx cy (L.setIfInBounds 19 true) s9 (.pointer (some ⟨w.heap.size, 0, none⟩)) s28 s29 s30 s31 s32 s33 s34 s35 s36 s37 s38 s39 s40 s41 s42 s43 s44 s45 (w.alloc (.cells #[.int .i64 0, .int .i64 0, .int .i64 0, .int .i64 0] 76)) where
  z := by rw [Array.size_setIfInBounds]; exact H.z
  bel := belA1 H.bel _
  c0 := fun h => H.c0 (by rwa [getD_set_ne _ (by decide)] at h)
  c1 := fun h => H.c1 (by rwa [getD_set_ne _ (by decide)] at h)
  c2 := fun h n20 n21 => (H.c2 (by rwa [getD_set_ne _ (by decide)] at h) (by rwa [getD_set_ne _ (by decide)] at n20) (by rwa [getD_set_ne _ (by decide)] at n21)).gr ((Below.refl _ _).alloc (Nat.le_refl _) _)
  c3 := fun h => H.c3 (by rwa [getD_set_ne _ (by decide)] at h)
  c4 := fun h => H.c4 (by rwa [getD_set_ne _ (by decide)] at h)
  c5 := fun h => H.c5 (by rwa [getD_set_ne _ (by decide)] at h)
  c6 := fun h n20 n21 => (H.c6 (by rwa [getD_set_ne _ (by decide)] at h) (by rwa [getD_set_ne _ (by decide)] at n20) (by rwa [getD_set_ne _ (by decide)] at n21)).gr ((Below.refl _ _).alloc (Nat.le_refl _) _)
  c7 := fun h n20 n21 => (H.c7 (by rwa [getD_set_ne _ (by decide)] at h) (by rwa [getD_set_ne _ (by decide)] at n20) (by rwa [getD_set_ne _ (by decide)] at n21)).gr ((Below.refl _ _).alloc (Nat.le_refl _) _)
  c8 := fun h => H.c8 (by rwa [getD_set_ne _ (by decide)] at h)
  c9 := fun h => H.c9 (by rwa [getD_set_ne _ (by decide)] at h)
  c10 := fun h => H.c10 (by rwa [getD_set_ne _ (by decide)] at h)
  c11 := fun h n21 => (H.c11 (by rwa [getD_set_ne _ (by decide)] at h) (by rwa [getD_set_ne _ (by decide)] at n21)).gr ((Below.refl _ _).alloc (Nat.le_refl _) _)
  c12 := fun h => H.c12 (by rwa [getD_set_ne _ (by decide)] at h)
  c13 := fun h => H.c13 (by rwa [getD_set_ne _ (by decide)] at h)
  c14 := fun h => H.c14 (by rwa [getD_set_ne _ (by decide)] at h)
  c15 := fun h n21 => (H.c15 (by rwa [getD_set_ne _ (by decide)] at h) (by rwa [getD_set_ne _ (by decide)] at n21)).gr ((Below.refl _ _).alloc (Nat.le_refl _) _)
  c16 := fun h n21 => (H.c16 (by rwa [getD_set_ne _ (by decide)] at h) (by rwa [getD_set_ne _ (by decide)] at n21)).gr ((Below.refl _ _).alloc (Nat.le_refl _) _)
  c17 := fun h => H.c17 (by rwa [getD_set_ne _ (by decide)] at h)
  b18 := fun h => (H.b18 (by rwa [getD_set_ne _ (by decide)] at h)).imp fun _ k => k.gr ((Below.refl _ _).alloc (Nat.le_refl _) _)
  b19 := fun _ => ⟨_, Bs.new H.bel.size⟩
  d18_19 := fun h h' e => by obtain ⟨p, k⟩ := H.b18 (by rwa [getD_set_ne _ (by decide)] at h); exact k.ne_new e
  e20 := fun h => (H.e20 (by rwa [getD_set_ne _ (by decide)] at h)).gr ((Below.refl _ _).alloc (Nat.le_refl _) _)
  e21 := fun h => (notl hN (H.g21 (by rwa [getD_set_ne _ (by decide)] at h) 19 (by decide))).elim
  g20 := fun h j hj => by
    by_cases e : j = 19
    · subst e; exact getD_set_same H.z (by decide)
    · rw [getD_set_ne _ (fun q => e q.symm)]; exact H.g20 (by rwa [getD_set_ne _ (by decide)] at h) j hj
  g21 := fun h j hj => by
    by_cases e : j = 19
    · subst e; exact getD_set_same H.z (by decide)
    · rw [getD_set_ne _ (fun q => e q.symm)]; exact H.g21 (by rwa [getD_set_ne _ (by decide)] at h) j hj
theorem IvSl.o20 {x : World} {l : List Tm} {tA : Option Addr} {n nt gv cv ci di : Nat} {cx cy : List Int} {L : Array Bool} {s9 s10 s28 s29 s30 s31 s32 s33 s34 s35 s36 s37 s38 s39 s40 s41 s42 s43 s44 s45 : Value} {w : World} (H : IvSl x l tA n nt gv cv ci di cx cy L s9 s10 s28 s29 s30 s31 s32 s33 s34 s35 s36 s37 s38 s39 s40 s41 s42 s43 s44 s45 w) (hall : ∀ j, j ∈ [0, 1, 2, 3, 4, 5, 6, 7, 8, 18, 19] → L.getD j false = true) (l18 : L.getD 18 false = true) (l19 : L.getD 19 false = true) {g : Nat} (hs : s9 = .pointer (some ⟨g, 0, none⟩)) {p : _} (hb : Bs x.heap.size w s9 p) (hge : x.heap.size ≤ g) : IvSl x l tA n nt gv cv ci di cx cy (L.setIfInBounds 20 true) s9 s10 s28 s29 s30 s31 s32 s33 s34 s35 s36 s37 s38 s39 s40 s41 s42 s43 s44 s45 ((((w.setCell ⟨g, 0, none⟩ (.int .i64 (vx4 l cx).1)).setCell ⟨g, 1, none⟩ (.int .i64 (vx4 l cx).2.1)).setCell ⟨g, 2, none⟩ (.int .i64 (vx4 l cx).2.2.1)).setCell ⟨g, 3, none⟩ (.int .i64 (vx4 l cx).2.2.2)) where
  z := by rw [Array.size_setIfInBounds]; exact H.z
  bel := belS (belS (belS (belS (H.bel) hge _ _) hge _ _) hge _ _) hge _ _
  c0 := fun h => H.c0 (by rwa [getD_set_ne _ (by decide)] at h)
  c1 := fun h => H.c1 (by rwa [getD_set_ne _ (by decide)] at h)
  c2 := fun h n20 n21 => by have e := getD_set_same (L := L) H.z (show 20 < 22 by decide); rw [n20] at e; cases e
  c3 := fun h => H.c3 (by rwa [getD_set_ne _ (by decide)] at h)
  c4 := fun h => H.c4 (by rwa [getD_set_ne _ (by decide)] at h)
  c5 := fun h => H.c5 (by rwa [getD_set_ne _ (by decide)] at h)
  c6 := fun h n20 n21 => by have e := getD_set_same (L := L) H.z (show 20 < 22 by decide); rw [n20] at e; cases e
  c7 := fun h n20 n21 => by have e := getD_set_same (L := L) H.z (show 20 < 22 by decide); rw [n20] at e; cases e
  c8 := fun h => H.c8 (by rwa [getD_set_ne _ (by decide)] at h)
  c9 := fun h => H.c9 (by rwa [getD_set_ne _ (by decide)] at h)
  c10 := fun h => H.c10 (by rwa [getD_set_ne _ (by decide)] at h)
  c11 := fun h n21 => (H.c11 (by rwa [getD_set_ne _ (by decide)] at h) (by rwa [getD_set_ne _ (by decide)] at n21)).off (hs ▸ hb) _ _ _ _
  c12 := fun h => H.c12 (by rwa [getD_set_ne _ (by decide)] at h)
  c13 := fun h => H.c13 (by rwa [getD_set_ne _ (by decide)] at h)
  c14 := fun h => H.c14 (by rwa [getD_set_ne _ (by decide)] at h)
  c15 := fun h n21 => (H.c15 (by rwa [getD_set_ne _ (by decide)] at h) (by rwa [getD_set_ne _ (by decide)] at n21)).off (hs ▸ hb) _ _ _ _
  c16 := fun h n21 => (H.c16 (by rwa [getD_set_ne _ (by decide)] at h) (by rwa [getD_set_ne _ (by decide)] at n21)).off (hs ▸ hb) _ _ _ _
  c17 := fun h => H.c17 (by rwa [getD_set_ne _ (by decide)] at h)
  b18 := fun _ => ⟨_, by rw [hs]; exact Bs.put (hs ▸ hb) (vx4 l cx)⟩
  b19 := fun h => (H.b19 (by rwa [getD_set_ne _ (by decide)] at h)).imp fun _ k => k.off (fun e => H.d18_19 l18 l19 (by rw [hs, e]))
  d18_19 := fun h h' => H.d18_19 (by rwa [getD_set_ne _ (by decide)] at h) (by rwa [getD_set_ne _ (by decide)] at h')
  e20 := fun _ => by rw [hs]; exact Bs.put (hs ▸ hb) _
  e21 := fun h => (H.e21 (by rwa [getD_set_ne _ (by decide)] at h)).off (fun e => H.d18_19 l18 l19 (by rw [hs, e]))
  g20 := fun _ j hj => by rw [getD_set_ne _ (by rintro rfl; exact absurd hj (by decide))]; exact hall j hj
  g21 := fun h j hj => by
    by_cases e : j = 20
    · subst e; exact getD_set_same H.z (by decide)
    · rw [getD_set_ne _ (fun q => e q.symm)]; exact H.g21 (by rwa [getD_set_ne _ (by decide)] at h) j hj
theorem IvSl.o21 {x : World} {l : List Tm} {tA : Option Addr} {n nt gv cv ci di : Nat} {cx cy : List Int} {L : Array Bool} {s9 s10 s28 s29 s30 s31 s32 s33 s34 s35 s36 s37 s38 s39 s40 s41 s42 s43 s44 s45 : Value} {w : World} (H : IvSl x l tA n nt gv cv ci di cx cy L s9 s10 s28 s29 s30 s31 s32 s33 s34 s35 s36 s37 s38 s39 s40 s41 s42 s43 s44 s45 w) (hall : ∀ j, j ∈ [0, 1, 2, 3, 4, 5, 6, 7, 8, 9, 10, 11, 12, 13, 14, 15, 16, 17, 18, 19, 20] → L.getD j false = true) (l18 : L.getD 18 false = true) (l19 : L.getD 19 false = true) {g : Nat} (hs : s10 = .pointer (some ⟨g, 0, none⟩)) {p : _} (hb : Bs x.heap.size w s10 p) (hge : x.heap.size ≤ g) : IvSl x l tA n nt gv cv ci di cx cy (L.setIfInBounds 21 true) s9 s10 s28 s29 s30 s31 s32 s33 s34 s35 s36 s37 s38 s39 s40 s41 s42 s43 s44 s45 ((((w.setCell ⟨g, 0, none⟩ (.int .i64 (vx4 l cy).1)).setCell ⟨g, 1, none⟩ (.int .i64 (vx4 l cy).2.1)).setCell ⟨g, 2, none⟩ (.int .i64 (vx4 l cy).2.2.1)).setCell ⟨g, 3, none⟩ (.int .i64 (vx4 l cy).2.2.2)) where
  z := by rw [Array.size_setIfInBounds]; exact H.z
  bel := belS (belS (belS (belS (H.bel) hge _ _) hge _ _) hge _ _) hge _ _
  c0 := fun h => H.c0 (by rwa [getD_set_ne _ (by decide)] at h)
  c1 := fun h => H.c1 (by rwa [getD_set_ne _ (by decide)] at h)
  c2 := fun h n20 n21 => by have e := getD_set_same (L := L) H.z (show 21 < 22 by decide); rw [n21] at e; cases e
  c3 := fun h => H.c3 (by rwa [getD_set_ne _ (by decide)] at h)
  c4 := fun h => H.c4 (by rwa [getD_set_ne _ (by decide)] at h)
  c5 := fun h => H.c5 (by rwa [getD_set_ne _ (by decide)] at h)
  c6 := fun h n20 n21 => by have e := getD_set_same (L := L) H.z (show 21 < 22 by decide); rw [n21] at e; cases e
  c7 := fun h n20 n21 => by have e := getD_set_same (L := L) H.z (show 21 < 22 by decide); rw [n21] at e; cases e
  c8 := fun h => H.c8 (by rwa [getD_set_ne _ (by decide)] at h)
  c9 := fun h => H.c9 (by rwa [getD_set_ne _ (by decide)] at h)
  c10 := fun h => H.c10 (by rwa [getD_set_ne _ (by decide)] at h)
  c11 := fun h n21 => by have e := getD_set_same (L := L) H.z (show 21 < 22 by decide); rw [n21] at e; cases e
  c12 := fun h => H.c12 (by rwa [getD_set_ne _ (by decide)] at h)
  c13 := fun h => H.c13 (by rwa [getD_set_ne _ (by decide)] at h)
  c14 := fun h => H.c14 (by rwa [getD_set_ne _ (by decide)] at h)
  c15 := fun h n21 => by have e := getD_set_same (L := L) H.z (show 21 < 22 by decide); rw [n21] at e; cases e
  c16 := fun h n21 => by have e := getD_set_same (L := L) H.z (show 21 < 22 by decide); rw [n21] at e; cases e
  c17 := fun h => H.c17 (by rwa [getD_set_ne _ (by decide)] at h)
  b18 := fun h => (H.b18 (by rwa [getD_set_ne _ (by decide)] at h)).imp fun _ k => k.off (fun e => H.d18_19 l18 l19 (by rw [hs, e]))
  b19 := fun _ => ⟨_, by rw [hs]; exact Bs.put (hs ▸ hb) (vx4 l cy)⟩
  d18_19 := fun h h' => H.d18_19 (by rwa [getD_set_ne _ (by decide)] at h) (by rwa [getD_set_ne _ (by decide)] at h')
  e20 := fun h => (H.e20 (by rwa [getD_set_ne _ (by decide)] at h)).off (fun e => H.d18_19 l18 l19 (by rw [hs, e]))
  e21 := fun _ => by rw [hs]; exact Bs.put (hs ▸ hb) _
  g20 := fun h j hj => by
    by_cases e : j = 21
    · subst e; exact getD_set_same H.z (by decide)
    · rw [getD_set_ne _ (fun q => e q.symm)]; exact H.g20 (by rwa [getD_set_ne _ (by decide)] at h) j hj
  g21 := fun _ j hj => by rw [getD_set_ne _ (by rintro rfl; exact absurd hj (by decide))]; exact hall j hj
abbrev actSm (q0 q1 q2 q3 q4 q5 q6 q7 q8 q9 q10 q12 q13 q14 q15 q16 q17 q18 q19 q20 q21 q22 q23 q24 q25 q26 q27 q28 q29 q30 q31 q32 q33 q34 q35 q36 q37 q38 q39 q40 q41 q42 q43 q44 q45 q58 q59 q60 q61 q62 q63 q64 q65 q66 q67 q68 q69 q70 q71 q72 q73 q74 q75 q76 q77 q78 q79 q80 q81 q82 q83 q84 q85 q86 q87 q88 q89 q90 q91 : Value) (s11 s46 s47 s48 s49 s50 s51 s52 s53 s54 s55 s56 s57 : Value) : Act := { tmps := #[q0, q1, q2, q3, q4, q5, q6, q7, q8, q9, q10, s11, q12, q13, q14, q15, q16, q17, q18, q19, q20, q21, q22, q23, q24, q25, q26, q27, q28, q29, q30, q31, q32, q33, q34, q35, q36, q37, q38, q39, q40, q41, q42, q43, q44, q45, s46, s47, s48, s49, s50, s51, s52, s53, s54, s55, s56, s57, q58, q59, q60, q61, q62, q63, q64, q65, q66, q67, q68, q69, q70, q71, q72, q73, q74, q75, q76, q77, q78, q79, q80, q81, q82, q83, q84, q85, q86, q87, q88, q89, q90, q91], defers := [] }
/-- What is known when some operations are done. -/
structure IvSm (x : World) (l : List Tm) (tA : Option Addr) (n nt gv cv ci ii kk : Nat) (cx : List Int) (L : Array Bool) (s11 s46 s47 s48 s49 s50 s51 s52 s53 s54 s55 s56 s57 : Value) (w : World) : Prop where
  z : L.size = 13
  bel : Below x.heap.size x w
  c0 : (L.getD 0 false = true) → s46 = .slice tA n nt
  c1 : (L.getD 1 false = true) → s47 = .slice tA n nt
  c2 : (L.getD 2 false = true) → RcL l w s48
  c3 : (L.getD 3 false = true) → s49 = .slice (some ⟨gv, 0, none⟩) 2 cv
  c4 : (L.getD 4 false = true) → s50 = .pointer (some ⟨gv, 0, none⟩)
  c5 : (L.getD 5 false = true) → s51 = .int .i64 (ci : Int)
  c6 : (L.getD 6 false = true) → RcP l ci w s52
  c7 : (L.getD 7 false = true) → RcV l ci w s53
  c8 : (L.getD 8 false = true) → s54 = .int .i64 (ii : Int)
  c9 : (L.getD 9 false = true) → s55 = .int .i64 (kk : Int)
  c10 : (L.getD 10 false = true) → RcS ii kk w s56
  c11 : (L.getD 11 false = true) → RcE l cx ii kk w s57
  c12 : (L.getD 12 false = true) → RcE l cx ii kk w s11
theorem IvSm.start (x : World) (l : List Tm) (tA : Option Addr) (n nt gv cv ci ii kk : Nat) (cx : List Int) (s11 s46 s47 s48 s49 s50 s51 s52 s53 s54 s55 s56 s57 : Value) : IvSm x l tA n nt gv cv ci ii kk cx (Array.replicate 13 false) s11 s46 s47 s48 s49 s50 s51 s52 s53 s54 s55 s56 s57 x.drew where
  z := rfl
  bel := belD (Below.refl _ _)
  c0 := fun h => by simp at h
  c1 := fun h => by simp at h
  c2 := fun h => by simp at h
  c3 := fun h => by simp at h
  c4 := fun h => by simp at h
  c5 := fun h => by simp at h
  c6 := fun h => by simp at h
  c7 := fun h => by simp at h
  c8 := fun h => by simp at h
  c9 := fun h => by simp at h
  c10 := fun h => by simp at h
  c11 := fun h => by simp at h
  c12 := fun h => by simp at h
theorem IvSm.o0 {x : World} {l : List Tm} {tA : Option Addr} {n nt gv cv ci ii kk : Nat} {cx : List Int} {L : Array Bool} {s11 s46 s47 s48 s49 s50 s51 s52 s53 s54 s55 s56 s57 : Value} {w : World} (H : IvSm x l tA n nt gv cv ci ii kk cx L s11 s46 s47 s48 s49 s50 s51 s52 s53 s54 s55 s56 s57 w)  : IvSm x l tA n nt gv cv ci ii kk cx (L.setIfInBounds 0 true) s11 (.slice tA n nt) s47 s48 s49 s50 s51 s52 s53 s54 s55 s56 s57 w where
  z := by rw [Array.size_setIfInBounds]; exact H.z
  bel := H.bel
  c0 := fun _ => rfl
  c1 := fun h => H.c1 (by rwa [getD_set_ne _ (by decide)] at h)
  c2 := fun h => (H.c2 (by rwa [getD_set_ne _ (by decide)] at h))
  c3 := fun h => H.c3 (by rwa [getD_set_ne _ (by decide)] at h)
  c4 := fun h => H.c4 (by rwa [getD_set_ne _ (by decide)] at h)
  c5 := fun h => H.c5 (by rwa [getD_set_ne _ (by decide)] at h)
  c6 := fun h => (H.c6 (by rwa [getD_set_ne _ (by decide)] at h))
  c7 := fun h => (H.c7 (by rwa [getD_set_ne _ (by decide)] at h))
  c8 := fun h => H.c8 (by rwa [getD_set_ne _ (by decide)] at h)
  c9 := fun h => H.c9 (by rwa [getD_set_ne _ (by decide)] at h)
  c10 := fun h => (H.c10 (by rwa [getD_set_ne _ (by decide)] at h))
  c11 := fun h => (H.c11 (by rwa [getD_set_ne _ (by decide)] at h))
  c12 := fun h => (H.c12 (by rwa [getD_set_ne _ (by decide)] at h))
theorem IvSm.o1 {x : World} {l : List Tm} {tA : Option Addr} {n nt gv cv ci ii kk : Nat} {cx : List Int} {L : Array Bool} {s11 s46 s47 s48 s49 s50 s51 s52 s53 s54 s55 s56 s57 : Value} {w : World} (H : IvSm x l tA n nt gv cv ci ii kk cx L s11 s46 s47 s48 s49 s50 s51 s52 s53 s54 s55 s56 s57 w)  : IvSm x l tA n nt gv cv ci ii kk cx (L.setIfInBounds 1 true) s11 s46 (.slice tA n nt) s48 s49 s50 s51 s52 s53 s54 s55 s56 s57 w where
  z := by rw [Array.size_setIfInBounds]; exact H.z
  bel := H.bel
  c0 := fun h => H.c0 (by rwa [getD_set_ne _ (by decide)] at h)
  c1 := fun _ => rfl
  c2 := fun h => (H.c2 (by rwa [getD_set_ne _ (by decide)] at h))
  c3 := fun h => H.c3 (by rwa [getD_set_ne _ (by decide)] at h)
  c4 := fun h => H.c4 (by rwa [getD_set_ne _ (by decide)] at h)
  c5 := fun h => H.c5 (by rwa [getD_set_ne _ (by decide)] at h)
  c6 := fun h => (H.c6 (by rwa [getD_set_ne _ (by decide)] at h))
  c7 := fun h => (H.c7 (by rwa [getD_set_ne _ (by decide)] at h))
  c8 := fun h => H.c8 (by rwa [getD_set_ne _ (by decide)] at h)
  c9 := fun h => H.c9 (by rwa [getD_set_ne _ (by decide)] at h)
  c10 := fun h => (H.c10 (by rwa [getD_set_ne _ (by decide)] at h))
  c11 := fun h => (H.c11 (by rwa [getD_set_ne _ (by decide)] at h))
  c12 := fun h => (H.c12 (by rwa [getD_set_ne _ (by decide)] at h))
theorem IvSm.o2 {x : World} {l : List Tm} {tA : Option Addr} {n nt gv cv ci ii kk : Nat} {cx : List Int} {L : Array Bool} {s11 s46 s47 s48 s49 s50 s51 s52 s53 s54 s55 s56 s57 : Value} {w : World} (H : IvSm x l tA n nt gv cv ci ii kk cx L s11 s46 s47 s48 s49 s50 s51 s52 s53 s54 s55 s56 s57 w) {w' : World} (hg : Below w.heap.size w w') {u : Value} (hR : RcL l w' u) : IvSm x l tA n nt gv cv ci ii kk cx (L.setIfInBounds 2 true) s11 s46 s47 u s49 s50 s51 s52 s53 s54 s55 s56 s57 w' where
  z := by rw [Array.size_setIfInBounds]; exact H.z
  bel := bel2 H.bel hg
  c0 := fun h => H.c0 (by rwa [getD_set_ne _ (by decide)] at h)
  c1 := fun h => H.c1 (by rwa [getD_set_ne _ (by decide)] at h)
  c2 := fun h => hR
  c3 := fun h => H.c3 (by rwa [getD_set_ne _ (by decide)] at h)
  c4 := fun h => H.c4 (by rwa [getD_set_ne _ (by decide)] at h)
  c5 := fun h => H.c5 (by rwa [getD_set_ne _ (by decide)] at h)
  c6 := fun h => (H.c6 (by rwa [getD_set_ne _ (by decide)] at h)).gr hg
  c7 := fun h => (H.c7 (by rwa [getD_set_ne _ (by decide)] at h)).gr hg
  c8 := fun h => H.c8 (by rwa [getD_set_ne _ (by decide)] at h)
  c9 := fun h => H.c9 (by rwa [getD_set_ne _ (by decide)] at h)
  c10 := fun h => (H.c10 (by rwa [getD_set_ne _ (by decide)] at h)).gr hg
  c11 := fun h => (H.c11 (by rwa [getD_set_ne _ (by decide)] at h)).gr hg
  c12 := fun h => (H.c12 (by rwa [getD_set_ne _ (by decide)] at h)).gr hg
theorem IvSm.o3 {x : World} {l : List Tm} {tA : Option Addr} {n nt gv cv ci ii kk : Nat} {cx : List Int} {L : Array Bool} {s11 s46 s47 s48 s49 s50 s51 s52 s53 s54 s55 s56 s57 : Value} {w : World} (H : IvSm x l tA n nt gv cv ci ii kk cx L s11 s46 s47 s48 s49 s50 s51 s52 s53 s54 s55 s56 s57 w)  : IvSm x l tA n nt gv cv ci ii kk cx (L.setIfInBounds 3 true) s11 s46 s47 s48 (.slice (some ⟨gv, 0, none⟩) 2 cv) s50 s51 s52 s53 s54 s55 s56 s57 w where
  z := by rw [Array.size_setIfInBounds]; exact H.z
  bel := H.bel
  c0 := fun h => H.c0 (by rwa [getD_set_ne _ (by decide)] at h)
  c1 := fun h => H.c1 (by rwa [getD_set_ne _ (by decide)] at h)
  c2 := fun h => (H.c2 (by rwa [getD_set_ne _ (by decide)] at h))
  c3 := fun _ => rfl
  c4 := fun h => H.c4 (by rwa [getD_set_ne _ (by decide)] at h)
  c5 := fun h => H.c5 (by rwa [getD_set_ne _ (by decide)] at h)
  c6 := fun h => (H.c6 (by rwa [getD_set_ne _ (by decide)] at h))
  c7 := fun h => (H.c7 (by rwa [getD_set_ne _ (by decide)] at h))
  c8 := fun h => H.c8 (by rwa [getD_set_ne _ (by decide)] at h)
  c9 := fun h => H.c9 (by rwa [getD_set_ne _ (by decide)] at h)
  c10 := fun h => (H.c10 (by rwa [getD_set_ne _ (by decide)] at h))
  c11 := fun h => (H.c11 (by rwa [getD_set_ne _ (by decide)] at h))
  c12 := fun h => (H.c12 (by rwa [getD_set_ne _ (by decide)] at h))
theorem IvSm.o4 {x : World} {l : List Tm} {tA : Option Addr} {n nt gv cv ci ii kk : Nat} {cx : List Int} {L : Array Bool} {s11 s46 s47 s48 s49 s50 s51 s52 s53 s54 s55 s56 s57 : Value} {w : World} (H : IvSm x l tA n nt gv cv ci ii kk cx L s11 s46 s47 s48 s49 s50 s51 s52 s53 s54 s55 s56 s57 w)  : IvSm x l tA n nt gv cv ci ii kk cx (L.setIfInBounds 4 true) s11 s46 s47 s48 s49 (.pointer (some ⟨gv, 0, none⟩)) s51 s52 s53 s54 s55 s56 s57 w where
  z := by rw [Array.size_setIfInBounds]; exact H.z
  bel := H.bel
  c0 := fun h => H.c0 (by rwa [getD_set_ne _ (by decide)] at h)
  c1 := fun h => H.c1 (by rwa [getD_set_ne _ (by decide)] at h)
  c2 := fun h => (H.c2 (by rwa [getD_set_ne _ (by decide)] at h))
  c3 := fun h => H.c3 (by rwa [getD_set_ne _ (by decide)] at h)
  c4 := fun _ => rfl
  c5 := fun h => H.c5 (by rwa [getD_set_ne _ (by decide)] at h)
  c6 := fun h => (H.c6 (by rwa [getD_set_ne _ (by decide)] at h))
  c7 := fun h => (H.c7 (by rwa [getD_set_ne _ (by decide)] at h))
  c8 := fun h => H.c8 (by rwa [getD_set_ne _ (by decide)] at h)
  c9 := fun h => H.c9 (by rwa [getD_set_ne _ (by decide)] at h)
  c10 := fun h => (H.c10 (by rwa [getD_set_ne _ (by decide)] at h))
  c11 := fun h => (H.c11 (by rwa [getD_set_ne _ (by decide)] at h))
  c12 := fun h => (H.c12 (by rwa [getD_set_ne _ (by decide)] at h))
theorem IvSm.o5 {x : World} {l : List Tm} {tA : Option Addr} {n nt gv cv ci ii kk : Nat} {cx : List Int} {L : Array Bool} {s11 s46 s47 s48 s49 s50 s51 s52 s53 s54 s55 s56 s57 : Value} {w : World} (H : IvSm x l tA n nt gv cv ci ii kk cx L s11 s46 s47 s48 s49 s50 s51 s52 s53 s54 s55 s56 s57 w)  : IvSm x l tA n nt gv cv ci ii kk cx (L.setIfInBounds 5 true) s11 s46 s47 s48 s49 s50 (.int .i64 (ci : Int)) s52 s53 s54 s55 s56 s57 w where
  z := by rw [Array.size_setIfInBounds]; exact H.z
  bel := H.bel
  c0 := fun h => H.c0 (by rwa [getD_set_ne _ (by decide)] at h)
  c1 := fun h => H.c1 (by rwa [getD_set_ne _ (by decide)] at h)
  c2 := fun h => (H.c2 (by rwa [getD_set_ne _ (by decide)] at h))
  c3 := fun h => H.c3 (by rwa [getD_set_ne _ (by decide)] at h)
  c4 := fun h => H.c4 (by rwa [getD_set_ne _ (by decide)] at h)
  c5 := fun _ => rfl
  c6 := fun h => (H.c6 (by rwa [getD_set_ne _ (by decide)] at h))
  c7 := fun h => (H.c7 (by rwa [getD_set_ne _ (by decide)] at h))
  c8 := fun h => H.c8 (by rwa [getD_set_ne _ (by decide)] at h)
  c9 := fun h => H.c9 (by rwa [getD_set_ne _ (by decide)] at h)
  c10 := fun h => (H.c10 (by rwa [getD_set_ne _ (by decide)] at h))
  c11 := fun h => (H.c11 (by rwa [getD_set_ne _ (by decide)] at h))
  c12 := fun h => (H.c12 (by rwa [getD_set_ne _ (by decide)] at h))
theorem IvSm.o6 {x : World} {l : List Tm} {tA : Option Addr} {n nt gv cv ci ii kk : Nat} {cx : List Int} {L : Array Bool} {s11 s46 s47 s48 s49 s50 s51 s52 s53 s54 s55 s56 s57 : Value} {w : World} (H : IvSm x l tA n nt gv cv ci ii kk cx L s11 s46 s47 s48 s49 s50 s51 s52 s53 s54 s55 s56 s57 w) {u : Value} (hR : RcP l ci w u) : IvSm x l tA n nt gv cv ci ii kk cx (L.setIfInBounds 6 true) s11 s46 s47 s48 s49 s50 s51 u s53 s54 s55 s56 s57 w where
  z := by rw [Array.size_setIfInBounds]; exact H.z
  bel := H.bel
  c0 := fun h => H.c0 (by rwa [getD_set_ne _ (by decide)] at h)
  c1 := fun h => H.c1 (by rwa [getD_set_ne _ (by decide)] at h)
  c2 := fun h => (H.c2 (by rwa [getD_set_ne _ (by decide)] at h))
  c3 := fun h => H.c3 (by rwa [getD_set_ne _ (by decide)] at h)
  c4 := fun h => H.c4 (by rwa [getD_set_ne _ (by decide)] at h)
  c5 := fun h => H.c5 (by rwa [getD_set_ne _ (by decide)] at h)
  c6 := fun h => hR
  c7 := fun h => (H.c7 (by rwa [getD_set_ne _ (by decide)] at h))
  c8 := fun h => H.c8 (by rwa [getD_set_ne _ (by decide)] at h)
  c9 := fun h => H.c9 (by rwa [getD_set_ne _ (by decide)] at h)
  c10 := fun h => (H.c10 (by rwa [getD_set_ne _ (by decide)] at h))
  c11 := fun h => (H.c11 (by rwa [getD_set_ne _ (by decide)] at h))
  c12 := fun h => (H.c12 (by rwa [getD_set_ne _ (by decide)] at h))
theorem IvSm.o7 {x : World} {l : List Tm} {tA : Option Addr} {n nt gv cv ci ii kk : Nat} {cx : List Int} {L : Array Bool} {s11 s46 s47 s48 s49 s50 s51 s52 s53 s54 s55 s56 s57 : Value} {w : World} (H : IvSm x l tA n nt gv cv ci ii kk cx L s11 s46 s47 s48 s49 s50 s51 s52 s53 s54 s55 s56 s57 w) {u : Value} (hR : RcV l ci w u) : IvSm x l tA n nt gv cv ci ii kk cx (L.setIfInBounds 7 true) s11 s46 s47 s48 s49 s50 s51 s52 u s54 s55 s56 s57 w where
  z := by rw [Array.size_setIfInBounds]; exact H.z
  bel := H.bel
  c0 := fun h => H.c0 (by rwa [getD_set_ne _ (by decide)] at h)
  c1 := fun h => H.c1 (by rwa [getD_set_ne _ (by decide)] at h)
  c2 := fun h => (H.c2 (by rwa [getD_set_ne _ (by decide)] at h))
  c3 := fun h => H.c3 (by rwa [getD_set_ne _ (by decide)] at h)
  c4 := fun h => H.c4 (by rwa [getD_set_ne _ (by decide)] at h)
  c5 := fun h => H.c5 (by rwa [getD_set_ne _ (by decide)] at h)
  c6 := fun h => (H.c6 (by rwa [getD_set_ne _ (by decide)] at h))
  c7 := fun h => hR
  c8 := fun h => H.c8 (by rwa [getD_set_ne _ (by decide)] at h)
  c9 := fun h => H.c9 (by rwa [getD_set_ne _ (by decide)] at h)
  c10 := fun h => (H.c10 (by rwa [getD_set_ne _ (by decide)] at h))
  c11 := fun h => (H.c11 (by rwa [getD_set_ne _ (by decide)] at h))
  c12 := fun h => (H.c12 (by rwa [getD_set_ne _ (by decide)] at h))
theorem IvSm.o8 {x : World} {l : List Tm} {tA : Option Addr} {n nt gv cv ci ii kk : Nat} {cx : List Int} {L : Array Bool} {s11 s46 s47 s48 s49 s50 s51 s52 s53 s54 s55 s56 s57 : Value} {w : World} (H : IvSm x l tA n nt gv cv ci ii kk cx L s11 s46 s47 s48 s49 s50 s51 s52 s53 s54 s55 s56 s57 w)  : IvSm x l tA n nt gv cv ci ii kk cx (L.setIfInBounds 8 true) s11 s46 s47 s48 s49 s50 s51 s52 s53 (.int .i64 (ii : Int)) s55 s56 s57 w where
  z := by rw [Array.size_setIfInBounds]; exact H.z
  bel := H.bel
  c0 := fun h => H.c0 (by rwa [getD_set_ne _ (by decide)] at h)
  c1 := fun h => H.c1 (by rwa [getD_set_ne _ (by decide)] at h)
  c2 := fun h => (H.c2 (by rwa [getD_set_ne _ (by decide)] at h))
  c3 := fun h => H.c3 (by rwa [getD_set_ne _ (by decide)] at h)
  c4 := fun h => H.c4 (by rwa [getD_set_ne _ (by decide)] at h)
  c5 := fun h => H.c5 (by rwa [getD_set_ne _ (by decide)] at h)
  c6 := fun h => (H.c6 (by rwa [getD_set_ne _ (by decide)] at h))
  c7 := fun h => (H.c7 (by rwa [getD_set_ne _ (by decide)] at h))
  c8 := fun _ => rfl
  c9 := fun h => H.c9 (by rwa [getD_set_ne _ (by decide)] at h)
  c10 := fun h => (H.c10 (by rwa [getD_set_ne _ (by decide)] at h))
  c11 := fun h => (H.c11 (by rwa [getD_set_ne _ (by decide)] at h))
  c12 := fun h => (H.c12 (by rwa [getD_set_ne _ (by decide)] at h))
theorem IvSm.o9 {x : World} {l : List Tm} {tA : Option Addr} {n nt gv cv ci ii kk : Nat} {cx : List Int} {L : Array Bool} {s11 s46 s47 s48 s49 s50 s51 s52 s53 s54 s55 s56 s57 : Value} {w : World} (H : IvSm x l tA n nt gv cv ci ii kk cx L s11 s46 s47 s48 s49 s50 s51 s52 s53 s54 s55 s56 s57 w)  : IvSm x l tA n nt gv cv ci ii kk cx (L.setIfInBounds 9 true) s11 s46 s47 s48 s49 s50 s51 s52 s53 s54 (.int .i64 (kk : Int)) s56 s57 w where
  z := by rw [Array.size_setIfInBounds]; exact H.z
  bel := H.bel
  c0 := fun h => H.c0 (by rwa [getD_set_ne _ (by decide)] at h)
  c1 := fun h => H.c1 (by rwa [getD_set_ne _ (by decide)] at h)
  c2 := fun h => (H.c2 (by rwa [getD_set_ne _ (by decide)] at h))
  c3 := fun h => H.c3 (by rwa [getD_set_ne _ (by decide)] at h)
  c4 := fun h => H.c4 (by rwa [getD_set_ne _ (by decide)] at h)
  c5 := fun h => H.c5 (by rwa [getD_set_ne _ (by decide)] at h)
  c6 := fun h => (H.c6 (by rwa [getD_set_ne _ (by decide)] at h))
  c7 := fun h => (H.c7 (by rwa [getD_set_ne _ (by decide)] at h))
  c8 := fun h => H.c8 (by rwa [getD_set_ne _ (by decide)] at h)
  c9 := fun _ => rfl
  c10 := fun h => (H.c10 (by rwa [getD_set_ne _ (by decide)] at h))
  c11 := fun h => (H.c11 (by rwa [getD_set_ne _ (by decide)] at h))
  c12 := fun h => (H.c12 (by rwa [getD_set_ne _ (by decide)] at h))
theorem IvSm.o10 {x : World} {l : List Tm} {tA : Option Addr} {n nt gv cv ci ii kk : Nat} {cx : List Int} {L : Array Bool} {s11 s46 s47 s48 s49 s50 s51 s52 s53 s54 s55 s56 s57 : Value} {w : World} (H : IvSm x l tA n nt gv cv ci ii kk cx L s11 s46 s47 s48 s49 s50 s51 s52 s53 s54 s55 s56 s57 w) {w' : World} (hg : Below w.heap.size w w') {u : Value} (hR : RcS ii kk w' u) : IvSm x l tA n nt gv cv ci ii kk cx (L.setIfInBounds 10 true) s11 s46 s47 s48 s49 s50 s51 s52 s53 s54 s55 u s57 w' where
  z := by rw [Array.size_setIfInBounds]; exact H.z
  bel := bel2 H.bel hg
  c0 := fun h => H.c0 (by rwa [getD_set_ne _ (by decide)] at h)
  c1 := fun h => H.c1 (by rwa [getD_set_ne _ (by decide)] at h)
  c2 := fun h => (H.c2 (by rwa [getD_set_ne _ (by decide)] at h)).gr hg
  c3 := fun h => H.c3 (by rwa [getD_set_ne _ (by decide)] at h)
  c4 := fun h => H.c4 (by rwa [getD_set_ne _ (by decide)] at h)
  c5 := fun h => H.c5 (by rwa [getD_set_ne _ (by decide)] at h)
  c6 := fun h => (H.c6 (by rwa [getD_set_ne _ (by decide)] at h)).gr hg
  c7 := fun h => (H.c7 (by rwa [getD_set_ne _ (by decide)] at h)).gr hg
  c8 := fun h => H.c8 (by rwa [getD_set_ne _ (by decide)] at h)
  c9 := fun h => H.c9 (by rwa [getD_set_ne _ (by decide)] at h)
  c10 := fun h => hR
  c11 := fun h => (H.c11 (by rwa [getD_set_ne _ (by decide)] at h)).gr hg
  c12 := fun h => (H.c12 (by rwa [getD_set_ne _ (by decide)] at h)).gr hg
theorem IvSm.o11 {x : World} {l : List Tm} {tA : Option Addr} {n nt gv cv ci ii kk : Nat} {cx : List Int} {L : Array Bool} {s11 s46 s47 s48 s49 s50 s51 s52 s53 s54 s55 s56 s57 : Value} {w : World} (H : IvSm x l tA n nt gv cv ci ii kk cx L s11 s46 s47 s48 s49 s50 s51 s52 s53 s54 s55 s56 s57 w) {w' : World} (hg : Below w.heap.size w w') {u : Value} (hR : RcE l cx ii kk w' u) : IvSm x l tA n nt gv cv ci ii kk cx (L.setIfInBounds 11 true) s11 s46 s47 s48 s49 s50 s51 s52 s53 s54 s55 s56 u w' where
  z := by rw [Array.size_setIfInBounds]; exact H.z
  bel := bel2 H.bel hg
  c0 := fun h => H.c0 (by rwa [getD_set_ne _ (by decide)] at h)
  c1 := fun h => H.c1 (by rwa [getD_set_ne _ (by decide)] at h)
  c2 := fun h => (H.c2 (by rwa [getD_set_ne _ (by decide)] at h)).gr hg
  c3 := fun h => H.c3 (by rwa [getD_set_ne _ (by decide)] at h)
  c4 := fun h => H.c4 (by rwa [getD_set_ne _ (by decide)] at h)
  c5 := fun h => H.c5 (by rwa [getD_set_ne _ (by decide)] at h)
  c6 := fun h => (H.c6 (by rwa [getD_set_ne _ (by decide)] at h)).gr hg
  c7 := fun h => (H.c7 (by rwa [getD_set_ne _ (by decide)] at h)).gr hg
  c8 := fun h => H.c8 (by rwa [getD_set_ne _ (by decide)] at h)
  c9 := fun h => H.c9 (by rwa [getD_set_ne _ (by decide)] at h)
  c10 := fun h => (H.c10 (by rwa [getD_set_ne _ (by decide)] at h)).gr hg
  c11 := fun h => hR
  c12 := fun h => (H.c12 (by rwa [getD_set_ne _ (by decide)] at h)).gr hg
theorem IvSm.o12 {x : World} {l : List Tm} {tA : Option Addr} {n nt gv cv ci ii kk : Nat} {cx : List Int} {L : Array Bool} {s11 s46 s47 s48 s49 s50 s51 s52 s53 s54 s55 s56 s57 : Value} {w : World} (H : IvSm x l tA n nt gv cv ci ii kk cx L s11 s46 s47 s48 s49 s50 s51 s52 s53 s54 s55 s56 s57 w) {u : Value} (hR : RcE l cx ii kk w u) : IvSm x l tA n nt gv cv ci ii kk cx (L.setIfInBounds 12 true) u s46 s47 s48 s49 s50 s51 s52 s53 s54 s55 s56 s57 w where
  z := by rw [Array.size_setIfInBounds]; exact H.z
  bel := H.bel
  c0 := fun h => H.c0 (by rwa [getD_set_ne _ (by decide)] at h)
  c1 := fun h => H.c1 (by rwa [getD_set_ne _ (by decide)] at h)
  c2 := fun h => (H.c2 (by rwa [getD_set_ne _ (by decide)] at h))
  c3 := fun h => H.c3 (by rwa [getD_set_ne _ (by decide)] at h)
  c4 := fun h => H.c4 (by rwa [getD_set_ne _ (by decide)] at h)
  c5 := fun h => H.c5 (by rwa [getD_set_ne _ (by decide)] at h)
  c6 := fun h => (H.c6 (by rwa [getD_set_ne _ (by decide)] at h))
  c7 := fun h => (H.c7 (by rwa [getD_set_ne _ (by decide)] at h))
  c8 := fun h => H.c8 (by rwa [getD_set_ne _ (by decide)] at h)
  c9 := fun h => H.c9 (by rwa [getD_set_ne _ (by decide)] at h)
  c10 := fun h => (H.c10 (by rwa [getD_set_ne _ (by decide)] at h))
  c11 := fun h => (H.c11 (by rwa [getD_set_ne _ (by decide)] at h))
  c12 := fun h => hR
abbrev actSn (q0 q1 q2 q3 q4 q5 q6 q7 q8 q9 q10 q11 q14 q15 q16 q17 q18 q19 q20 q21 q22 q23 q24 q25 q26 q27 q28 q29 q30 q31 q32 q33 q34 q35 q36 q37 q38 q39 q40 q41 q42 q43 q44 q45 q46 q47 q48 q49 q50 q51 q52 q53 q54 q55 q56 q57 q62 q63 q64 q65 q66 q67 q68 q69 q70 q71 q72 q73 q74 q75 q76 q77 q78 q79 q80 q81 q82 q83 q84 q85 q86 q87 q88 q89 q90 q91 : Value) (s12 s13 s58 s59 s60 s61 : Value) : Act := { tmps := #[q0, q1, q2, q3, q4, q5, q6, q7, q8, q9, q10, q11, s12, s13, q14, q15, q16, q17, q18, q19, q20, q21, q22, q23, q24, q25, q26, q27, q28, q29, q30, q31, q32, q33, q34, q35, q36, q37, q38, q39, q40, q41, q42, q43, q44, q45, q46, q47, q48, q49, q50, q51, q52, q53, q54, q55, q56, q57, s58, s59, s60, s61, q62, q63, q64, q65, q66, q67, q68, q69, q70, q71, q72, q73, q74, q75, q76, q77, q78, q79, q80, q81, q82, q83, q84, q85, q86, q87, q88, q89, q90, q91], defers := [] }
/-- What is known when some operations are done. -/
structure IvSn (x : World) (gE cE : Nat) (dX : Int) (L : Array Bool) (s12 s13 s58 s59 s60 s61 : Value) (w : World) : Prop where
  z : L.size = 7
  bel : Below x.heap.size x w
  c0 : (L.getD 0 false = true) → s58 = .agg #[.int .i64 0, .int .i64 0]
  c1 : (L.getD 1 false = true) → s59 = .slice (some ⟨gE, 0, none⟩) 3 cE
  c2 : (L.getD 2 false = true) → s60 = .pointer (some ⟨gE, 0, none⟩)
  c3 : (L.getD 3 false = true) → s61 = .int .i64 dX
  c6 : (L.getD 6 false = true) → s13 = .int .i64 dX
  b4 : (L.getD 4 false = true) → ∃ p, Bfr x.heap.size w s12 p
  e5 : (L.getD 5 false = true) → Bfr x.heap.size w s12 ((0 : Int), (0 : Int))
  g5 : (L.getD 5 false = true) → ∀ j, j ∈ [0, 4] → L.getD j false = true
theorem IvSn.start (x : World) (gE cE : Nat) (dX : Int) (s12 s13 s58 s59 s60 s61 : Value) : IvSn x gE cE dX (Array.replicate 7 false) s12 s13 s58 s59 s60 s61 x.drew where
  z := rfl
  bel := belD (Below.refl _ _)
  c0 := fun h => by simp at h
  c1 := fun h => by simp at h
  c2 := fun h => by simp at h
  c3 := fun h => by simp at h
  c6 := fun h => by simp at h
  b4 := fun h => by simp at h
  e5 := fun h => by simp at h
  g5 := fun h => by simp at h
theorem IvSn.o0 {x : World} {gE cE : Nat} {dX : Int} {L : Array Bool} {s12 s13 s58 s59 s60 s61 : Value} {w : World} (H : IvSn x gE cE dX L s12 s13 s58 s59 s60 s61 w)  : IvSn x gE cE dX (L.setIfInBounds 0 true) s12 s13 (.agg #[.int .i64 0, .int .i64 0]) s59 s60 s61 w where
  z := by rw [Array.size_setIfInBounds]; exact H.z
  bel := H.bel
  c0 := fun _ => rfl
  c1 := fun h => H.c1 (by rwa [getD_set_ne _ (by decide)] at h)
  c2 := fun h => H.c2 (by rwa [getD_set_ne _ (by decide)] at h)
  c3 := fun h => H.c3 (by rwa [getD_set_ne _ (by decide)] at h)
  c6 := fun h => H.c6 (by rwa [getD_set_ne _ (by decide)] at h)
  b4 := fun h => (H.b4 (by rwa [getD_set_ne _ (by decide)] at h))
  e5 := fun h => (H.e5 (by rwa [getD_set_ne _ (by decide)] at h))
  g5 := fun h j hj => by
    by_cases e : j = 0
    · subst e; exact getD_set_same H.z (by decide)
    · rw [getD_set_ne _ (fun q => e q.symm)]; exact H.g5 (by rwa [getD_set_ne _ (by decide)] at h) j hj
theorem IvSn.o1 {x : World} {gE cE : Nat} {dX : Int} {L : Array Bool} {s12 s13 s58 s59 s60 s61 : Value} {w : World} (H : IvSn x gE cE dX L s12 s13 s58 s59 s60 s61 w)  : IvSn x gE cE dX (L.setIfInBounds 1 true) s12 s13 s58 (.slice (some ⟨gE, 0, none⟩) 3 cE) s60 s61 w where
  z := by rw [Array.size_setIfInBounds]; exact H.z
  bel := H.bel
  c0 := fun h => H.c0 (by rwa [getD_set_ne _ (by decide)] at h)
  c1 := fun _ => rfl
  c2 := fun h => H.c2 (by rwa [getD_set_ne _ (by decide)] at h)
  c3 := fun h => H.c3 (by rwa [getD_set_ne _ (by decide)] at h)
  c6 := fun h => H.c6 (by rwa [getD_set_ne _ (by decide)] at h)
  b4 := fun h => (H.b4 (by rwa [getD_set_ne _ (by decide)] at h))
  e5 := fun h => (H.e5 (by rwa [getD_set_ne _ (by decide)] at h))
  g5 := fun h j hj => by
    by_cases e : j = 1
    · subst e; exact getD_set_same H.z (by decide)
    · rw [getD_set_ne _ (fun q => e q.symm)]; exact H.g5 (by rwa [getD_set_ne _ (by decide)] at h) j hj
theorem IvSn.o2 {x : World} {gE cE : Nat} {dX : Int} {L : Array Bool} {s12 s13 s58 s59 s60 s61 : Value} {w : World} (H : IvSn x gE cE dX L s12 s13 s58 s59 s60 s61 w)  : IvSn x gE cE dX (L.setIfInBounds 2 true) s12 s13 s58 s59 (.pointer (some ⟨gE, 0, none⟩)) s61 w where
  z := by rw [Array.size_setIfInBounds]; exact H.z
  bel := H.bel
  c0 := fun h => H.c0 (by rwa [getD_set_ne _ (by decide)] at h)
  c1 := fun h => H.c1 (by rwa [getD_set_ne _ (by decide)] at h)
  c2 := fun _ => rfl
  c3 := fun h => H.c3 (by rwa [getD_set_ne _ (by decide)] at h)
  c6 := fun h => H.c6 (by rwa [getD_set_ne _ (by decide)] at h)
  b4 := fun h => (H.b4 (by rwa [getD_set_ne _ (by decide)] at h))
  e5 := fun h => (H.e5 (by rwa [getD_set_ne _ (by decide)] at h))
  g5 := fun h j hj => by
    by_cases e : j = 2
    · subst e; exact getD_set_same H.z (by decide)
    · rw [getD_set_ne _ (fun q => e q.symm)]; exact H.g5 (by rwa [getD_set_ne _ (by decide)] at h) j hj
theorem IvSn.o3 {x : World} {gE cE : Nat} {dX : Int} {L : Array Bool} {s12 s13 s58 s59 s60 s61 : Value} {w : World} (H : IvSn x gE cE dX L s12 s13 s58 s59 s60 s61 w)  : IvSn x gE cE dX (L.setIfInBounds 3 true) s12 s13 s58 s59 s60 (.int .i64 dX) w where
  z := by rw [Array.size_setIfInBounds]; exact H.z
  bel := H.bel
  c0 := fun h => H.c0 (by rwa [getD_set_ne _ (by decide)] at h)
  c1 := fun h => H.c1 (by rwa [getD_set_ne _ (by decide)] at h)
  c2 := fun h => H.c2 (by rwa [getD_set_ne _ (by decide)] at h)
  c3 := fun _ => rfl
  c6 := fun h => H.c6 (by rwa [getD_set_ne _ (by decide)] at h)
  b4 := fun h => (H.b4 (by rwa [getD_set_ne _ (by decide)] at h))
  e5 := fun h => (H.e5 (by rwa [getD_set_ne _ (by decide)] at h))
  g5 := fun h j hj => by
    by_cases e : j = 3
    · subst e; exact getD_set_same H.z (by decide)
    · rw [getD_set_ne _ (fun q => e q.symm)]; exact H.g5 (by rwa [getD_set_ne _ (by decide)] at h) j hj
theorem IvSn.o4 {x : World} {gE cE : Nat} {dX : Int} {L : Array Bool} {s12 s13 s58 s59 s60 s61 : Value} {w : World} (H : IvSn x gE cE dX L s12 s13 s58 s59 s60 s61 w) (hN : L.getD 4 true = false) : IvSn x gE cE dX (L.setIfInBounds 4 true) (.pointer (some ⟨w.heap.size, 0, none⟩)) s13 s58 s59 s60 s61 (w.alloc (.cells #[.int .i64 0, .int .i64 0] 39)) where
  z := by rw [Array.size_setIfInBounds]; exact H.z
  bel := belA1 H.bel _
  c0 := fun h => H.c0 (by rwa [getD_set_ne _ (by decide)] at h)
  c1 := fun h => H.c1 (by rwa [getD_set_ne _ (by decide)] at h)
  c2 := fun h => H.c2 (by rwa [getD_set_ne _ (by decide)] at h)
  c3 := fun h => H.c3 (by rwa [getD_set_ne _ (by decide)] at h)
  c6 := fun h => H.c6 (by rwa [getD_set_ne _ (by decide)] at h)
  b4 := fun _ => ⟨_, Bfr.new H.bel.size⟩
  e5 := fun h => (notl hN (H.g5 (by rwa [getD_set_ne _ (by decide)] at h) 4 (by decide))).elim
  g5 := fun h j hj => by
    by_cases e : j = 4
    · subst e; exact getD_set_same H.z (by decide)
    · rw [getD_set_ne _ (fun q => e q.symm)]; exact H.g5 (by rwa [getD_set_ne _ (by decide)] at h) j hj
theorem IvSn.o5 {x : World} {gE cE : Nat} {dX : Int} {L : Array Bool} {s12 s13 s58 s59 s60 s61 : Value} {w : World} (H : IvSn x gE cE dX L s12 s13 s58 s59 s60 s61 w) (hall : ∀ j, j ∈ [0, 4] → L.getD j false = true) (l4 : L.getD 4 false = true) {g : Nat} (hs : s12 = .pointer (some ⟨g, 0, none⟩)) {p : _} (hb : Bfr x.heap.size w s12 p) (hge : x.heap.size ≤ g) : IvSn x gE cE dX (L.setIfInBounds 5 true) s12 s13 s58 s59 s60 s61 ((w.setCell ⟨g, 0, none⟩ (.int .i64 ((0 : Int), (0 : Int)).1)).setCell ⟨g, 1, none⟩ (.int .i64 ((0 : Int), (0 : Int)).2)) where
  z := by rw [Array.size_setIfInBounds]; exact H.z
  bel := belS (belS (H.bel) hge _ _) hge _ _
  c0 := fun h => H.c0 (by rwa [getD_set_ne _ (by decide)] at h)
  c1 := fun h => H.c1 (by rwa [getD_set_ne _ (by decide)] at h)
  c2 := fun h => H.c2 (by rwa [getD_set_ne _ (by decide)] at h)
  c3 := fun h => H.c3 (by rwa [getD_set_ne _ (by decide)] at h)
  c6 := fun h => H.c6 (by rwa [getD_set_ne _ (by decide)] at h)
  b4 := fun _ => ⟨_, by rw [hs]; exact Bfr.put (hs ▸ hb) ((0 : Int), (0 : Int))⟩
  e5 := fun _ => by rw [hs]; exact Bfr.put (hs ▸ hb) _
  g5 := fun _ j hj => by rw [getD_set_ne _ (by rintro rfl; exact absurd hj (by decide))]; exact hall j hj
theorem IvSn.o6 {x : World} {gE cE : Nat} {dX : Int} {L : Array Bool} {s12 s13 s58 s59 s60 s61 : Value} {w : World} (H : IvSn x gE cE dX L s12 s13 s58 s59 s60 s61 w)  : IvSn x gE cE dX (L.setIfInBounds 6 true) s12 (.int .i64 dX) s58 s59 s60 s61 w where
  z := by rw [Array.size_setIfInBounds]; exact H.z
  bel := H.bel
  c0 := fun h => H.c0 (by rwa [getD_set_ne _ (by decide)] at h)
  c1 := fun h => H.c1 (by rwa [getD_set_ne _ (by decide)] at h)
  c2 := fun h => H.c2 (by rwa [getD_set_ne _ (by decide)] at h)
  c3 := fun h => H.c3 (by rwa [getD_set_ne _ (by decide)] at h)
  c6 := fun _ => rfl
  b4 := fun h => (H.b4 (by rwa [getD_set_ne _ (by decide)] at h))
  e5 := fun h => (H.e5 (by rwa [getD_set_ne _ (by decide)] at h))
  g5 := fun h j hj => by
    by_cases e : j = 6
    · subst e; exact getD_set_same H.z (by decide)
    · rw [getD_set_ne _ (fun q => e q.symm)]; exact H.g5 (by rwa [getD_set_ne _ (by decide)] at h) j hj
set_option maxHeartbeats 4000000 in
set_option maxRecDepth 100000 in
theorem specSegmentLength_any (w : World) (B : Nat) (v : Value) (l : List Tm) (i k : Int) (h : TmS w B v l) : Calls Tryz.prog 25 #[v, .int .i64 i, .int .i64 k] w fun e w' => GivesSl l i k w e w' := by
  have h0 := FS.below h ((Below.refl _ _).alloc (Nat.le_refl _) (.cells #[.int .i64 0, .int .i64 0] 39))
  have HR := Lib.hid (F2.new w 0 0)
  have HB0 := Lib.hid (show Below w.heap.size w (w.alloc (.cells #[.int .i64 0, .int .i64 0] 39)) from (Below.refl _ _).alloc (Nat.le_refl _) _)
  cases hl : plB l
  · have HL := Lib.hid hl
    clear hl
    go_enter Tryz.func25, Tryz.ntmps25
    go_wp2_with fail
    refine (plGood_any _ B _ l h0).mono ?_
    rintro e w1 ⟨rfl, b1⟩
    rw [HL.out]
    obtain ⟨c0, c1, f0, f1⟩ := HR.out.below b1
    have hB := bel2 HB0.out b1
    clear b1 h h0
    go_wp2_with fail
    refine bodyPost_ret ((F2.store ⟨c0, c1, f0, f1⟩ _ _).results rfl rfl rfl) rfl ?_
    exact givesSl_no (slB_pl HL.out) (belS (belS hB (by omega) _ _) (by omega) _ _)
  · have HL := Lib.hid hl
    clear hl
    go_enter Tryz.func25, Tryz.ntmps25
    go_wp2_with fail
    refine (plGood_any _ B _ l h0).mono ?_
    rintro e w1 ⟨rfl, b1⟩
    rw [HL.out]
    have HT := Lib.hid (FS.below h0 b1)
    have HR1 := Lib.hid (HR.out.below b1)
    have HB1 := Lib.hid (bel2 HB0.out b1)
    obtain ⟨At, capt, rfl, -, -⟩ := TmS.parts h
    clear b1 h h0
    go_wp2_with fail
    have hA : Below w1.heap.size w1 (w1.alloc (.cells #[.int .i64 i, .int .i64 k] 3)) := (Below.refl _ _).alloc (Nat.le_refl _) _
    refine (cuAt_any _ B w1.heap.size _ _ l [i, k] (FS.below HT.out hA) (World.ownsRow_lit w1 #[.int .i64 i, .int .i64 k] 2 (Nat.le_refl _) (by decide) rfl) HL.out).mono ?_
    rintro e w2 ⟨r, rfl, hr, b2⟩
    have HT2 := Lib.hid (FS.below (FS.below HT.out hA) b2)
    have HR2 := Lib.hid ((HR1.out.below hA).below b2)
    have HB2 := Lib.hid (bel2 (bel2 HB1.out hA) b2)
    have HAT := Lib.hid hr
    obtain ⟨Av, capv, rfl, -, -⟩ := hr.parts
    clear hr b2 hA HT HR1 HB1
    have h2t := clL_two HL.out [i, k]
    by_cases h2 : (clL l (ceL l).length [i, k]).length = 2
    · obtain ⟨i', k', c, d, x, y, rfl, rfl, S⟩ := Sl.of HL.out h2
      have HSL := Lib.hid S
      have hvv := HAT.out
      rw [h2] at hvv ⊢
      rw [S.ce] at hvv
      clear h2 h2t HAT S
      obtain ⟨A', cap', he, -, hp⟩ := hvv.parts
      simp only [Value.slice.injEq] at he
      obtain ⟨rfl, -, -⟩ := he
      obtain ⟨gv, rfl, v0⟩ := hp 0 (by simp)
      obtain ⟨gv', hgv, v1⟩ := hp 1 (by simp)
      cases hgv
      have HV := Lib.hid (And.intro (show w2.cell? ⟨gv, 0, none⟩ = some (.int .i64 (c : Int)) from v0) (show w2.cell? ⟨gv, 1, none⟩ = some (.int .i64 (d : Int)) from v1))
      clear v0 v1 hp hvv
      go_upto_region 6 with fail
      refine wp_region_inv (by kernel_rfl) (fun L a' w' => ∃ s9 s10 s28 s29 s30 s31 s32 s33 s34 s35 s36 s37 s38 s39 s40 s41 s42 s43 s44 s45, a' = actSl (Value.slice At l.length capt) (Value.int IntKind.i64 ↑i') (Value.int IntKind.i64 ↑k') undef undef undef (Value.pointer (some { block := w.heap.size, off := 0 })) (Value.bool false) (Value.slice (some { block := gv, off := 0 }) 2 capv) undef undef undef undef (Value.slice At l.length capt) (Value.bool true) (Value.bool false) undef (Value.slice At l.length capt) (Value.int IntKind.i64 ↑i') (Value.int IntKind.i64 ↑k') (Value.slice (some { block := w1.heap.size, off := 0 }) 2 2) (Value.slice (some { block := gv, off := 0 }) 2 capv) (Value.slice (some { block := gv, off := 0 }) 2 capv) (Value.int IntKind.i64 2) (Value.bool false) undef undef undef undef undef undef undef undef undef undef undef undef undef undef undef undef undef undef undef undef undef undef undef undef undef undef undef undef undef undef undef undef undef undef undef undef undef undef undef undef undef undef undef undef undef undef undef s9 s10 s28 s29 s30 s31 s32 s33 s34 s35 s36 s37 s38 s39 s40 s41 s42 s43 s44 s45 ∧ IvSl w2 l At l.length capt gv capv c d x y L s9 s10 s28 s29 s30 s31 s32 s33 s34 s35 s36 s37 s38 s39 s40 s41 s42 s43 s44 s45 w') ?_ ?_ ?_
      · exact ⟨_, _, _, _, _, _, _, _, _, _, _, _, _, _, _, _, _, _, _, _, rfl, IvSl.start w2 l At l.length capt gv capv c d x y _ _ _ _ _ _ _ _ _ _ _ _ _ _ _ _ _ _ _ _ ⟩
      · rintro L a' w' i ⟨s9, s10, s28, s29, s30, s31, s32, s33, s34, s35, s36, s37, s38, s39, s40, s41, s42, s43, s44, s45, rfl, H⟩ hi
        obtain ⟨hL, o, ho, haf⟩ := mem_ready.1 hi
        have hiN : i < 22 := (Array.getElem?_eq_some_iff.1 ho).1
        clear hi
        obtain ⟨z0, z1⟩ := And.intro (box_o HV.out.1 H.bel) (box_o HV.out.2 H.bel)
        have hc := HSL.out.hc
        have hd := HSL.out.hd
        have hcs : i = 0 ∨ i = 1 ∨ i = 2 ∨ i = 3 ∨ i = 4 ∨ i = 5 ∨ i = 6 ∨ i = 7 ∨ i = 8 ∨ i = 9 ∨ i = 10 ∨ i = 11 ∨ i = 12 ∨ i = 13 ∨ i = 14 ∨ i = 15 ∨ i = 16 ∨ i = 17 ∨ i = 18 ∨ i = 19 ∨ i = 20 ∨ i = 21 := by omega
        rcases hcs with rfl | rfl | rfl | rfl | rfl | rfl | rfl | rfl | rfl | rfl | rfl | rfl | rfl | rfl | rfl | rfl | rfl | rfl | rfl | rfl | rfl | rfl
        · cases ho
          refine wpOp_step rfl fun K' hK => ?_
          rw [if_pos (by rfl)]
          go_simp
          exact hK _ _ ⟨_, _, _, _, _, _, _, _, _, _, _, _, _, _, _, _, _, _, _, _, rfl, H.o0⟩
        · cases ho
          refine wpOp_step rfl fun K' hK => ?_
          rw [if_pos (by rfl)]
          go_simp
          exact hK _ _ ⟨_, _, _, _, _, _, _, _, _, _, _, _, _, _, _, _, _, _, _, _, rfl, H.o1⟩
        · cases ho
          have e1 := H.c1 (haf_of haf 1 (by kernel_rfl))
          subst e1
          refine wpOp_step rfl fun K' hK => ?_
          rw [if_pos (by rfl)]
          go_simp
          refine (ceOf_any _ B _ l (FS.below HT2.out H.bel) HL.out).mono ?_
          rintro e w1 ⟨r, C, rfl, hC, eC, hg⟩
          have hR : RcL l w1 r := RcL.of hC eC
          exact hK _ _ ⟨_, _, _, _, _, _, _, _, _, _, _, _, _, _, _, _, _, _, _, _, rfl, H.o2 hg hR⟩
        · cases ho
          refine wpOp_step rfl fun K' hK => ?_
          rw [if_pos (by rfl)]
          go_simp
          exact hK _ _ ⟨_, _, _, _, _, _, _, _, _, _, _, _, _, _, _, _, _, _, _, _, rfl, H.o3⟩
        · cases ho
          have e3 := H.c3 (haf_of haf 3 (by kernel_rfl))
          subst e3
          refine wpOp_step rfl fun K' hK => ?_
          rw [if_pos (by rfl)]
          go_simp
          exact hK _ _ ⟨_, _, _, _, _, _, _, _, _, _, _, _, _, _, _, _, _, _, _, _, rfl, H.o4⟩
        · cases ho
          have e4 := H.c4 (haf_of haf 4 (by kernel_rfl))
          subst e4
          refine wpOp_step rfl fun K' hK => ?_
          rw [if_pos (by rfl)]
          go_simp
          exact hK _ _ ⟨_, _, _, _, _, _, _, _, _, _, _, _, _, _, _, _, _, _, _, _, rfl, H.o5⟩
        · cases ho
          have e5 := H.c5 (haf_of haf 5 (by kernel_rfl))
          subst e5
          have n20 : L.getD 20 false = false := by
            cases hx : L.getD 20 false
            · rfl
            · exact (notl hL (H.g20 hx 6 (by decide))).elim
          have n21 : L.getD 21 false = false := by
            cases hx : L.getD 21 false
            · rfl
            · exact (notl hL (H.g21 hx 6 (by decide))).elim
          have x2 := H.c2 (haf_of haf 2 (by kernel_rfl)) n20 n21
          obtain ⟨A, cap, m, gc, e0, e1, hm, hR⟩ := x2.at hc
          subst e0
          subst e1
          refine wpOp_step rfl fun K' hK => ?_
          rw [if_pos (by rfl)]
          go_simp
          exact hK _ _ ⟨_, _, _, _, _, _, _, _, _, _, _, _, _, _, _, _, _, _, _, _, rfl, H.o6 hR⟩
        · cases ho
          have n20 : L.getD 20 false = false := by
            cases hx : L.getD 20 false
            · rfl
            · exact (notl hL (H.g20 hx 7 (by decide))).elim
          have n21 : L.getD 21 false = false := by
            cases hx : L.getD 21 false
            · rfl
            · exact (notl hL (H.g21 hx 7 (by decide))).elim
          have x6 := H.c6 (haf_of haf 6 (by kernel_rfl)) n20 n21
          obtain ⟨gc, uv, e0, e1, hR⟩ := x6.get
          subst e0
          refine wpOp_step rfl fun K' hK => ?_
          rw [if_pos (by rfl)]
          go_simp
          exact hK _ _ ⟨_, _, _, _, _, _, _, _, _, _, _, _, _, _, _, _, _, _, _, _, rfl, H.o7 hR⟩
        · cases ho
          have e0 := H.c0 (haf_of haf 0 (by kernel_rfl))
          subst e0
          have n20 : L.getD 20 false = false := by
            cases hx : L.getD 20 false
            · rfl
            · exact (notl hL (H.g20 hx 8 (by decide))).elim
          have n21 : L.getD 21 false = false := by
            cases hx : L.getD 21 false
            · rfl
            · exact (notl hL (H.g21 hx 8 (by decide))).elim
          have x7 := H.c7 (haf_of haf 7 (by kernel_rfl)) n20 n21
          obtain ⟨BV, hV⟩ := x7
          refine wpOp_step rfl fun K' hK => ?_
          rw [if_pos (by rfl)]
          go_simp
          refine (cuVertex_any _ B _ _ _ l x (FS.below HT2.out H.bel) (by rw [HSL.out.hx]; exact hV) HL.out HSL.out.mx).mono ?_
          rintro e w1 ⟨rfl, hg⟩
          exact hK _ _ ⟨_, _, _, _, _, _, _, _, _, _, _, _, _, _, _, _, _, _, _, _, rfl, H.o8 hg⟩
        · cases ho
          refine wpOp_step rfl fun K' hK => ?_
          rw [if_pos (by rfl)]
          go_simp
          exact hK _ _ ⟨_, _, _, _, _, _, _, _, _, _, _, _, _, _, _, _, _, _, _, _, rfl, H.o9⟩
        · cases ho
          refine wpOp_step rfl fun K' hK => ?_
          rw [if_pos (by rfl)]
          go_simp
          exact hK _ _ ⟨_, _, _, _, _, _, _, _, _, _, _, _, _, _, _, _, _, _, _, _, rfl, H.o10⟩
        · cases ho
          have e10 := H.c10 (haf_of haf 10 (by kernel_rfl))
          subst e10
          refine wpOp_step rfl fun K' hK => ?_
          rw [if_pos (by rfl)]
          go_simp
          refine (ceOf_any _ B _ l (FS.below HT2.out H.bel) HL.out).mono ?_
          rintro e w1 ⟨r, C, rfl, hC, eC, hg⟩
          have hR : RcL l w1 r := RcL.of hC eC
          exact hK _ _ ⟨_, _, _, _, _, _, _, _, _, _, _, _, _, _, _, _, _, _, _, _, rfl, H.o11 hg hR⟩
        · cases ho
          refine wpOp_step rfl fun K' hK => ?_
          rw [if_pos (by rfl)]
          go_simp
          exact hK _ _ ⟨_, _, _, _, _, _, _, _, _, _, _, _, _, _, _, _, _, _, _, _, rfl, H.o12⟩
        · cases ho
          have e12 := H.c12 (haf_of haf 12 (by kernel_rfl))
          subst e12
          refine wpOp_step rfl fun K' hK => ?_
          rw [if_pos (by rfl)]
          go_simp
          exact hK _ _ ⟨_, _, _, _, _, _, _, _, _, _, _, _, _, _, _, _, _, _, _, _, rfl, H.o13⟩
        · cases ho
          have e13 := H.c13 (haf_of haf 13 (by kernel_rfl))
          subst e13
          refine wpOp_step rfl fun K' hK => ?_
          rw [if_pos (by rfl)]
          go_simp
          exact hK _ _ ⟨_, _, _, _, _, _, _, _, _, _, _, _, _, _, _, _, _, _, _, _, rfl, H.o14⟩
        · cases ho
          have e14 := H.c14 (haf_of haf 14 (by kernel_rfl))
          subst e14
          have n21 : L.getD 21 false = false := by
            cases hx : L.getD 21 false
            · rfl
            · exact (notl hL (H.g21 hx 15 (by decide))).elim
          have x11 := H.c11 (haf_of haf 11 (by kernel_rfl)) n21
          obtain ⟨A, cap, m, gc, e0, e1, hm, hR⟩ := x11.at hd
          subst e0
          subst e1
          refine wpOp_step rfl fun K' hK => ?_
          rw [if_pos (by rfl)]
          go_simp
          exact hK _ _ ⟨_, _, _, _, _, _, _, _, _, _, _, _, _, _, _, _, _, _, _, _, rfl, H.o15 hR⟩
        · cases ho
          have n21 : L.getD 21 false = false := by
            cases hx : L.getD 21 false
            · rfl
            · exact (notl hL (H.g21 hx 16 (by decide))).elim
          have x15 := H.c15 (haf_of haf 15 (by kernel_rfl)) n21
          obtain ⟨gc, uv, e0, e1, hR⟩ := x15.get
          subst e0
          refine wpOp_step rfl fun K' hK => ?_
          rw [if_pos (by rfl)]
          go_simp
          exact hK _ _ ⟨_, _, _, _, _, _, _, _, _, _, _, _, _, _, _, _, _, _, _, _, rfl, H.o16 hR⟩
        · cases ho
          have e9 := H.c9 (haf_of haf 9 (by kernel_rfl))
          subst e9
          have n21 : L.getD 21 false = false := by
            cases hx : L.getD 21 false
            · rfl
            · exact (notl hL (H.g21 hx 17 (by decide))).elim
          have x16 := H.c16 (haf_of haf 16 (by kernel_rfl)) n21
          obtain ⟨BV, hV⟩ := x16
          refine wpOp_step rfl fun K' hK => ?_
          rw [if_pos (by rfl)]
          go_simp
          refine (cuVertex_any _ B _ _ _ l y (FS.below HT2.out H.bel) (by rw [HSL.out.hy]; exact hV) HL.out HSL.out.my).mono ?_
          rintro e w1 ⟨rfl, hg⟩
          exact hK _ _ ⟨_, _, _, _, _, _, _, _, _, _, _, _, _, _, _, _, _, _, _, _, rfl, H.o17 hg⟩
        · refine wpOp_step rfl fun K' hK => ?_
          rw [if_pos (by rfl)]
          go_simp
          exact hK _ _ ⟨_, _, _, _, _, _, _, _, _, _, _, _, _, _, _, _, _, _, _, _, rfl, H.o18 hL⟩
        · refine wpOp_step rfl fun K' hK => ?_
          rw [if_pos (by rfl)]
          go_simp
          exact hK _ _ ⟨_, _, _, _, _, _, _, _, _, _, _, _, _, _, _, _, _, _, _, _, rfl, H.o19 hL⟩
        · cases ho
          have l18 : L.getD 18 false = true := (haf_of haf 18 (by kernel_rfl))
          have l19 : L.getD 19 false = true := (haf_of haf 19 (by kernel_rfl))
          have hall : ∀ j, j ∈ [0, 1, 2, 3, 4, 5, 6, 7, 8, 18, 19] → L.getD j false = true := by
            intro j hj
            simp only [List.mem_cons, List.not_mem_nil, or_false] at hj
            rcases hj with rfl | rfl | rfl | rfl | rfl | rfl | rfl | rfl | rfl | rfl | rfl
            · exact (haf_of haf 0 (by kernel_rfl))
            · exact (haf_of haf 1 (by kernel_rfl))
            · exact (haf_of haf 2 (by kernel_rfl))
            · exact (haf_of haf 3 (by kernel_rfl))
            · exact (haf_of haf 4 (by kernel_rfl))
            · exact (haf_of haf 5 (by kernel_rfl))
            · exact (haf_of haf 6 (by kernel_rfl))
            · exact (haf_of haf 7 (by kernel_rfl))
            · exact (haf_of haf 8 (by kernel_rfl))
            · exact (haf_of haf 18 (by kernel_rfl))
            · exact (haf_of haf 19 (by kernel_rfl))
          have e0 := H.c8 (haf_of haf 8 (by kernel_rfl))
          obtain ⟨p, hb⟩ := H.b18 l18
          obtain ⟨g, hs, hge, -⟩ := id hb
          subst e0
          subst hs
          obtain ⟨⟨k0, k1, k2, k3⟩, f0, f1, f2, f3⟩ := hb.cells
          refine wpOp_step rfl fun K' hK => ?_
          rw [if_pos (by rfl)]
          go_simp
          exact hK _ _ ⟨_, _, _, _, _, _, _, _, _, _, _, _, _, _, _, _, _, _, _, _, rfl, H.o20 hall l18 l19 rfl hb hge⟩
        · cases ho
          have l18 : L.getD 18 false = true := (haf_of haf 18 (by kernel_rfl))
          have l19 : L.getD 19 false = true := (haf_of haf 19 (by kernel_rfl))
          have hall : ∀ j, j ∈ [0, 1, 2, 3, 4, 5, 6, 7, 8, 9, 10, 11, 12, 13, 14, 15, 16, 17, 18, 19, 20] → L.getD j false = true := by
            intro j hj
            simp only [List.mem_cons, List.not_mem_nil, or_false] at hj
            rcases hj with rfl | rfl | rfl | rfl | rfl | rfl | rfl | rfl | rfl | rfl | rfl | rfl | rfl | rfl | rfl | rfl | rfl | rfl | rfl | rfl | rfl
            · exact (haf_of haf 0 (by kernel_rfl))
            · exact (haf_of haf 1 (by kernel_rfl))
            · exact (haf_of haf 2 (by kernel_rfl))
            · exact (haf_of haf 3 (by kernel_rfl))
            · exact (haf_of haf 4 (by kernel_rfl))
            · exact (haf_of haf 5 (by kernel_rfl))
            · exact (haf_of haf 6 (by kernel_rfl))
            · exact (haf_of haf 7 (by kernel_rfl))
            · exact (haf_of haf 8 (by kernel_rfl))
            · exact (haf_of haf 9 (by kernel_rfl))
            · exact (haf_of haf 10 (by kernel_rfl))
            · exact (haf_of haf 11 (by kernel_rfl))
            · exact (haf_of haf 12 (by kernel_rfl))
            · exact (haf_of haf 13 (by kernel_rfl))
            · exact (haf_of haf 14 (by kernel_rfl))
            · exact (haf_of haf 15 (by kernel_rfl))
            · exact (haf_of haf 16 (by kernel_rfl))
            · exact (haf_of haf 17 (by kernel_rfl))
            · exact (haf_of haf 18 (by kernel_rfl))
            · exact (haf_of haf 19 (by kernel_rfl))
            · exact (haf_of haf 20 (by kernel_rfl))
          have e0 := H.c17 (haf_of haf 17 (by kernel_rfl))
          obtain ⟨p, hb⟩ := H.b19 l19
          obtain ⟨g, hs, hge, -⟩ := id hb
          subst e0
          subst hs
          obtain ⟨⟨k0, k1, k2, k3⟩, f0, f1, f2, f3⟩ := hb.cells
          refine wpOp_step rfl fun K' hK => ?_
          rw [if_pos (by rfl)]
          go_simp
          exact hK _ _ ⟨_, _, _, _, _, _, _, _, _, _, _, _, _, _, _, _, _, _, _, _, rfl, H.o21 hall l18 l19 rfl hb hge⟩
      · rintro L6 a6 w6 ⟨s9, s10, s28, s29, s30, s31, s32, s33, s34, s35, s36, s37, s38, s39, s40, s41, s42, s43, s44, s45, rfl, H⟩ hr
        have hall := ready_nil H.z (by kernel_rfl) hr
        have h20 := H.e20 (hall 20 (by decide))
        have h21 := H.e21 (hall 21 (by decide))
        have hB := H.bel
        obtain ⟨g9, hs9, hg9, -⟩ := id h20
        obtain ⟨g10, hs10, hg10, -⟩ := id h21
        subst hs9
        subst hs10
        have HX := Lib.hid h20
        have HY := Lib.hid h21
        have HT6 := Lib.hid (FS.below HT2.out hB)
        have HB26 := Lib.hid hB
        have HV6 := Lib.hid (And.intro (box_o HV.out.1 hB) (box_o HV.out.2 hB))
        clear H hall hr h20 h21 hB HT2 HV
        go_upto_region 7 with fail
        refine wp_region_inv (by kernel_rfl) (fun L a' w' => ∃ s11 s46 s47 s48 s49 s50 s51 s52 s53 s54 s55 s56 s57, a' = actSm (Value.slice At l.length capt) (Value.int IntKind.i64 ↑i') (Value.int IntKind.i64 ↑k') undef undef undef (Value.pointer (some { block := w.heap.size, off := 0 })) (Value.bool false) (Value.slice (some { block := gv, off := 0 }) 2 capv) (Value.pointer (some ⟨g9, 0, none⟩)) (Value.pointer (some ⟨g10, 0, none⟩)) undef undef undef (Value.slice At l.length capt) (Value.bool true) (Value.bool false) undef (Value.slice At l.length capt) (Value.int IntKind.i64 ↑i') (Value.int IntKind.i64 ↑k') (Value.slice (some { block := w1.heap.size, off := 0 }) 2 2) (Value.slice (some { block := gv, off := 0 }) 2 capv) (Value.slice (some { block := gv, off := 0 }) 2 capv) (Value.int IntKind.i64 2) (Value.bool false) undef s28 s29 s30 s31 s32 s33 s34 s35 s36 s37 s38 s39 s40 s41 s42 s43 s44 s45 undef undef undef undef undef undef undef undef undef undef undef undef undef undef undef undef undef undef undef undef undef undef undef undef undef undef undef undef undef undef undef undef undef undef s11 s46 s47 s48 s49 s50 s51 s52 s53 s54 s55 s56 s57 ∧ IvSm w6 l At l.length capt gv capv c i' k' x L s11 s46 s47 s48 s49 s50 s51 s52 s53 s54 s55 s56 s57 w') ?_ ?_ ?_
        · exact ⟨_, _, _, _, _, _, _, _, _, _, _, _, _, rfl, IvSm.start w6 l At l.length capt gv capv c i' k' x _ _ _ _ _ _ _ _ _ _ _ _ _ ⟩
        · rintro L a' w' i ⟨s11, s46, s47, s48, s49, s50, s51, s52, s53, s54, s55, s56, s57, rfl, H⟩ hi
          obtain ⟨hL, o, ho, haf⟩ := mem_ready.1 hi
          have hiN : i < 13 := (Array.getElem?_eq_some_iff.1 ho).1
          clear hi
          obtain ⟨z0, z1⟩ := And.intro (box_o HV6.out.1 H.bel) (box_o HV6.out.2 H.bel)
          have hc := HSL.out.hc
          have hcs : i = 0 ∨ i = 1 ∨ i = 2 ∨ i = 3 ∨ i = 4 ∨ i = 5 ∨ i = 6 ∨ i = 7 ∨ i = 8 ∨ i = 9 ∨ i = 10 ∨ i = 11 ∨ i = 12 := by omega
          rcases hcs with rfl | rfl | rfl | rfl | rfl | rfl | rfl | rfl | rfl | rfl | rfl | rfl | rfl
          · cases ho
            refine wpOp_step rfl fun K' hK => ?_
            rw [if_pos (by rfl)]
            go_simp
            exact hK _ _ ⟨_, _, _, _, _, _, _, _, _, _, _, _, _, rfl, H.o0⟩
          · cases ho
            refine wpOp_step rfl fun K' hK => ?_
            rw [if_pos (by rfl)]
            go_simp
            exact hK _ _ ⟨_, _, _, _, _, _, _, _, _, _, _, _, _, rfl, H.o1⟩
          · cases ho
            have e1 := H.c1 (haf_of haf 1 (by kernel_rfl))
            subst e1
            refine wpOp_step rfl fun K' hK => ?_
            rw [if_pos (by rfl)]
            go_simp
            refine (ceOf_any _ B _ l (FS.below HT6.out H.bel) HL.out).mono ?_
            rintro e w1 ⟨r, C, rfl, hC, eC, hg⟩
            have hR : RcL l w1 r := RcL.of hC eC
            exact hK _ _ ⟨_, _, _, _, _, _, _, _, _, _, _, _, _, rfl, H.o2 hg hR⟩
          · cases ho
            refine wpOp_step rfl fun K' hK => ?_
            rw [if_pos (by rfl)]
            go_simp
            exact hK _ _ ⟨_, _, _, _, _, _, _, _, _, _, _, _, _, rfl, H.o3⟩
          · cases ho
            have e3 := H.c3 (haf_of haf 3 (by kernel_rfl))
            subst e3
            refine wpOp_step rfl fun K' hK => ?_
            rw [if_pos (by rfl)]
            go_simp
            exact hK _ _ ⟨_, _, _, _, _, _, _, _, _, _, _, _, _, rfl, H.o4⟩
          · cases ho
            have e4 := H.c4 (haf_of haf 4 (by kernel_rfl))
            subst e4
            refine wpOp_step rfl fun K' hK => ?_
            rw [if_pos (by rfl)]
            go_simp
            exact hK _ _ ⟨_, _, _, _, _, _, _, _, _, _, _, _, _, rfl, H.o5⟩
          · cases ho
            have e5 := H.c5 (haf_of haf 5 (by kernel_rfl))
            subst e5
            have x2 := H.c2 (haf_of haf 2 (by kernel_rfl))
            obtain ⟨A, cap, m, gc, e0, e1, hm, hR⟩ := x2.at hc
            subst e0
            subst e1
            refine wpOp_step rfl fun K' hK => ?_
            rw [if_pos (by rfl)]
            go_simp
            exact hK _ _ ⟨_, _, _, _, _, _, _, _, _, _, _, _, _, rfl, H.o6 hR⟩
          · cases ho
            have x6 := H.c6 (haf_of haf 6 (by kernel_rfl))
            obtain ⟨gc, uv, e0, e1, hR⟩ := x6.get
            subst e0
            refine wpOp_step rfl fun K' hK => ?_
            rw [if_pos (by rfl)]
            go_simp
            exact hK _ _ ⟨_, _, _, _, _, _, _, _, _, _, _, _, _, rfl, H.o7 hR⟩
          · cases ho
            refine wpOp_step rfl fun K' hK => ?_
            rw [if_pos (by rfl)]
            go_simp
            exact hK _ _ ⟨_, _, _, _, _, _, _, _, _, _, _, _, _, rfl, H.o8⟩
          · cases ho
            refine wpOp_step rfl fun K' hK => ?_
            rw [if_pos (by rfl)]
            go_simp
            exact hK _ _ ⟨_, _, _, _, _, _, _, _, _, _, _, _, _, rfl, H.o9⟩
          · cases ho
            have e8 := H.c8 (haf_of haf 8 (by kernel_rfl))
            subst e8
            have e9 := H.c9 (haf_of haf 9 (by kernel_rfl))
            subst e9
            have hg : Below w'.heap.size w' (w'.alloc (.cells #[.int .i64 (i' : Int), .int .i64 (k' : Int)] 3)) := (Below.refl _ _).alloc (Nat.le_refl _) _
            have hR : RcS i' k' (w'.alloc (.cells #[.int .i64 (i' : Int), .int .i64 (k' : Int)] 3)) (.slice (some ⟨w'.heap.size, 0, none⟩) 2 2) := ⟨w'.heap.size, World.ownsRow_lit w' #[.int .i64 (i' : Int), .int .i64 (k' : Int)] 2 (Nat.le_refl _) (by decide) rfl⟩
            refine wpOp_step rfl fun K' hK => ?_
            rw [if_pos (by rfl)]
            go_simp
            exact hK _ _ ⟨_, _, _, _, _, _, _, _, _, _, _, _, _, rfl, H.o10 hg hR⟩
          · cases ho
            have e0 := H.c0 (haf_of haf 0 (by kernel_rfl))
            subst e0
            have x7 := H.c7 (haf_of haf 7 (by kernel_rfl))
            have x10 := H.c10 (haf_of haf 10 (by kernel_rfl))
            obtain ⟨BV, hV⟩ := x7
            obtain ⟨BS, hS⟩ := x10
            refine wpOp_step rfl fun K' hK => ?_
            rw [if_pos (by rfl)]
            go_simp
            refine (cuEnd_any _ B _ _ _ _ _ l x i' k' (FS.below HT6.out H.bel) (by rw [HSL.out.hx]; exact hV) hS HL.out HSL.out.mx HSL.out.sx).mono ?_
            rintro e w1 ⟨r, rfl, hE, hg⟩
            have hR : RcE l x i' k' w1 r := ⟨_, hE⟩
            exact hK _ _ ⟨_, _, _, _, _, _, _, _, _, _, _, _, _, rfl, H.o11 hg hR⟩
          · cases ho
            have x11 := H.c11 (haf_of haf 11 (by kernel_rfl))
            have hR := x11
            refine wpOp_step rfl fun K' hK => ?_
            rw [if_pos (by rfl)]
            go_simp
            exact hK _ _ ⟨_, _, _, _, _, _, _, _, _, _, _, _, _, rfl, H.o12 hR⟩
        · rintro L7 a7 w7 ⟨s11, s46, s47, s48, s49, s50, s51, s52, s53, s54, s55, s56, s57, rfl, H⟩ hr
          have hall := ready_nil H.z (by kernel_rfl) hr
          have hE := H.c12 (hall 12 (by decide))
          obtain ⟨BE, hE⟩ := hE
          have hB := H.bel
          have HX7 := Lib.hid (HX.out.gr hB)
          have HY7 := Lib.hid (HY.out.gr hB)
          have HB27 := Lib.hid (bel2 HB26.out hB)
          obtain ⟨Ae, cape, he, -, hpe⟩ := hE.parts
          rw [enT_len] at he hpe
          subst he
          obtain ⟨ge, rfl, d0⟩ := hpe 0 (by omega)
          obtain ⟨ge', hge, d1⟩ := hpe 1 (by omega)
          cases hge
          obtain ⟨dx, hdx⟩ : ∃ t, t = gd (enT l x i' k') 0 := ⟨_, rfl⟩
          obtain ⟨dy, hdy⟩ : ∃ t, t = gd (enT l x i' k') 1 := ⟨_, rfl⟩
          have HEB := Lib.hid (en_bd HL.out (Nat.lt_trans HSL.out.ik HSL.out.kl) HSL.out.kl (Nat.ne_of_lt HSL.out.ik) x)
          have HYES := Lib.hid HSL.out.yes
          rw [← hdx, ← hdy] at HEB HYES
          rw [← hdx] at d0
          rw [← hdy] at d1
          have HE := Lib.hid (And.intro d0 d1)
          clear H hall hr hB hE hpe hdx hdy d0 d1 HX HY HT6 HB26 HV6
          go_upto_region 8 with fail
          refine wp_region_inv (by kernel_rfl) (fun L a' w' => ∃ s12 s13 s58 s59 s60 s61, a' = actSn (Value.slice At l.length capt) (Value.int IntKind.i64 ↑i') (Value.int IntKind.i64 ↑k') undef undef undef (Value.pointer (some { block := w.heap.size, off := 0 })) (Value.bool false) (Value.slice (some { block := gv, off := 0 }) 2 capv) (Value.pointer (some ⟨g9, 0, none⟩)) (Value.pointer (some ⟨g10, 0, none⟩)) (Value.slice (some ⟨ge, 0, none⟩) 3 cape) undef (Value.slice At l.length capt) (Value.bool true) (Value.bool false) undef (Value.slice At l.length capt) (Value.int IntKind.i64 ↑i') (Value.int IntKind.i64 ↑k') (Value.slice (some { block := w1.heap.size, off := 0 }) 2 2) (Value.slice (some { block := gv, off := 0 }) 2 capv) (Value.slice (some { block := gv, off := 0 }) 2 capv) (Value.int IntKind.i64 2) (Value.bool false) undef s28 s29 s30 s31 s32 s33 s34 s35 s36 s37 s38 s39 s40 s41 s42 s43 s44 s45 s46 s47 s48 s49 s50 s51 s52 s53 s54 s55 s56 s57 undef undef undef undef undef undef undef undef undef undef undef undef undef undef undef undef undef undef undef undef undef undef undef undef undef undef undef undef undef undef s12 s13 s58 s59 s60 s61 ∧ IvSn w7 ge cape dx L s12 s13 s58 s59 s60 s61 w') ?_ ?_ ?_
          · exact ⟨_, _, _, _, _, _, rfl, IvSn.start w7 ge cape dx _ _ _ _ _ _ ⟩
          · rintro L a' w' i ⟨s12, s13, s58, s59, s60, s61, rfl, H⟩ hi
            obtain ⟨hL, o, ho, haf⟩ := mem_ready.1 hi
            have hiN : i < 7 := (Array.getElem?_eq_some_iff.1 ho).1
            clear hi
            have z0 := box_o HE.out.1 H.bel
            have hcs : i = 0 ∨ i = 1 ∨ i = 2 ∨ i = 3 ∨ i = 4 ∨ i = 5 ∨ i = 6 := by omega
            rcases hcs with rfl | rfl | rfl | rfl | rfl | rfl | rfl
            · cases ho
              refine wpOp_step rfl fun K' hK => ?_
              rw [if_pos (by rfl)]
              go_simp
              exact hK _ _ ⟨_, _, _, _, _, _, rfl, H.o0⟩
            · cases ho
              refine wpOp_step rfl fun K' hK => ?_
              rw [if_pos (by rfl)]
              go_simp
              exact hK _ _ ⟨_, _, _, _, _, _, rfl, H.o1⟩
            · cases ho
              have e1 := H.c1 (haf_of haf 1 (by kernel_rfl))
              subst e1
              refine wpOp_step rfl fun K' hK => ?_
              rw [if_pos (by rfl)]
              go_simp
              exact hK _ _ ⟨_, _, _, _, _, _, rfl, H.o2⟩
            · cases ho
              have e2 := H.c2 (haf_of haf 2 (by kernel_rfl))
              subst e2
              refine wpOp_step rfl fun K' hK => ?_
              rw [if_pos (by rfl)]
              go_simp
              exact hK _ _ ⟨_, _, _, _, _, _, rfl, H.o3⟩
            · refine wpOp_step rfl fun K' hK => ?_
              rw [if_pos (by rfl)]
              go_simp
              exact hK _ _ ⟨_, _, _, _, _, _, rfl, H.o4 hL⟩
            · cases ho
              have l4 : L.getD 4 false = true := (haf_of haf 4 (by kernel_rfl))
              have hall : ∀ j, j ∈ [0, 4] → L.getD j false = true := by
                intro j hj
                simp only [List.mem_cons, List.not_mem_nil, or_false] at hj
                rcases hj with rfl | rfl
                · exact (haf_of haf 0 (by kernel_rfl))
                · exact (haf_of haf 4 (by kernel_rfl))
              have e0 := H.c0 (haf_of haf 0 (by kernel_rfl))
              obtain ⟨p, hb⟩ := H.b4 l4
              obtain ⟨g, hs, hge, -⟩ := id hb
              subst e0
              subst hs
              obtain ⟨⟨k0, k1⟩, f0, f1⟩ := hb.cells
              refine wpOp_step rfl fun K' hK => ?_
              rw [if_pos (by rfl)]
              go_simp
              exact hK _ _ ⟨_, _, _, _, _, _, rfl, H.o5 hall l4 rfl hb hge⟩
            · cases ho
              have e3 := H.c3 (haf_of haf 3 (by kernel_rfl))
              subst e3
              refine wpOp_step rfl fun K' hK => ?_
              rw [if_pos (by rfl)]
              go_simp
              exact hK _ _ ⟨_, _, _, _, _, _, rfl, H.o6⟩
          · rintro L8 a8 w8 ⟨s12, s13, s58, s59, s60, s61, rfl, H⟩ hr
            have hall := ready_nil H.z (by kernel_rfl) hr
            have h5 := H.e5 (hall 5 (by decide))
            obtain ⟨g12, hs12, hg12, -⟩ := id h5
            subst hs12
            have e13 := H.c6 (hall 6 (by decide))
            subst e13
            have hB := H.bel
            have HX8 := Lib.hid (HX7.out.gr hB)
            have HY8 := Lib.hid (HY7.out.gr hB)
            have HB28 := Lib.hid (bel2 HB27.out hB)
            have HQ8 := Lib.hid h5
            have HE8 := Lib.hid (box_o HE.out.2 hB)
            have hge : w2.heap.size ≤ g12 := Nat.le_trans HB27.out.size hg12
            have HFX := Lib.hid (vx_fr HL.out HSL.out.mx)
            have HFY := Lib.hid (vx_fr HL.out HSL.out.my)
            obtain ⟨⟨a0, a1, a2, a3⟩, -⟩ := HX8.out.cells
            obtain ⟨⟨b0, b1, b2, b3⟩, -⟩ := HY8.out.cells
            obtain ⟨⟨q0, q1⟩, f0, f1⟩ := HQ8.out.cells
            have e1 := HE8.out
            clear H hall hr hB h5 HX7 HY7 HB27 HE
            by_cases hdx : dx = 0
            · subst hdx
              have HS := Lib.hid (fun W => frSub_ty HFX.out.2 HFY.out.2 W)
              have HD := Lib.hid (fun (ht : tyB (vyN l x) (vyD l x) (vyN l y) (vyD l y) = true) W => frDiv_ty ht HEB.out.2 W)
              obtain ⟨a, ha⟩ : ∃ t, t = vyN l x := ⟨_, rfl⟩
              obtain ⟨b, hb⟩ : ∃ t, t = vyD l x := ⟨_, rfl⟩
              obtain ⟨c', hc'⟩ : ∃ t, t = vyN l y := ⟨_, rfl⟩
              obtain ⟨d', hd'⟩ : ∃ t, t = vyD l y := ⟨_, rfl⟩
              have HG := Lib.hid (fun (w' : World) (e : Ending) (H : GivesTq a b c' d' dy w e w') => show GivesSl l i' k' w e w' from by
                unfold GivesSl
                rw [HYES.out, HYES.out, HYES.out]
                rw [ha, hb, hc', hd'] at H
                exact gsl_y rfl H)
              simp only [← ha, ← hb, ← hc', ← hd'] at HS HD
              have t0 : w8.cell? ⟨g9, 2, none⟩ = some (.int .i64 a) := by rw [ha]; exact a2
              have t1 : w8.cell? ⟨g9, 3, none⟩ = some (.int .i64 b) := by rw [hb]; exact a3
              have t2 : w8.cell? ⟨g10, 2, none⟩ = some (.int .i64 c') := by rw [hc']; exact b2
              have t3 : w8.cell? ⟨g10, 3, none⟩ = some (.int .i64 d') := by rw [hd']; exact b3
              clear a0 a1 a2 a3 b0 b1 b2 b3 ha hb hc' hd' q0 q1 f0 f1
              go_wp2_with fail
              refine (HS.out _).mono ?_
              rintro e w9 ⟨rfl, b9⟩
              obtain ⟨⟨q0, q1⟩, f0, f1⟩ := (HQ8.out.gr b9).cells
              have HB9 := Lib.hid (bel2 HB28.out b9)
              have HF9 := Lib.hid (show F2 w9 g12 0 0 from ⟨q0, q1, f0, f1⟩)
              have hBS := belS (belS HB9.out hge 0 (.int .i64 (tyN a b c' d'))) hge 1 (.int .i64 (tyD a b c' d'))
              have HFS := Lib.hid (HF9.out.store (tyN a b c' d') (tyD a b c' d'))
              have HBS := Lib.hid hBS
              have HRS := Lib.hid (HR2.out.below hBS)
              obtain ⟨c0, c1, cf0, cf1⟩ := HRS.out
              clear t0 t1 t2 t3 e1 b9 hBS
              cases ht : tyB a b c' d'
              · go_wp2_with fail
                refine bodyPost_ret ((F2.store ⟨c0, c1, cf0, cf1⟩ _ _).results rfl rfl rfl) rfl ?_
                exact HG.out _ _ (givesTq_no ht (belS (belS (bel2 HB2.out HBS.out) (by omega) _ _) (by omega) _ _))
              · go_upto_region 16 with fail
                generalize (w9.setCell ⟨g12, 0, none⟩ (.int .i64 (tyN a b c' d'))).setCell ⟨g12, 1, none⟩ (.int .i64 (tyD a b c' d')) = w10 at HFS HBS HRS c0 c1 cf0 cf1 ⊢
                obtain ⟨d0, d1, -, -⟩ := HFS.out
                have HB10 := Lib.hid (bel2 HB2.out HBS.out)
                have HD2 := Lib.hid (fun W => HD.out ht W)
                clear q0 q1 f0 f1 c0 c1 cf0 cf1
                go_region_with (first | (go_at_call 58; refine (frInt_any _ _).mono ?_; rintro e x1 ⟨rfl, b1⟩; (obtain ⟨d0a, d1a, -, -⟩ := HFS.out.drew.below b1); (have HRa := Lib.hid (HRS.out.drew.below b1)); (have HBa := Lib.hid (bel2 HB10.out.drew b1))) | (go_at_call 57; refine (HD2.out _).mono ?_; rintro e x2 ⟨rfl, b2⟩; obtain ⟨e0b, e1b, e2b, e3b⟩ := id (HRa.out.below b2); (have HBb := Lib.hid (bel2 HBa.out b2))))
                all_goals
                  go_wp2_with fail
                  refine bodyPost_ret ((F2.store ⟨e0b, e1b, e2b, e3b⟩ _ _).results rfl rfl rfl) rfl ?_
                  exact HG.out _ _ (givesTq_yes ht rfl rfl rfl (belS (belS HBb.out (by omega) _ _) (by omega) _ _))
            · skip
              have HS := Lib.hid (fun W => frSub_ty HFX.out.1 HFY.out.1 W)
              have HD := Lib.hid (fun (ht : tyB (vxN l x) (vxD l x) (vxN l y) (vxD l y) = true) W => frDiv_ty ht HEB.out.1 W)
              obtain ⟨a, ha⟩ : ∃ t, t = vxN l x := ⟨_, rfl⟩
              obtain ⟨b, hb⟩ : ∃ t, t = vxD l x := ⟨_, rfl⟩
              obtain ⟨c', hc'⟩ : ∃ t, t = vxN l y := ⟨_, rfl⟩
              obtain ⟨d', hd'⟩ : ∃ t, t = vxD l y := ⟨_, rfl⟩
              have HG := Lib.hid (fun (w' : World) (e : Ending) (H : GivesTq a b c' d' dx w e w') => show GivesSl l i' k' w e w' from by
                unfold GivesSl
                rw [HYES.out, HYES.out, HYES.out]
                rw [ha, hb, hc', hd'] at H
                exact gsl_x hdx H)
              simp only [← ha, ← hb, ← hc', ← hd'] at HS HD
              have t0 : w8.cell? ⟨g9, 0, none⟩ = some (.int .i64 a) := by rw [ha]; exact a0
              have t1 : w8.cell? ⟨g9, 1, none⟩ = some (.int .i64 b) := by rw [hb]; exact a1
              have t2 : w8.cell? ⟨g10, 0, none⟩ = some (.int .i64 c') := by rw [hc']; exact b0
              have t3 : w8.cell? ⟨g10, 1, none⟩ = some (.int .i64 d') := by rw [hd']; exact b1
              clear a0 a1 a2 a3 b0 b1 b2 b3 ha hb hc' hd' q0 q1 f0 f1
              go_wp2_with fail
              refine (HS.out _).mono ?_
              rintro e w9 ⟨rfl, b9⟩
              obtain ⟨⟨q0, q1⟩, f0, f1⟩ := (HQ8.out.gr b9).cells
              have HB9 := Lib.hid (bel2 HB28.out b9)
              have HF9 := Lib.hid (show F2 w9 g12 0 0 from ⟨q0, q1, f0, f1⟩)
              have hBS := belS (belS HB9.out hge 0 (.int .i64 (tyN a b c' d'))) hge 1 (.int .i64 (tyD a b c' d'))
              have HFS := Lib.hid (HF9.out.store (tyN a b c' d') (tyD a b c' d'))
              have HBS := Lib.hid hBS
              have HRS := Lib.hid (HR2.out.below hBS)
              obtain ⟨c0, c1, cf0, cf1⟩ := HRS.out
              clear t0 t1 t2 t3 e1 b9 hBS
              cases ht : tyB a b c' d'
              · go_wp2_with fail
                refine bodyPost_ret ((F2.store ⟨c0, c1, cf0, cf1⟩ _ _).results rfl rfl rfl) rfl ?_
                exact HG.out _ _ (givesTq_no ht (belS (belS (bel2 HB2.out HBS.out) (by omega) _ _) (by omega) _ _))
              · go_upto_region 16 with fail
                generalize (w9.setCell ⟨g12, 0, none⟩ (.int .i64 (tyN a b c' d'))).setCell ⟨g12, 1, none⟩ (.int .i64 (tyD a b c' d')) = w10 at HFS HBS HRS c0 c1 cf0 cf1 ⊢
                obtain ⟨d0, d1, -, -⟩ := HFS.out
                have HB10 := Lib.hid (bel2 HB2.out HBS.out)
                have HD2 := Lib.hid (fun W => HD.out ht W)
                clear q0 q1 f0 f1 c0 c1 cf0 cf1
                go_region_with (first | (go_at_call 58; refine (frInt_any _ _).mono ?_; rintro e x1 ⟨rfl, b1⟩; (obtain ⟨d0a, d1a, -, -⟩ := HFS.out.drew.below b1); (have HRa := Lib.hid (HRS.out.drew.below b1)); (have HBa := Lib.hid (bel2 HB10.out.drew b1))) | (go_at_call 57; refine (HD2.out _).mono ?_; rintro e x2 ⟨rfl, b2⟩; obtain ⟨e0b, e1b, e2b, e3b⟩ := id (HRa.out.below b2); (have HBb := Lib.hid (bel2 HBa.out b2))))
                all_goals
                  go_wp2_with fail
                  refine bodyPost_ret ((F2.store ⟨e0b, e1b, e2b, e3b⟩ _ _).results rfl rfl rfl) rfl ?_
                  exact HG.out _ _ (givesTq_yes ht rfl rfl rfl (belS (belS HBb.out (by omega) _ _) (by omega) _ _))
    · obtain ⟨c0, c1, f0, f1⟩ := HR2.out
      have hB := HB2.out
      go_wp2_with fail
      refine bodyPost_ret ((F2.store ⟨c0, c1, f0, f1⟩ _ _).results rfl rfl rfl) rfl ?_
      exact givesSl_no (slB_ln h2) (belS (belS hB (by omega) _ _) (by omega) _ _)
end Go.Proofs.YtbapepflfgcioaaGreat

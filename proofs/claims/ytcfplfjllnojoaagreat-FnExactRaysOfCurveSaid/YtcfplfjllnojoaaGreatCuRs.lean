import Derived.Test.YtcfplfjllnojoaaGreatCuRm
import Derived.Test.YtcfplfjllnojoaaGreatCuI
import Derived.Lib.AppendZeros
import Derived.Laws.Cover3
/-
  The model's rays.
  Condition: the slice reads as the terms that are named.
-/
namespace Go.Proofs.YtcfplfjllnojoaaGreat
set_option linter.unusedSimpArgs false
set_option linter.unusedVariables false
open Go.ChangeShapes Go.WideShapes Go.ChangeAt Go.RowKit Go.Maps
open Go.Sort (grow)

abbrev LLI := List (List Int)
/-- An owned list; a slice of one integer; of one list; a row of lists, all else as before. -/
def RqI (b : Nat) (zs : List Int) (w : World) (v : Value) : Prop := IS w b v zs
def RqO (z : Nat) (w : World) (v : Value) : Prop := ∃ g, v = .slice (some ⟨g, 0, none⟩) 1 1 ∧ w.cell? ⟨g, 0, none⟩ = some (.int .i64 (z : Int))
def RqS (b : Nat) (zs : List Int) (w : World) (v : Value) : Prop := ∃ g z, v = .slice (some ⟨g, 0, none⟩) 1 1 ∧ w.cell? ⟨g, 0, none⟩ = some z ∧ IS w b z zs
def RqA (y : World) (Z : List (List Int)) (w : World) (v : Value) : Prop := ∃ P, LS w y.heap.size v P ∧ lls P = Z ∧ Below y.heap.size y w
theorem RqI.gr {b : Nat} {zs : List Int} {w w' : World} {v : Value} (h : RqI b zs w v) (hb : Below w.heap.size w w') : RqI b zs w' v := IS.below h hb
theorem RqO.gr {z : Nat} {w w' : World} {v : Value} (h : RqO z w v) (hb : Below w.heap.size w w') : RqO z w' v := by
  obtain ⟨g, h1, h2⟩ := h
  exact ⟨g, h1, X3.below.box_old3 h2 hb⟩
theorem RqS.gr {b : Nat} {zs : List Int} {w w' : World} {v : Value} (h : RqS b zs w v) (hb : Below w.heap.size w w') : RqS b zs w' v := by
  obtain ⟨g, z, h1, h2, h3⟩ := h
  exact ⟨g, z, h1, X3.below.box_old3 h2 hb, IS.below h3 hb⟩
theorem nl5 {L : Array Bool} {i : Nat} (h : L.getD i true = false) : L.getD i false = false := by
  cases hx : L.getD i false
  · rfl
  · exact (notl h hx).elim
/-- The cells' slice; the place of a cell in it; a cell; an end. -/
def RqL (l : List Tm) (w : World) (v : Value) : Prop := ∃ (C : VL) (A : Option Addr) (cap B : Nat), v = .slice A C.length cap ∧ lls C = ceL l ∧ LS w B (.slice A C.length cap) C
def RqV (l : List Tm) (k : Nat) (w : World) (v : Value) : Prop := ∃ B, IS w B v ((ceL l).getD k [])
def RqP (l : List Tm) (k : Nat) (w : World) (v : Value) : Prop := ∃ g u, v = .pointer (some ⟨g, k, none⟩) ∧ w.cell? ⟨g, k, none⟩ = some u ∧ RqV l k w u
def RqE (l : List Tm) (x : List Int) (i k : Nat) (w : World) (v : Value) : Prop := ∃ B, IS w B v (enT l x i k)
theorem RqV.gr {l : List Tm} {k : Nat} {w w' : World} {v : Value} (h : RqV l k w v) (hb : Below w.heap.size w w') : RqV l k w' v := h.imp fun _ q => q.below hb
theorem RqE.gr {l : List Tm} {x : List Int} {i k : Nat} {w w' : World} {v : Value} (h : RqE l x i k w v) (hb : Below w.heap.size w w') : RqE l x i k w' v := h.imp fun _ q => q.below hb
theorem RqP.gr {l : List Tm} {k : Nat} {w w' : World} {v : Value} (h : RqP l k w v) (hb : Below w.heap.size w w') : RqP l k w' v := by
  obtain ⟨g, u, h1, h2, h4⟩ := h
  exact ⟨g, u, h1, X3.below.box_old3 h2 hb, h4.gr hb⟩
theorem RqL.gr {l : List Tm} {w w' : World} {v : Value} (h : RqL l w v) (hb : Below w.heap.size w w') : RqL l w' v := by
  obtain ⟨C, A, cap, B, h1, h2, h3⟩ := h
  exact ⟨C, A, cap, B, h1, h2, h3.below hb⟩
theorem RqL.of {l : List Tm} {w : World} {B : Nat} {v : Value} {C : VL} (h : LS w B v C) (e : lls C = ceL l) : RqL l w v := by
  obtain ⟨A, cap, rfl, -, -⟩ := h.parts
  exact ⟨C, A, cap, B, rfl, e, h⟩
theorem RqL.at {l : List Tm} {w : World} {v : Value} (h : RqL l w v) {k : Nat} (hk : k < (ceL l).length) : ∃ (A : Option Addr) (cap m gc : Nat), v = .slice A m cap ∧ A = some ⟨gc, 0, none⟩ ∧ k < m ∧ RqP l k w (.pointer (some ⟨gc, k, none⟩)) := by
  obtain ⟨C, A, cap, B, h1, h2, h3⟩ := h
  obtain ⟨A', cap', he, -, hp⟩ := h3.parts
  simp only [Value.slice.injEq] at he
  obtain ⟨rfl, -, -⟩ := he
  have hC : k < C.length := by rw [← h2, lls_len] at hk; exact hk
  obtain ⟨gc, rfl, e0⟩ := hp k hC
  refine ⟨_, cap, C.length, gc, h1, rfl, hC, gc, pvl C k, rfl, e0, B, ?_⟩
  have := h3.2.at hC
  rwa [show pll C k = (ceL l).getD k [] by rw [← h2, List.getD_eq_getElem?_getD, lls_at hC]; rfl] at this
theorem RqP.get {l : List Tm} {k : Nat} {w : World} {v : Value} (h : RqP l k w v) : ∃ gc u, v = .pointer (some ⟨gc, k, none⟩) ∧ w.cell? ⟨gc, k, none⟩ = some u ∧ RqV l k w u := h
theorem RqA.gr {y : World} {Z : LLI} {w w' : World} {v : Value} (h : RqA y Z w v) (hb : Below w.heap.size w w') : RqA y Z w' v := by
  obtain ⟨P, h1, h2, h3⟩ := h
  exact ⟨P, h1.below hb, h2, bel2 h3 hb⟩
abbrev actRq (q0 q1 q2 q3 q5 q6 q7 q8 q9 q10 q11 q12 q13 q14 q15 q16 q17 q18 q19 q20 q21 q22 q23 q45 q46 : Value) (s4 s24 s25 s26 s27 s28 s29 s30 s31 s32 s33 s34 s35 s36 s37 s38 s39 s40 s41 s42 s43 s44 : Value) : Act := { tmps := #[q0, q1, q2, q3, s4, q5, q6, q7, q8, q9, q10, q11, q12, q13, q14, q15, q16, q17, q18, q19, q20, q21, q22, q23, s24, s25, s26, s27, s28, s29, s30, s31, s32, s33, s34, s35, s36, s37, s38, s39, s40, s41, s42, s43, s44, q45, q46], defers := [] }
/-- What is known when some operations are done. -/
structure IvRq (x : World) (l : List Tm) (y : World) (Z : LLI) (tA oA sA : Option Addr) (n nt np oc sc gv cv b0 c i k : Nat) (L : Array Bool) (s4 s24 s25 s26 s27 s28 s29 s30 s31 s32 s33 s34 s35 s36 s37 s38 s39 s40 s41 s42 s43 s44 : Value) (w : World) : Prop where
  z : L.size = 22
  bel : (L.getD 20 false = false) → Below x.heap.size x w
  c0 : (L.getD 0 false = true) → s24 = .slice oA np oc
  c1 : (L.getD 1 false = true) → s25 = .slice sA 2 sc
  c2 : (L.getD 2 false = true) → (L.getD 7 false = false) → RqI b0 [(i : Int), (k : Int)] w s26
  c3 : (L.getD 3 false = true) → s27 = .slice (some ⟨gv, 0, none⟩) 1 cv
  c4 : (L.getD 4 false = true) → s28 = .pointer (some ⟨gv, 0, none⟩)
  c5 : (L.getD 5 false = true) → s29 = .int .i64 (c : Int)
  c6 : (L.getD 6 false = true) → (L.getD 7 false = false) → RqO c w s30
  c7 : (L.getD 7 false = true) → (L.getD 18 false = false) → RqI b0 [(i : Int), (k : Int), (c : Int)] w s31
  c8 : (L.getD 8 false = true) → s32 = .slice tA n nt
  c9 : (L.getD 9 false = true) → s33 = .slice tA n nt
  c10 : (L.getD 10 false = true) → (L.getD 18 false = false) → RqL l w s34
  c11 : (L.getD 11 false = true) → s35 = .slice (some ⟨gv, 0, none⟩) 1 cv
  c12 : (L.getD 12 false = true) → s36 = .pointer (some ⟨gv, 0, none⟩)
  c13 : (L.getD 13 false = true) → s37 = .int .i64 (c : Int)
  c14 : (L.getD 14 false = true) → (L.getD 18 false = false) → RqP l c w s38
  c15 : (L.getD 15 false = true) → (L.getD 18 false = false) → RqV l c w s39
  c16 : (L.getD 16 false = true) → s40 = .slice sA 2 sc
  c17 : (L.getD 17 false = true) → (L.getD 18 false = false) → RqE l ((ceL l).getD c []) i k w s41
  c18 : (L.getD 18 false = true) → (L.getD 20 false = false) → RqI b0 ([(i : Int), (k : Int), (c : Int)] ++ enT l ((ceL l).getD c []) i k) w s42
  c19 : (L.getD 19 false = true) → (L.getD 20 false = false) → RqS b0 ([(i : Int), (k : Int), (c : Int)] ++ enT l ((ceL l).getD c []) i k) w s43
  c20 : (L.getD 20 false = true) → RqA y Z w s44
  c21 : (L.getD 21 false = true) → RqA y Z w s4
  g2 : (L.getD 2 false = true) → ∀ j, j ∈ [1] → L.getD j false = true
  g4 : (L.getD 4 false = true) → ∀ j, j ∈ [3] → L.getD j false = true
  g5 : (L.getD 5 false = true) → ∀ j, j ∈ [3, 4] → L.getD j false = true
  g6 : (L.getD 6 false = true) → ∀ j, j ∈ [3, 4, 5] → L.getD j false = true
  g7 : (L.getD 7 false = true) → ∀ j, j ∈ [1, 2, 3, 4, 5, 6] → L.getD j false = true
  g10 : (L.getD 10 false = true) → ∀ j, j ∈ [1, 2, 3, 4, 5, 6, 7, 9] → L.getD j false = true
  g12 : (L.getD 12 false = true) → ∀ j, j ∈ [11] → L.getD j false = true
  g13 : (L.getD 13 false = true) → ∀ j, j ∈ [11, 12] → L.getD j false = true
  g14 : (L.getD 14 false = true) → ∀ j, j ∈ [1, 2, 3, 4, 5, 6, 7, 9, 10, 11, 12, 13] → L.getD j false = true
  g15 : (L.getD 15 false = true) → ∀ j, j ∈ [1, 2, 3, 4, 5, 6, 7, 9, 10, 11, 12, 13, 14] → L.getD j false = true
  g17 : (L.getD 17 false = true) → ∀ j, j ∈ [1, 2, 3, 4, 5, 6, 7, 8, 9, 10, 11, 12, 13, 14, 15, 16] → L.getD j false = true
  g18 : (L.getD 18 false = true) → ∀ j, j ∈ [1, 2, 3, 4, 5, 6, 7, 8, 9, 10, 11, 12, 13, 14, 15, 16, 17] → L.getD j false = true
  g19 : (L.getD 19 false = true) → ∀ j, j ∈ [1, 2, 3, 4, 5, 6, 7, 8, 9, 10, 11, 12, 13, 14, 15, 16, 17, 18] → L.getD j false = true
  g20 : (L.getD 20 false = true) → ∀ j, j ∈ [0, 1, 2, 3, 4, 5, 6, 7, 8, 9, 10, 11, 12, 13, 14, 15, 16, 17, 18, 19] → L.getD j false = true
  g21 : (L.getD 21 false = true) → ∀ j, j ∈ [0, 1, 2, 3, 4, 5, 6, 7, 8, 9, 10, 11, 12, 13, 14, 15, 16, 17, 18, 19, 20] → L.getD j false = true
  i4 : (L.getD 21 false = false) → s4 = .slice oA np oc
theorem IvRq.start (x : World) (l : List Tm) (y : World) (Z : LLI) (tA oA sA : Option Addr) (n nt np oc sc gv cv b0 c i k : Nat) (s24 s25 s26 s27 s28 s29 s30 s31 s32 s33 s34 s35 s36 s37 s38 s39 s40 s41 s42 s43 s44 : Value) : IvRq x l y Z tA oA sA n nt np oc sc gv cv b0 c i k (Array.replicate 22 false) (.slice oA np oc) s24 s25 s26 s27 s28 s29 s30 s31 s32 s33 s34 s35 s36 s37 s38 s39 s40 s41 s42 s43 s44 x.drew where
  z := rfl
  bel := fun _ => belD (Below.refl _ _)
  c0 := fun h => by simp at h
  c1 := fun h => by simp at h
  c2 := fun h => by simp at h
  c3 := fun h => by simp at h
  c4 := fun h => by simp at h
  c5 := fun h => by simp at h
  c6 := fun h => by simp at h
  c7 := fun h => by simp at h
  c8 := fun h => by simp at h
  c9 := fun h => by simp at h
  c10 := fun h => by simp at h
  c11 := fun h => by simp at h
  c12 := fun h => by simp at h
  c13 := fun h => by simp at h
  c14 := fun h => by simp at h
  c15 := fun h => by simp at h
  c16 := fun h => by simp at h
  c17 := fun h => by simp at h
  c18 := fun h => by simp at h
  c19 := fun h => by simp at h
  c20 := fun h => by simp at h
  c21 := fun h => by simp at h
  g2 := fun h => by simp at h
  g4 := fun h => by simp at h
  g5 := fun h => by simp at h
  g6 := fun h => by simp at h
  g7 := fun h => by simp at h
  g10 := fun h => by simp at h
  g12 := fun h => by simp at h
  g13 := fun h => by simp at h
  g14 := fun h => by simp at h
  g15 := fun h => by simp at h
  g17 := fun h => by simp at h
  g18 := fun h => by simp at h
  g19 := fun h => by simp at h
  g20 := fun h => by simp at h
  g21 := fun h => by simp at h
  i4 := fun _ => rfl
theorem IvRq.o0 {x : World} {l : List Tm} {y : World} {Z : LLI} {tA oA sA : Option Addr} {n nt np oc sc gv cv b0 c i k : Nat} {L : Array Bool} {s4 s24 s25 s26 s27 s28 s29 s30 s31 s32 s33 s34 s35 s36 s37 s38 s39 s40 s41 s42 s43 s44 : Value} {w : World} (H : IvRq x l y Z tA oA sA n nt np oc sc gv cv b0 c i k L s4 s24 s25 s26 s27 s28 s29 s30 s31 s32 s33 s34 s35 s36 s37 s38 s39 s40 s41 s42 s43 s44 w) (hN : L.getD 0 true = false) : IvRq x l y Z tA oA sA n nt np oc sc gv cv b0 c i k (L.setIfInBounds 0 true) s4 (.slice oA np oc) s25 s26 s27 s28 s29 s30 s31 s32 s33 s34 s35 s36 s37 s38 s39 s40 s41 s42 s43 s44 w where
  z := by rw [Array.size_setIfInBounds]; exact H.z
  bel := fun n => (H.bel (by rwa [getD_set_ne _ (by decide)] at n))
  c0 := fun _ => rfl
  c1 := fun h => H.c1 (by rwa [getD_set_ne _ (by decide)] at h)
  c2 := fun h n => H.c2 (by rwa [getD_set_ne _ (by decide)] at h) (by rwa [getD_set_ne _ (by decide)] at n)
  c3 := fun h => H.c3 (by rwa [getD_set_ne _ (by decide)] at h)
  c4 := fun h => H.c4 (by rwa [getD_set_ne _ (by decide)] at h)
  c5 := fun h => H.c5 (by rwa [getD_set_ne _ (by decide)] at h)
  c6 := fun h n => H.c6 (by rwa [getD_set_ne _ (by decide)] at h) (by rwa [getD_set_ne _ (by decide)] at n)
  c7 := fun h n => H.c7 (by rwa [getD_set_ne _ (by decide)] at h) (by rwa [getD_set_ne _ (by decide)] at n)
  c8 := fun h => H.c8 (by rwa [getD_set_ne _ (by decide)] at h)
  c9 := fun h => H.c9 (by rwa [getD_set_ne _ (by decide)] at h)
  c10 := fun h n => H.c10 (by rwa [getD_set_ne _ (by decide)] at h) (by rwa [getD_set_ne _ (by decide)] at n)
  c11 := fun h => H.c11 (by rwa [getD_set_ne _ (by decide)] at h)
  c12 := fun h => H.c12 (by rwa [getD_set_ne _ (by decide)] at h)
  c13 := fun h => H.c13 (by rwa [getD_set_ne _ (by decide)] at h)
  c14 := fun h n => H.c14 (by rwa [getD_set_ne _ (by decide)] at h) (by rwa [getD_set_ne _ (by decide)] at n)
  c15 := fun h n => H.c15 (by rwa [getD_set_ne _ (by decide)] at h) (by rwa [getD_set_ne _ (by decide)] at n)
  c16 := fun h => H.c16 (by rwa [getD_set_ne _ (by decide)] at h)
  c17 := fun h n => H.c17 (by rwa [getD_set_ne _ (by decide)] at h) (by rwa [getD_set_ne _ (by decide)] at n)
  c18 := fun h n => H.c18 (by rwa [getD_set_ne _ (by decide)] at h) (by rwa [getD_set_ne _ (by decide)] at n)
  c19 := fun h n => H.c19 (by rwa [getD_set_ne _ (by decide)] at h) (by rwa [getD_set_ne _ (by decide)] at n)
  c20 := fun h => H.c20 (by rwa [getD_set_ne _ (by decide)] at h)
  c21 := fun h => H.c21 (by rwa [getD_set_ne _ (by decide)] at h)
  g2 := fun h j hj => by
    by_cases e : j = 0
    · subst e; exact getD_set_same H.z (by decide)
    · rw [getD_set_ne _ (fun q => e q.symm)]; exact H.g2 (by rwa [getD_set_ne _ (by decide)] at h) j hj
  g4 := fun h j hj => by
    by_cases e : j = 0
    · subst e; exact getD_set_same H.z (by decide)
    · rw [getD_set_ne _ (fun q => e q.symm)]; exact H.g4 (by rwa [getD_set_ne _ (by decide)] at h) j hj
  g5 := fun h j hj => by
    by_cases e : j = 0
    · subst e; exact getD_set_same H.z (by decide)
    · rw [getD_set_ne _ (fun q => e q.symm)]; exact H.g5 (by rwa [getD_set_ne _ (by decide)] at h) j hj
  g6 := fun h j hj => by
    by_cases e : j = 0
    · subst e; exact getD_set_same H.z (by decide)
    · rw [getD_set_ne _ (fun q => e q.symm)]; exact H.g6 (by rwa [getD_set_ne _ (by decide)] at h) j hj
  g7 := fun h j hj => by
    by_cases e : j = 0
    · subst e; exact getD_set_same H.z (by decide)
    · rw [getD_set_ne _ (fun q => e q.symm)]; exact H.g7 (by rwa [getD_set_ne _ (by decide)] at h) j hj
  g10 := fun h j hj => by
    by_cases e : j = 0
    · subst e; exact getD_set_same H.z (by decide)
    · rw [getD_set_ne _ (fun q => e q.symm)]; exact H.g10 (by rwa [getD_set_ne _ (by decide)] at h) j hj
  g12 := fun h j hj => by
    by_cases e : j = 0
    · subst e; exact getD_set_same H.z (by decide)
    · rw [getD_set_ne _ (fun q => e q.symm)]; exact H.g12 (by rwa [getD_set_ne _ (by decide)] at h) j hj
  g13 := fun h j hj => by
    by_cases e : j = 0
    · subst e; exact getD_set_same H.z (by decide)
    · rw [getD_set_ne _ (fun q => e q.symm)]; exact H.g13 (by rwa [getD_set_ne _ (by decide)] at h) j hj
  g14 := fun h j hj => by
    by_cases e : j = 0
    · subst e; exact getD_set_same H.z (by decide)
    · rw [getD_set_ne _ (fun q => e q.symm)]; exact H.g14 (by rwa [getD_set_ne _ (by decide)] at h) j hj
  g15 := fun h j hj => by
    by_cases e : j = 0
    · subst e; exact getD_set_same H.z (by decide)
    · rw [getD_set_ne _ (fun q => e q.symm)]; exact H.g15 (by rwa [getD_set_ne _ (by decide)] at h) j hj
  g17 := fun h j hj => by
    by_cases e : j = 0
    · subst e; exact getD_set_same H.z (by decide)
    · rw [getD_set_ne _ (fun q => e q.symm)]; exact H.g17 (by rwa [getD_set_ne _ (by decide)] at h) j hj
  g18 := fun h j hj => by
    by_cases e : j = 0
    · subst e; exact getD_set_same H.z (by decide)
    · rw [getD_set_ne _ (fun q => e q.symm)]; exact H.g18 (by rwa [getD_set_ne _ (by decide)] at h) j hj
  g19 := fun h j hj => by
    by_cases e : j = 0
    · subst e; exact getD_set_same H.z (by decide)
    · rw [getD_set_ne _ (fun q => e q.symm)]; exact H.g19 (by rwa [getD_set_ne _ (by decide)] at h) j hj
  g20 := fun h j hj => by
    by_cases e : j = 0
    · subst e; exact getD_set_same H.z (by decide)
    · rw [getD_set_ne _ (fun q => e q.symm)]; exact H.g20 (by rwa [getD_set_ne _ (by decide)] at h) j hj
  g21 := fun h j hj => by
    by_cases e : j = 0
    · subst e; exact getD_set_same H.z (by decide)
    · rw [getD_set_ne _ (fun q => e q.symm)]; exact H.g21 (by rwa [getD_set_ne _ (by decide)] at h) j hj
  i4 := fun n => H.i4 (by rwa [getD_set_ne _ (by decide)] at n)
theorem IvRq.o1 {x : World} {l : List Tm} {y : World} {Z : LLI} {tA oA sA : Option Addr} {n nt np oc sc gv cv b0 c i k : Nat} {L : Array Bool} {s4 s24 s25 s26 s27 s28 s29 s30 s31 s32 s33 s34 s35 s36 s37 s38 s39 s40 s41 s42 s43 s44 : Value} {w : World} (H : IvRq x l y Z tA oA sA n nt np oc sc gv cv b0 c i k L s4 s24 s25 s26 s27 s28 s29 s30 s31 s32 s33 s34 s35 s36 s37 s38 s39 s40 s41 s42 s43 s44 w) (hN : L.getD 1 true = false) : IvRq x l y Z tA oA sA n nt np oc sc gv cv b0 c i k (L.setIfInBounds 1 true) s4 s24 (.slice sA 2 sc) s26 s27 s28 s29 s30 s31 s32 s33 s34 s35 s36 s37 s38 s39 s40 s41 s42 s43 s44 w where
  z := by rw [Array.size_setIfInBounds]; exact H.z
  bel := fun n => (H.bel (by rwa [getD_set_ne _ (by decide)] at n))
  c0 := fun h => H.c0 (by rwa [getD_set_ne _ (by decide)] at h)
  c1 := fun _ => rfl
  c2 := fun h n => H.c2 (by rwa [getD_set_ne _ (by decide)] at h) (by rwa [getD_set_ne _ (by decide)] at n)
  c3 := fun h => H.c3 (by rwa [getD_set_ne _ (by decide)] at h)
  c4 := fun h => H.c4 (by rwa [getD_set_ne _ (by decide)] at h)
  c5 := fun h => H.c5 (by rwa [getD_set_ne _ (by decide)] at h)
  c6 := fun h n => H.c6 (by rwa [getD_set_ne _ (by decide)] at h) (by rwa [getD_set_ne _ (by decide)] at n)
  c7 := fun h n => H.c7 (by rwa [getD_set_ne _ (by decide)] at h) (by rwa [getD_set_ne _ (by decide)] at n)
  c8 := fun h => H.c8 (by rwa [getD_set_ne _ (by decide)] at h)
  c9 := fun h => H.c9 (by rwa [getD_set_ne _ (by decide)] at h)
  c10 := fun h n => H.c10 (by rwa [getD_set_ne _ (by decide)] at h) (by rwa [getD_set_ne _ (by decide)] at n)
  c11 := fun h => H.c11 (by rwa [getD_set_ne _ (by decide)] at h)
  c12 := fun h => H.c12 (by rwa [getD_set_ne _ (by decide)] at h)
  c13 := fun h => H.c13 (by rwa [getD_set_ne _ (by decide)] at h)
  c14 := fun h n => H.c14 (by rwa [getD_set_ne _ (by decide)] at h) (by rwa [getD_set_ne _ (by decide)] at n)
  c15 := fun h n => H.c15 (by rwa [getD_set_ne _ (by decide)] at h) (by rwa [getD_set_ne _ (by decide)] at n)
  c16 := fun h => H.c16 (by rwa [getD_set_ne _ (by decide)] at h)
  c17 := fun h n => H.c17 (by rwa [getD_set_ne _ (by decide)] at h) (by rwa [getD_set_ne _ (by decide)] at n)
  c18 := fun h n => H.c18 (by rwa [getD_set_ne _ (by decide)] at h) (by rwa [getD_set_ne _ (by decide)] at n)
  c19 := fun h n => H.c19 (by rwa [getD_set_ne _ (by decide)] at h) (by rwa [getD_set_ne _ (by decide)] at n)
  c20 := fun h => H.c20 (by rwa [getD_set_ne _ (by decide)] at h)
  c21 := fun h => H.c21 (by rwa [getD_set_ne _ (by decide)] at h)
  g2 := fun h j hj => by
    by_cases e : j = 1
    · subst e; exact getD_set_same H.z (by decide)
    · rw [getD_set_ne _ (fun q => e q.symm)]; exact H.g2 (by rwa [getD_set_ne _ (by decide)] at h) j hj
  g4 := fun h j hj => by
    by_cases e : j = 1
    · subst e; exact getD_set_same H.z (by decide)
    · rw [getD_set_ne _ (fun q => e q.symm)]; exact H.g4 (by rwa [getD_set_ne _ (by decide)] at h) j hj
  g5 := fun h j hj => by
    by_cases e : j = 1
    · subst e; exact getD_set_same H.z (by decide)
    · rw [getD_set_ne _ (fun q => e q.symm)]; exact H.g5 (by rwa [getD_set_ne _ (by decide)] at h) j hj
  g6 := fun h j hj => by
    by_cases e : j = 1
    · subst e; exact getD_set_same H.z (by decide)
    · rw [getD_set_ne _ (fun q => e q.symm)]; exact H.g6 (by rwa [getD_set_ne _ (by decide)] at h) j hj
  g7 := fun h j hj => by
    by_cases e : j = 1
    · subst e; exact getD_set_same H.z (by decide)
    · rw [getD_set_ne _ (fun q => e q.symm)]; exact H.g7 (by rwa [getD_set_ne _ (by decide)] at h) j hj
  g10 := fun h j hj => by
    by_cases e : j = 1
    · subst e; exact getD_set_same H.z (by decide)
    · rw [getD_set_ne _ (fun q => e q.symm)]; exact H.g10 (by rwa [getD_set_ne _ (by decide)] at h) j hj
  g12 := fun h j hj => by
    by_cases e : j = 1
    · subst e; exact getD_set_same H.z (by decide)
    · rw [getD_set_ne _ (fun q => e q.symm)]; exact H.g12 (by rwa [getD_set_ne _ (by decide)] at h) j hj
  g13 := fun h j hj => by
    by_cases e : j = 1
    · subst e; exact getD_set_same H.z (by decide)
    · rw [getD_set_ne _ (fun q => e q.symm)]; exact H.g13 (by rwa [getD_set_ne _ (by decide)] at h) j hj
  g14 := fun h j hj => by
    by_cases e : j = 1
    · subst e; exact getD_set_same H.z (by decide)
    · rw [getD_set_ne _ (fun q => e q.symm)]; exact H.g14 (by rwa [getD_set_ne _ (by decide)] at h) j hj
  g15 := fun h j hj => by
    by_cases e : j = 1
    · subst e; exact getD_set_same H.z (by decide)
    · rw [getD_set_ne _ (fun q => e q.symm)]; exact H.g15 (by rwa [getD_set_ne _ (by decide)] at h) j hj
  g17 := fun h j hj => by
    by_cases e : j = 1
    · subst e; exact getD_set_same H.z (by decide)
    · rw [getD_set_ne _ (fun q => e q.symm)]; exact H.g17 (by rwa [getD_set_ne _ (by decide)] at h) j hj
  g18 := fun h j hj => by
    by_cases e : j = 1
    · subst e; exact getD_set_same H.z (by decide)
    · rw [getD_set_ne _ (fun q => e q.symm)]; exact H.g18 (by rwa [getD_set_ne _ (by decide)] at h) j hj
  g19 := fun h j hj => by
    by_cases e : j = 1
    · subst e; exact getD_set_same H.z (by decide)
    · rw [getD_set_ne _ (fun q => e q.symm)]; exact H.g19 (by rwa [getD_set_ne _ (by decide)] at h) j hj
  g20 := fun h j hj => by
    by_cases e : j = 1
    · subst e; exact getD_set_same H.z (by decide)
    · rw [getD_set_ne _ (fun q => e q.symm)]; exact H.g20 (by rwa [getD_set_ne _ (by decide)] at h) j hj
  g21 := fun h j hj => by
    by_cases e : j = 1
    · subst e; exact getD_set_same H.z (by decide)
    · rw [getD_set_ne _ (fun q => e q.symm)]; exact H.g21 (by rwa [getD_set_ne _ (by decide)] at h) j hj
  i4 := fun n => H.i4 (by rwa [getD_set_ne _ (by decide)] at n)
theorem IvRq.o2 {x : World} {l : List Tm} {y : World} {Z : LLI} {tA oA sA : Option Addr} {n nt np oc sc gv cv b0 c i k : Nat} {L : Array Bool} {s4 s24 s25 s26 s27 s28 s29 s30 s31 s32 s33 s34 s35 s36 s37 s38 s39 s40 s41 s42 s43 s44 : Value} {w : World} (H : IvRq x l y Z tA oA sA n nt np oc sc gv cv b0 c i k L s4 s24 s25 s26 s27 s28 s29 s30 s31 s32 s33 s34 s35 s36 s37 s38 s39 s40 s41 s42 s43 s44 w) (hN : L.getD 2 true = false) (hall : ∀ j, j ∈ [1] → L.getD j false = true) {w' : World} (hg : Below w.heap.size w w') {u : Value} (hR : RqI b0 [(i : Int), (k : Int)] w' u) : IvRq x l y Z tA oA sA n nt np oc sc gv cv b0 c i k (L.setIfInBounds 2 true) s4 s24 s25 u s27 s28 s29 s30 s31 s32 s33 s34 s35 s36 s37 s38 s39 s40 s41 s42 s43 s44 w' where
  z := by rw [Array.size_setIfInBounds]; exact H.z
  bel := fun n => bel2 (H.bel (by rwa [getD_set_ne _ (by decide)] at n)) hg
  c0 := fun h => H.c0 (by rwa [getD_set_ne _ (by decide)] at h)
  c1 := fun h => H.c1 (by rwa [getD_set_ne _ (by decide)] at h)
  c2 := fun h n => hR
  c3 := fun h => H.c3 (by rwa [getD_set_ne _ (by decide)] at h)
  c4 := fun h => H.c4 (by rwa [getD_set_ne _ (by decide)] at h)
  c5 := fun h => H.c5 (by rwa [getD_set_ne _ (by decide)] at h)
  c6 := fun h n => (H.c6 (by rwa [getD_set_ne _ (by decide)] at h) (by rwa [getD_set_ne _ (by decide)] at n)).gr hg
  c7 := fun h n => (H.c7 (by rwa [getD_set_ne _ (by decide)] at h) (by rwa [getD_set_ne _ (by decide)] at n)).gr hg
  c8 := fun h => H.c8 (by rwa [getD_set_ne _ (by decide)] at h)
  c9 := fun h => H.c9 (by rwa [getD_set_ne _ (by decide)] at h)
  c10 := fun h n => (H.c10 (by rwa [getD_set_ne _ (by decide)] at h) (by rwa [getD_set_ne _ (by decide)] at n)).gr hg
  c11 := fun h => H.c11 (by rwa [getD_set_ne _ (by decide)] at h)
  c12 := fun h => H.c12 (by rwa [getD_set_ne _ (by decide)] at h)
  c13 := fun h => H.c13 (by rwa [getD_set_ne _ (by decide)] at h)
  c14 := fun h n => (H.c14 (by rwa [getD_set_ne _ (by decide)] at h) (by rwa [getD_set_ne _ (by decide)] at n)).gr hg
  c15 := fun h n => (H.c15 (by rwa [getD_set_ne _ (by decide)] at h) (by rwa [getD_set_ne _ (by decide)] at n)).gr hg
  c16 := fun h => H.c16 (by rwa [getD_set_ne _ (by decide)] at h)
  c17 := fun h n => (H.c17 (by rwa [getD_set_ne _ (by decide)] at h) (by rwa [getD_set_ne _ (by decide)] at n)).gr hg
  c18 := fun h n => (H.c18 (by rwa [getD_set_ne _ (by decide)] at h) (by rwa [getD_set_ne _ (by decide)] at n)).gr hg
  c19 := fun h n => (H.c19 (by rwa [getD_set_ne _ (by decide)] at h) (by rwa [getD_set_ne _ (by decide)] at n)).gr hg
  c20 := fun h => (H.c20 (by rwa [getD_set_ne _ (by decide)] at h)).gr hg
  c21 := fun h => (H.c21 (by rwa [getD_set_ne _ (by decide)] at h)).gr hg
  g2 := fun _ j hj => by rw [getD_set_ne _ (by rintro rfl; exact absurd hj (by decide))]; exact hall j hj
  g4 := fun h j hj => by
    by_cases e : j = 2
    · subst e; exact getD_set_same H.z (by decide)
    · rw [getD_set_ne _ (fun q => e q.symm)]; exact H.g4 (by rwa [getD_set_ne _ (by decide)] at h) j hj
  g5 := fun h j hj => by
    by_cases e : j = 2
    · subst e; exact getD_set_same H.z (by decide)
    · rw [getD_set_ne _ (fun q => e q.symm)]; exact H.g5 (by rwa [getD_set_ne _ (by decide)] at h) j hj
  g6 := fun h j hj => by
    by_cases e : j = 2
    · subst e; exact getD_set_same H.z (by decide)
    · rw [getD_set_ne _ (fun q => e q.symm)]; exact H.g6 (by rwa [getD_set_ne _ (by decide)] at h) j hj
  g7 := fun h j hj => by
    by_cases e : j = 2
    · subst e; exact getD_set_same H.z (by decide)
    · rw [getD_set_ne _ (fun q => e q.symm)]; exact H.g7 (by rwa [getD_set_ne _ (by decide)] at h) j hj
  g10 := fun h j hj => by
    by_cases e : j = 2
    · subst e; exact getD_set_same H.z (by decide)
    · rw [getD_set_ne _ (fun q => e q.symm)]; exact H.g10 (by rwa [getD_set_ne _ (by decide)] at h) j hj
  g12 := fun h j hj => by
    by_cases e : j = 2
    · subst e; exact getD_set_same H.z (by decide)
    · rw [getD_set_ne _ (fun q => e q.symm)]; exact H.g12 (by rwa [getD_set_ne _ (by decide)] at h) j hj
  g13 := fun h j hj => by
    by_cases e : j = 2
    · subst e; exact getD_set_same H.z (by decide)
    · rw [getD_set_ne _ (fun q => e q.symm)]; exact H.g13 (by rwa [getD_set_ne _ (by decide)] at h) j hj
  g14 := fun h j hj => by
    by_cases e : j = 2
    · subst e; exact getD_set_same H.z (by decide)
    · rw [getD_set_ne _ (fun q => e q.symm)]; exact H.g14 (by rwa [getD_set_ne _ (by decide)] at h) j hj
  g15 := fun h j hj => by
    by_cases e : j = 2
    · subst e; exact getD_set_same H.z (by decide)
    · rw [getD_set_ne _ (fun q => e q.symm)]; exact H.g15 (by rwa [getD_set_ne _ (by decide)] at h) j hj
  g17 := fun h j hj => by
    by_cases e : j = 2
    · subst e; exact getD_set_same H.z (by decide)
    · rw [getD_set_ne _ (fun q => e q.symm)]; exact H.g17 (by rwa [getD_set_ne _ (by decide)] at h) j hj
  g18 := fun h j hj => by
    by_cases e : j = 2
    · subst e; exact getD_set_same H.z (by decide)
    · rw [getD_set_ne _ (fun q => e q.symm)]; exact H.g18 (by rwa [getD_set_ne _ (by decide)] at h) j hj
  g19 := fun h j hj => by
    by_cases e : j = 2
    · subst e; exact getD_set_same H.z (by decide)
    · rw [getD_set_ne _ (fun q => e q.symm)]; exact H.g19 (by rwa [getD_set_ne _ (by decide)] at h) j hj
  g20 := fun h j hj => by
    by_cases e : j = 2
    · subst e; exact getD_set_same H.z (by decide)
    · rw [getD_set_ne _ (fun q => e q.symm)]; exact H.g20 (by rwa [getD_set_ne _ (by decide)] at h) j hj
  g21 := fun h j hj => by
    by_cases e : j = 2
    · subst e; exact getD_set_same H.z (by decide)
    · rw [getD_set_ne _ (fun q => e q.symm)]; exact H.g21 (by rwa [getD_set_ne _ (by decide)] at h) j hj
  i4 := fun n => H.i4 (by rwa [getD_set_ne _ (by decide)] at n)
theorem IvRq.o3 {x : World} {l : List Tm} {y : World} {Z : LLI} {tA oA sA : Option Addr} {n nt np oc sc gv cv b0 c i k : Nat} {L : Array Bool} {s4 s24 s25 s26 s27 s28 s29 s30 s31 s32 s33 s34 s35 s36 s37 s38 s39 s40 s41 s42 s43 s44 : Value} {w : World} (H : IvRq x l y Z tA oA sA n nt np oc sc gv cv b0 c i k L s4 s24 s25 s26 s27 s28 s29 s30 s31 s32 s33 s34 s35 s36 s37 s38 s39 s40 s41 s42 s43 s44 w) (hN : L.getD 3 true = false) : IvRq x l y Z tA oA sA n nt np oc sc gv cv b0 c i k (L.setIfInBounds 3 true) s4 s24 s25 s26 (.slice (some ⟨gv, 0, none⟩) 1 cv) s28 s29 s30 s31 s32 s33 s34 s35 s36 s37 s38 s39 s40 s41 s42 s43 s44 w where
  z := by rw [Array.size_setIfInBounds]; exact H.z
  bel := fun n => (H.bel (by rwa [getD_set_ne _ (by decide)] at n))
  c0 := fun h => H.c0 (by rwa [getD_set_ne _ (by decide)] at h)
  c1 := fun h => H.c1 (by rwa [getD_set_ne _ (by decide)] at h)
  c2 := fun h n => H.c2 (by rwa [getD_set_ne _ (by decide)] at h) (by rwa [getD_set_ne _ (by decide)] at n)
  c3 := fun _ => rfl
  c4 := fun h => H.c4 (by rwa [getD_set_ne _ (by decide)] at h)
  c5 := fun h => H.c5 (by rwa [getD_set_ne _ (by decide)] at h)
  c6 := fun h n => H.c6 (by rwa [getD_set_ne _ (by decide)] at h) (by rwa [getD_set_ne _ (by decide)] at n)
  c7 := fun h n => H.c7 (by rwa [getD_set_ne _ (by decide)] at h) (by rwa [getD_set_ne _ (by decide)] at n)
  c8 := fun h => H.c8 (by rwa [getD_set_ne _ (by decide)] at h)
  c9 := fun h => H.c9 (by rwa [getD_set_ne _ (by decide)] at h)
  c10 := fun h n => H.c10 (by rwa [getD_set_ne _ (by decide)] at h) (by rwa [getD_set_ne _ (by decide)] at n)
  c11 := fun h => H.c11 (by rwa [getD_set_ne _ (by decide)] at h)
  c12 := fun h => H.c12 (by rwa [getD_set_ne _ (by decide)] at h)
  c13 := fun h => H.c13 (by rwa [getD_set_ne _ (by decide)] at h)
  c14 := fun h n => H.c14 (by rwa [getD_set_ne _ (by decide)] at h) (by rwa [getD_set_ne _ (by decide)] at n)
  c15 := fun h n => H.c15 (by rwa [getD_set_ne _ (by decide)] at h) (by rwa [getD_set_ne _ (by decide)] at n)
  c16 := fun h => H.c16 (by rwa [getD_set_ne _ (by decide)] at h)
  c17 := fun h n => H.c17 (by rwa [getD_set_ne _ (by decide)] at h) (by rwa [getD_set_ne _ (by decide)] at n)
  c18 := fun h n => H.c18 (by rwa [getD_set_ne _ (by decide)] at h) (by rwa [getD_set_ne _ (by decide)] at n)
  c19 := fun h n => H.c19 (by rwa [getD_set_ne _ (by decide)] at h) (by rwa [getD_set_ne _ (by decide)] at n)
  c20 := fun h => H.c20 (by rwa [getD_set_ne _ (by decide)] at h)
  c21 := fun h => H.c21 (by rwa [getD_set_ne _ (by decide)] at h)
  g2 := fun h j hj => by
    by_cases e : j = 3
    · subst e; exact getD_set_same H.z (by decide)
    · rw [getD_set_ne _ (fun q => e q.symm)]; exact H.g2 (by rwa [getD_set_ne _ (by decide)] at h) j hj
  g4 := fun h j hj => by
    by_cases e : j = 3
    · subst e; exact getD_set_same H.z (by decide)
    · rw [getD_set_ne _ (fun q => e q.symm)]; exact H.g4 (by rwa [getD_set_ne _ (by decide)] at h) j hj
  g5 := fun h j hj => by
    by_cases e : j = 3
    · subst e; exact getD_set_same H.z (by decide)
    · rw [getD_set_ne _ (fun q => e q.symm)]; exact H.g5 (by rwa [getD_set_ne _ (by decide)] at h) j hj
  g6 := fun h j hj => by
    by_cases e : j = 3
    · subst e; exact getD_set_same H.z (by decide)
    · rw [getD_set_ne _ (fun q => e q.symm)]; exact H.g6 (by rwa [getD_set_ne _ (by decide)] at h) j hj
  g7 := fun h j hj => by
    by_cases e : j = 3
    · subst e; exact getD_set_same H.z (by decide)
    · rw [getD_set_ne _ (fun q => e q.symm)]; exact H.g7 (by rwa [getD_set_ne _ (by decide)] at h) j hj
  g10 := fun h j hj => by
    by_cases e : j = 3
    · subst e; exact getD_set_same H.z (by decide)
    · rw [getD_set_ne _ (fun q => e q.symm)]; exact H.g10 (by rwa [getD_set_ne _ (by decide)] at h) j hj
  g12 := fun h j hj => by
    by_cases e : j = 3
    · subst e; exact getD_set_same H.z (by decide)
    · rw [getD_set_ne _ (fun q => e q.symm)]; exact H.g12 (by rwa [getD_set_ne _ (by decide)] at h) j hj
  g13 := fun h j hj => by
    by_cases e : j = 3
    · subst e; exact getD_set_same H.z (by decide)
    · rw [getD_set_ne _ (fun q => e q.symm)]; exact H.g13 (by rwa [getD_set_ne _ (by decide)] at h) j hj
  g14 := fun h j hj => by
    by_cases e : j = 3
    · subst e; exact getD_set_same H.z (by decide)
    · rw [getD_set_ne _ (fun q => e q.symm)]; exact H.g14 (by rwa [getD_set_ne _ (by decide)] at h) j hj
  g15 := fun h j hj => by
    by_cases e : j = 3
    · subst e; exact getD_set_same H.z (by decide)
    · rw [getD_set_ne _ (fun q => e q.symm)]; exact H.g15 (by rwa [getD_set_ne _ (by decide)] at h) j hj
  g17 := fun h j hj => by
    by_cases e : j = 3
    · subst e; exact getD_set_same H.z (by decide)
    · rw [getD_set_ne _ (fun q => e q.symm)]; exact H.g17 (by rwa [getD_set_ne _ (by decide)] at h) j hj
  g18 := fun h j hj => by
    by_cases e : j = 3
    · subst e; exact getD_set_same H.z (by decide)
    · rw [getD_set_ne _ (fun q => e q.symm)]; exact H.g18 (by rwa [getD_set_ne _ (by decide)] at h) j hj
  g19 := fun h j hj => by
    by_cases e : j = 3
    · subst e; exact getD_set_same H.z (by decide)
    · rw [getD_set_ne _ (fun q => e q.symm)]; exact H.g19 (by rwa [getD_set_ne _ (by decide)] at h) j hj
  g20 := fun h j hj => by
    by_cases e : j = 3
    · subst e; exact getD_set_same H.z (by decide)
    · rw [getD_set_ne _ (fun q => e q.symm)]; exact H.g20 (by rwa [getD_set_ne _ (by decide)] at h) j hj
  g21 := fun h j hj => by
    by_cases e : j = 3
    · subst e; exact getD_set_same H.z (by decide)
    · rw [getD_set_ne _ (fun q => e q.symm)]; exact H.g21 (by rwa [getD_set_ne _ (by decide)] at h) j hj
  i4 := fun n => H.i4 (by rwa [getD_set_ne _ (by decide)] at n)
theorem IvRq.o4 {x : World} {l : List Tm} {y : World} {Z : LLI} {tA oA sA : Option Addr} {n nt np oc sc gv cv b0 c i k : Nat} {L : Array Bool} {s4 s24 s25 s26 s27 s28 s29 s30 s31 s32 s33 s34 s35 s36 s37 s38 s39 s40 s41 s42 s43 s44 : Value} {w : World} (H : IvRq x l y Z tA oA sA n nt np oc sc gv cv b0 c i k L s4 s24 s25 s26 s27 s28 s29 s30 s31 s32 s33 s34 s35 s36 s37 s38 s39 s40 s41 s42 s43 s44 w) (hN : L.getD 4 true = false) (hall : ∀ j, j ∈ [3] → L.getD j false = true) : IvRq x l y Z tA oA sA n nt np oc sc gv cv b0 c i k (L.setIfInBounds 4 true) s4 s24 s25 s26 s27 (.pointer (some ⟨gv, 0, none⟩)) s29 s30 s31 s32 s33 s34 s35 s36 s37 s38 s39 s40 s41 s42 s43 s44 w where
  z := by rw [Array.size_setIfInBounds]; exact H.z
  bel := fun n => (H.bel (by rwa [getD_set_ne _ (by decide)] at n))
  c0 := fun h => H.c0 (by rwa [getD_set_ne _ (by decide)] at h)
  c1 := fun h => H.c1 (by rwa [getD_set_ne _ (by decide)] at h)
  c2 := fun h n => H.c2 (by rwa [getD_set_ne _ (by decide)] at h) (by rwa [getD_set_ne _ (by decide)] at n)
  c3 := fun h => H.c3 (by rwa [getD_set_ne _ (by decide)] at h)
  c4 := fun _ => rfl
  c5 := fun h => H.c5 (by rwa [getD_set_ne _ (by decide)] at h)
  c6 := fun h n => H.c6 (by rwa [getD_set_ne _ (by decide)] at h) (by rwa [getD_set_ne _ (by decide)] at n)
  c7 := fun h n => H.c7 (by rwa [getD_set_ne _ (by decide)] at h) (by rwa [getD_set_ne _ (by decide)] at n)
  c8 := fun h => H.c8 (by rwa [getD_set_ne _ (by decide)] at h)
  c9 := fun h => H.c9 (by rwa [getD_set_ne _ (by decide)] at h)
  c10 := fun h n => H.c10 (by rwa [getD_set_ne _ (by decide)] at h) (by rwa [getD_set_ne _ (by decide)] at n)
  c11 := fun h => H.c11 (by rwa [getD_set_ne _ (by decide)] at h)
  c12 := fun h => H.c12 (by rwa [getD_set_ne _ (by decide)] at h)
  c13 := fun h => H.c13 (by rwa [getD_set_ne _ (by decide)] at h)
  c14 := fun h n => H.c14 (by rwa [getD_set_ne _ (by decide)] at h) (by rwa [getD_set_ne _ (by decide)] at n)
  c15 := fun h n => H.c15 (by rwa [getD_set_ne _ (by decide)] at h) (by rwa [getD_set_ne _ (by decide)] at n)
  c16 := fun h => H.c16 (by rwa [getD_set_ne _ (by decide)] at h)
  c17 := fun h n => H.c17 (by rwa [getD_set_ne _ (by decide)] at h) (by rwa [getD_set_ne _ (by decide)] at n)
  c18 := fun h n => H.c18 (by rwa [getD_set_ne _ (by decide)] at h) (by rwa [getD_set_ne _ (by decide)] at n)
  c19 := fun h n => H.c19 (by rwa [getD_set_ne _ (by decide)] at h) (by rwa [getD_set_ne _ (by decide)] at n)
  c20 := fun h => H.c20 (by rwa [getD_set_ne _ (by decide)] at h)
  c21 := fun h => H.c21 (by rwa [getD_set_ne _ (by decide)] at h)
  g2 := fun h j hj => by
    by_cases e : j = 4
    · subst e; exact getD_set_same H.z (by decide)
    · rw [getD_set_ne _ (fun q => e q.symm)]; exact H.g2 (by rwa [getD_set_ne _ (by decide)] at h) j hj
  g4 := fun _ j hj => by rw [getD_set_ne _ (by rintro rfl; exact absurd hj (by decide))]; exact hall j hj
  g5 := fun h j hj => by
    by_cases e : j = 4
    · subst e; exact getD_set_same H.z (by decide)
    · rw [getD_set_ne _ (fun q => e q.symm)]; exact H.g5 (by rwa [getD_set_ne _ (by decide)] at h) j hj
  g6 := fun h j hj => by
    by_cases e : j = 4
    · subst e; exact getD_set_same H.z (by decide)
    · rw [getD_set_ne _ (fun q => e q.symm)]; exact H.g6 (by rwa [getD_set_ne _ (by decide)] at h) j hj
  g7 := fun h j hj => by
    by_cases e : j = 4
    · subst e; exact getD_set_same H.z (by decide)
    · rw [getD_set_ne _ (fun q => e q.symm)]; exact H.g7 (by rwa [getD_set_ne _ (by decide)] at h) j hj
  g10 := fun h j hj => by
    by_cases e : j = 4
    · subst e; exact getD_set_same H.z (by decide)
    · rw [getD_set_ne _ (fun q => e q.symm)]; exact H.g10 (by rwa [getD_set_ne _ (by decide)] at h) j hj
  g12 := fun h j hj => by
    by_cases e : j = 4
    · subst e; exact getD_set_same H.z (by decide)
    · rw [getD_set_ne _ (fun q => e q.symm)]; exact H.g12 (by rwa [getD_set_ne _ (by decide)] at h) j hj
  g13 := fun h j hj => by
    by_cases e : j = 4
    · subst e; exact getD_set_same H.z (by decide)
    · rw [getD_set_ne _ (fun q => e q.symm)]; exact H.g13 (by rwa [getD_set_ne _ (by decide)] at h) j hj
  g14 := fun h j hj => by
    by_cases e : j = 4
    · subst e; exact getD_set_same H.z (by decide)
    · rw [getD_set_ne _ (fun q => e q.symm)]; exact H.g14 (by rwa [getD_set_ne _ (by decide)] at h) j hj
  g15 := fun h j hj => by
    by_cases e : j = 4
    · subst e; exact getD_set_same H.z (by decide)
    · rw [getD_set_ne _ (fun q => e q.symm)]; exact H.g15 (by rwa [getD_set_ne _ (by decide)] at h) j hj
  g17 := fun h j hj => by
    by_cases e : j = 4
    · subst e; exact getD_set_same H.z (by decide)
    · rw [getD_set_ne _ (fun q => e q.symm)]; exact H.g17 (by rwa [getD_set_ne _ (by decide)] at h) j hj
  g18 := fun h j hj => by
    by_cases e : j = 4
    · subst e; exact getD_set_same H.z (by decide)
    · rw [getD_set_ne _ (fun q => e q.symm)]; exact H.g18 (by rwa [getD_set_ne _ (by decide)] at h) j hj
  g19 := fun h j hj => by
    by_cases e : j = 4
    · subst e; exact getD_set_same H.z (by decide)
    · rw [getD_set_ne _ (fun q => e q.symm)]; exact H.g19 (by rwa [getD_set_ne _ (by decide)] at h) j hj
  g20 := fun h j hj => by
    by_cases e : j = 4
    · subst e; exact getD_set_same H.z (by decide)
    · rw [getD_set_ne _ (fun q => e q.symm)]; exact H.g20 (by rwa [getD_set_ne _ (by decide)] at h) j hj
  g21 := fun h j hj => by
    by_cases e : j = 4
    · subst e; exact getD_set_same H.z (by decide)
    · rw [getD_set_ne _ (fun q => e q.symm)]; exact H.g21 (by rwa [getD_set_ne _ (by decide)] at h) j hj
  i4 := fun n => H.i4 (by rwa [getD_set_ne _ (by decide)] at n)
theorem IvRq.o5 {x : World} {l : List Tm} {y : World} {Z : LLI} {tA oA sA : Option Addr} {n nt np oc sc gv cv b0 c i k : Nat} {L : Array Bool} {s4 s24 s25 s26 s27 s28 s29 s30 s31 s32 s33 s34 s35 s36 s37 s38 s39 s40 s41 s42 s43 s44 : Value} {w : World} (H : IvRq x l y Z tA oA sA n nt np oc sc gv cv b0 c i k L s4 s24 s25 s26 s27 s28 s29 s30 s31 s32 s33 s34 s35 s36 s37 s38 s39 s40 s41 s42 s43 s44 w) (hN : L.getD 5 true = false) (hall : ∀ j, j ∈ [3, 4] → L.getD j false = true) : IvRq x l y Z tA oA sA n nt np oc sc gv cv b0 c i k (L.setIfInBounds 5 true) s4 s24 s25 s26 s27 s28 (.int .i64 (c : Int)) s30 s31 s32 s33 s34 s35 s36 s37 s38 s39 s40 s41 s42 s43 s44 w where
  z := by rw [Array.size_setIfInBounds]; exact H.z
  bel := fun n => (H.bel (by rwa [getD_set_ne _ (by decide)] at n))
  c0 := fun h => H.c0 (by rwa [getD_set_ne _ (by decide)] at h)
  c1 := fun h => H.c1 (by rwa [getD_set_ne _ (by decide)] at h)
  c2 := fun h n => H.c2 (by rwa [getD_set_ne _ (by decide)] at h) (by rwa [getD_set_ne _ (by decide)] at n)
  c3 := fun h => H.c3 (by rwa [getD_set_ne _ (by decide)] at h)
  c4 := fun h => H.c4 (by rwa [getD_set_ne _ (by decide)] at h)
  c5 := fun _ => rfl
  c6 := fun h n => H.c6 (by rwa [getD_set_ne _ (by decide)] at h) (by rwa [getD_set_ne _ (by decide)] at n)
  c7 := fun h n => H.c7 (by rwa [getD_set_ne _ (by decide)] at h) (by rwa [getD_set_ne _ (by decide)] at n)
  c8 := fun h => H.c8 (by rwa [getD_set_ne _ (by decide)] at h)
  c9 := fun h => H.c9 (by rwa [getD_set_ne _ (by decide)] at h)
  c10 := fun h n => H.c10 (by rwa [getD_set_ne _ (by decide)] at h) (by rwa [getD_set_ne _ (by decide)] at n)
  c11 := fun h => H.c11 (by rwa [getD_set_ne _ (by decide)] at h)
  c12 := fun h => H.c12 (by rwa [getD_set_ne _ (by decide)] at h)
  c13 := fun h => H.c13 (by rwa [getD_set_ne _ (by decide)] at h)
  c14 := fun h n => H.c14 (by rwa [getD_set_ne _ (by decide)] at h) (by rwa [getD_set_ne _ (by decide)] at n)
  c15 := fun h n => H.c15 (by rwa [getD_set_ne _ (by decide)] at h) (by rwa [getD_set_ne _ (by decide)] at n)
  c16 := fun h => H.c16 (by rwa [getD_set_ne _ (by decide)] at h)
  c17 := fun h n => H.c17 (by rwa [getD_set_ne _ (by decide)] at h) (by rwa [getD_set_ne _ (by decide)] at n)
  c18 := fun h n => H.c18 (by rwa [getD_set_ne _ (by decide)] at h) (by rwa [getD_set_ne _ (by decide)] at n)
  c19 := fun h n => H.c19 (by rwa [getD_set_ne _ (by decide)] at h) (by rwa [getD_set_ne _ (by decide)] at n)
  c20 := fun h => H.c20 (by rwa [getD_set_ne _ (by decide)] at h)
  c21 := fun h => H.c21 (by rwa [getD_set_ne _ (by decide)] at h)
  g2 := fun h j hj => by
    by_cases e : j = 5
    · subst e; exact getD_set_same H.z (by decide)
    · rw [getD_set_ne _ (fun q => e q.symm)]; exact H.g2 (by rwa [getD_set_ne _ (by decide)] at h) j hj
  g4 := fun h j hj => by
    by_cases e : j = 5
    · subst e; exact getD_set_same H.z (by decide)
    · rw [getD_set_ne _ (fun q => e q.symm)]; exact H.g4 (by rwa [getD_set_ne _ (by decide)] at h) j hj
  g5 := fun _ j hj => by rw [getD_set_ne _ (by rintro rfl; exact absurd hj (by decide))]; exact hall j hj
  g6 := fun h j hj => by
    by_cases e : j = 5
    · subst e; exact getD_set_same H.z (by decide)
    · rw [getD_set_ne _ (fun q => e q.symm)]; exact H.g6 (by rwa [getD_set_ne _ (by decide)] at h) j hj
  g7 := fun h j hj => by
    by_cases e : j = 5
    · subst e; exact getD_set_same H.z (by decide)
    · rw [getD_set_ne _ (fun q => e q.symm)]; exact H.g7 (by rwa [getD_set_ne _ (by decide)] at h) j hj
  g10 := fun h j hj => by
    by_cases e : j = 5
    · subst e; exact getD_set_same H.z (by decide)
    · rw [getD_set_ne _ (fun q => e q.symm)]; exact H.g10 (by rwa [getD_set_ne _ (by decide)] at h) j hj
  g12 := fun h j hj => by
    by_cases e : j = 5
    · subst e; exact getD_set_same H.z (by decide)
    · rw [getD_set_ne _ (fun q => e q.symm)]; exact H.g12 (by rwa [getD_set_ne _ (by decide)] at h) j hj
  g13 := fun h j hj => by
    by_cases e : j = 5
    · subst e; exact getD_set_same H.z (by decide)
    · rw [getD_set_ne _ (fun q => e q.symm)]; exact H.g13 (by rwa [getD_set_ne _ (by decide)] at h) j hj
  g14 := fun h j hj => by
    by_cases e : j = 5
    · subst e; exact getD_set_same H.z (by decide)
    · rw [getD_set_ne _ (fun q => e q.symm)]; exact H.g14 (by rwa [getD_set_ne _ (by decide)] at h) j hj
  g15 := fun h j hj => by
    by_cases e : j = 5
    · subst e; exact getD_set_same H.z (by decide)
    · rw [getD_set_ne _ (fun q => e q.symm)]; exact H.g15 (by rwa [getD_set_ne _ (by decide)] at h) j hj
  g17 := fun h j hj => by
    by_cases e : j = 5
    · subst e; exact getD_set_same H.z (by decide)
    · rw [getD_set_ne _ (fun q => e q.symm)]; exact H.g17 (by rwa [getD_set_ne _ (by decide)] at h) j hj
  g18 := fun h j hj => by
    by_cases e : j = 5
    · subst e; exact getD_set_same H.z (by decide)
    · rw [getD_set_ne _ (fun q => e q.symm)]; exact H.g18 (by rwa [getD_set_ne _ (by decide)] at h) j hj
  g19 := fun h j hj => by
    by_cases e : j = 5
    · subst e; exact getD_set_same H.z (by decide)
    · rw [getD_set_ne _ (fun q => e q.symm)]; exact H.g19 (by rwa [getD_set_ne _ (by decide)] at h) j hj
  g20 := fun h j hj => by
    by_cases e : j = 5
    · subst e; exact getD_set_same H.z (by decide)
    · rw [getD_set_ne _ (fun q => e q.symm)]; exact H.g20 (by rwa [getD_set_ne _ (by decide)] at h) j hj
  g21 := fun h j hj => by
    by_cases e : j = 5
    · subst e; exact getD_set_same H.z (by decide)
    · rw [getD_set_ne _ (fun q => e q.symm)]; exact H.g21 (by rwa [getD_set_ne _ (by decide)] at h) j hj
  i4 := fun n => H.i4 (by rwa [getD_set_ne _ (by decide)] at n)
theorem IvRq.o6 {x : World} {l : List Tm} {y : World} {Z : LLI} {tA oA sA : Option Addr} {n nt np oc sc gv cv b0 c i k : Nat} {L : Array Bool} {s4 s24 s25 s26 s27 s28 s29 s30 s31 s32 s33 s34 s35 s36 s37 s38 s39 s40 s41 s42 s43 s44 : Value} {w : World} (H : IvRq x l y Z tA oA sA n nt np oc sc gv cv b0 c i k L s4 s24 s25 s26 s27 s28 s29 s30 s31 s32 s33 s34 s35 s36 s37 s38 s39 s40 s41 s42 s43 s44 w) (hN : L.getD 6 true = false) (hall : ∀ j, j ∈ [3, 4, 5] → L.getD j false = true) {w' : World} (hg : Below w.heap.size w w') {u : Value} (hR : RqO c w' u) : IvRq x l y Z tA oA sA n nt np oc sc gv cv b0 c i k (L.setIfInBounds 6 true) s4 s24 s25 s26 s27 s28 s29 u s31 s32 s33 s34 s35 s36 s37 s38 s39 s40 s41 s42 s43 s44 w' where
  z := by rw [Array.size_setIfInBounds]; exact H.z
  bel := fun n => bel2 (H.bel (by rwa [getD_set_ne _ (by decide)] at n)) hg
  c0 := fun h => H.c0 (by rwa [getD_set_ne _ (by decide)] at h)
  c1 := fun h => H.c1 (by rwa [getD_set_ne _ (by decide)] at h)
  c2 := fun h n => (H.c2 (by rwa [getD_set_ne _ (by decide)] at h) (by rwa [getD_set_ne _ (by decide)] at n)).gr hg
  c3 := fun h => H.c3 (by rwa [getD_set_ne _ (by decide)] at h)
  c4 := fun h => H.c4 (by rwa [getD_set_ne _ (by decide)] at h)
  c5 := fun h => H.c5 (by rwa [getD_set_ne _ (by decide)] at h)
  c6 := fun h n => hR
  c7 := fun h n => (H.c7 (by rwa [getD_set_ne _ (by decide)] at h) (by rwa [getD_set_ne _ (by decide)] at n)).gr hg
  c8 := fun h => H.c8 (by rwa [getD_set_ne _ (by decide)] at h)
  c9 := fun h => H.c9 (by rwa [getD_set_ne _ (by decide)] at h)
  c10 := fun h n => (H.c10 (by rwa [getD_set_ne _ (by decide)] at h) (by rwa [getD_set_ne _ (by decide)] at n)).gr hg
  c11 := fun h => H.c11 (by rwa [getD_set_ne _ (by decide)] at h)
  c12 := fun h => H.c12 (by rwa [getD_set_ne _ (by decide)] at h)
  c13 := fun h => H.c13 (by rwa [getD_set_ne _ (by decide)] at h)
  c14 := fun h n => (H.c14 (by rwa [getD_set_ne _ (by decide)] at h) (by rwa [getD_set_ne _ (by decide)] at n)).gr hg
  c15 := fun h n => (H.c15 (by rwa [getD_set_ne _ (by decide)] at h) (by rwa [getD_set_ne _ (by decide)] at n)).gr hg
  c16 := fun h => H.c16 (by rwa [getD_set_ne _ (by decide)] at h)
  c17 := fun h n => (H.c17 (by rwa [getD_set_ne _ (by decide)] at h) (by rwa [getD_set_ne _ (by decide)] at n)).gr hg
  c18 := fun h n => (H.c18 (by rwa [getD_set_ne _ (by decide)] at h) (by rwa [getD_set_ne _ (by decide)] at n)).gr hg
  c19 := fun h n => (H.c19 (by rwa [getD_set_ne _ (by decide)] at h) (by rwa [getD_set_ne _ (by decide)] at n)).gr hg
  c20 := fun h => (H.c20 (by rwa [getD_set_ne _ (by decide)] at h)).gr hg
  c21 := fun h => (H.c21 (by rwa [getD_set_ne _ (by decide)] at h)).gr hg
  g2 := fun h j hj => by
    by_cases e : j = 6
    · subst e; exact getD_set_same H.z (by decide)
    · rw [getD_set_ne _ (fun q => e q.symm)]; exact H.g2 (by rwa [getD_set_ne _ (by decide)] at h) j hj
  g4 := fun h j hj => by
    by_cases e : j = 6
    · subst e; exact getD_set_same H.z (by decide)
    · rw [getD_set_ne _ (fun q => e q.symm)]; exact H.g4 (by rwa [getD_set_ne _ (by decide)] at h) j hj
  g5 := fun h j hj => by
    by_cases e : j = 6
    · subst e; exact getD_set_same H.z (by decide)
    · rw [getD_set_ne _ (fun q => e q.symm)]; exact H.g5 (by rwa [getD_set_ne _ (by decide)] at h) j hj
  g6 := fun _ j hj => by rw [getD_set_ne _ (by rintro rfl; exact absurd hj (by decide))]; exact hall j hj
  g7 := fun h j hj => by
    by_cases e : j = 6
    · subst e; exact getD_set_same H.z (by decide)
    · rw [getD_set_ne _ (fun q => e q.symm)]; exact H.g7 (by rwa [getD_set_ne _ (by decide)] at h) j hj
  g10 := fun h j hj => by
    by_cases e : j = 6
    · subst e; exact getD_set_same H.z (by decide)
    · rw [getD_set_ne _ (fun q => e q.symm)]; exact H.g10 (by rwa [getD_set_ne _ (by decide)] at h) j hj
  g12 := fun h j hj => by
    by_cases e : j = 6
    · subst e; exact getD_set_same H.z (by decide)
    · rw [getD_set_ne _ (fun q => e q.symm)]; exact H.g12 (by rwa [getD_set_ne _ (by decide)] at h) j hj
  g13 := fun h j hj => by
    by_cases e : j = 6
    · subst e; exact getD_set_same H.z (by decide)
    · rw [getD_set_ne _ (fun q => e q.symm)]; exact H.g13 (by rwa [getD_set_ne _ (by decide)] at h) j hj
  g14 := fun h j hj => by
    by_cases e : j = 6
    · subst e; exact getD_set_same H.z (by decide)
    · rw [getD_set_ne _ (fun q => e q.symm)]; exact H.g14 (by rwa [getD_set_ne _ (by decide)] at h) j hj
  g15 := fun h j hj => by
    by_cases e : j = 6
    · subst e; exact getD_set_same H.z (by decide)
    · rw [getD_set_ne _ (fun q => e q.symm)]; exact H.g15 (by rwa [getD_set_ne _ (by decide)] at h) j hj
  g17 := fun h j hj => by
    by_cases e : j = 6
    · subst e; exact getD_set_same H.z (by decide)
    · rw [getD_set_ne _ (fun q => e q.symm)]; exact H.g17 (by rwa [getD_set_ne _ (by decide)] at h) j hj
  g18 := fun h j hj => by
    by_cases e : j = 6
    · subst e; exact getD_set_same H.z (by decide)
    · rw [getD_set_ne _ (fun q => e q.symm)]; exact H.g18 (by rwa [getD_set_ne _ (by decide)] at h) j hj
  g19 := fun h j hj => by
    by_cases e : j = 6
    · subst e; exact getD_set_same H.z (by decide)
    · rw [getD_set_ne _ (fun q => e q.symm)]; exact H.g19 (by rwa [getD_set_ne _ (by decide)] at h) j hj
  g20 := fun h j hj => by
    by_cases e : j = 6
    · subst e; exact getD_set_same H.z (by decide)
    · rw [getD_set_ne _ (fun q => e q.symm)]; exact H.g20 (by rwa [getD_set_ne _ (by decide)] at h) j hj
  g21 := fun h j hj => by
    by_cases e : j = 6
    · subst e; exact getD_set_same H.z (by decide)
    · rw [getD_set_ne _ (fun q => e q.symm)]; exact H.g21 (by rwa [getD_set_ne _ (by decide)] at h) j hj
  i4 := fun n => H.i4 (by rwa [getD_set_ne _ (by decide)] at n)
theorem IvRq.o7 {x : World} {l : List Tm} {y : World} {Z : LLI} {tA oA sA : Option Addr} {n nt np oc sc gv cv b0 c i k : Nat} {L : Array Bool} {s4 s24 s25 s26 s27 s28 s29 s30 s31 s32 s33 s34 s35 s36 s37 s38 s39 s40 s41 s42 s43 s44 : Value} {w : World} (H : IvRq x l y Z tA oA sA n nt np oc sc gv cv b0 c i k L s4 s24 s25 s26 s27 s28 s29 s30 s31 s32 s33 s34 s35 s36 s37 s38 s39 s40 s41 s42 s43 s44 w) (hN : L.getD 7 true = false) (hall : ∀ j, j ∈ [1, 2, 3, 4, 5, 6] → L.getD j false = true) {w' : World} (hb : Below x.heap.size x w') {u : Value} (hR : RqI b0 [(i : Int), (k : Int), (c : Int)] w' u) : IvRq x l y Z tA oA sA n nt np oc sc gv cv b0 c i k (L.setIfInBounds 7 true) s4 s24 s25 s26 s27 s28 s29 s30 u s32 s33 s34 s35 s36 s37 s38 s39 s40 s41 s42 s43 s44 w' where
  z := by rw [Array.size_setIfInBounds]; exact H.z
  bel := fun _ => hb
  c0 := fun h => H.c0 (by rwa [getD_set_ne _ (by decide)] at h)
  c1 := fun h => H.c1 (by rwa [getD_set_ne _ (by decide)] at h)
  c2 := fun h n => (by have e := getD_set_same (L := L) H.z (show 7 < 22 by decide); rw [n] at e; cases e)
  c3 := fun h => H.c3 (by rwa [getD_set_ne _ (by decide)] at h)
  c4 := fun h => H.c4 (by rwa [getD_set_ne _ (by decide)] at h)
  c5 := fun h => H.c5 (by rwa [getD_set_ne _ (by decide)] at h)
  c6 := fun h n => (by have e := getD_set_same (L := L) H.z (show 7 < 22 by decide); rw [n] at e; cases e)
  c7 := fun h n => hR
  c8 := fun h => H.c8 (by rwa [getD_set_ne _ (by decide)] at h)
  c9 := fun h => H.c9 (by rwa [getD_set_ne _ (by decide)] at h)
  c10 := fun h n => (notl hN (H.g10 (by rwa [getD_set_ne _ (by decide)] at h) 7 (by decide))).elim
  c11 := fun h => H.c11 (by rwa [getD_set_ne _ (by decide)] at h)
  c12 := fun h => H.c12 (by rwa [getD_set_ne _ (by decide)] at h)
  c13 := fun h => H.c13 (by rwa [getD_set_ne _ (by decide)] at h)
  c14 := fun h n => (notl hN (H.g14 (by rwa [getD_set_ne _ (by decide)] at h) 7 (by decide))).elim
  c15 := fun h n => (notl hN (H.g15 (by rwa [getD_set_ne _ (by decide)] at h) 7 (by decide))).elim
  c16 := fun h => H.c16 (by rwa [getD_set_ne _ (by decide)] at h)
  c17 := fun h n => (notl hN (H.g17 (by rwa [getD_set_ne _ (by decide)] at h) 7 (by decide))).elim
  c18 := fun h n => (notl hN (H.g18 (by rwa [getD_set_ne _ (by decide)] at h) 7 (by decide))).elim
  c19 := fun h n => (notl hN (H.g19 (by rwa [getD_set_ne _ (by decide)] at h) 7 (by decide))).elim
  c20 := fun h => (notl hN (H.g20 (by rwa [getD_set_ne _ (by decide)] at h) 7 (by decide))).elim
  c21 := fun h => (notl hN (H.g21 (by rwa [getD_set_ne _ (by decide)] at h) 7 (by decide))).elim
  g2 := fun h j hj => by
    by_cases e : j = 7
    · subst e; exact getD_set_same H.z (by decide)
    · rw [getD_set_ne _ (fun q => e q.symm)]; exact H.g2 (by rwa [getD_set_ne _ (by decide)] at h) j hj
  g4 := fun h j hj => by
    by_cases e : j = 7
    · subst e; exact getD_set_same H.z (by decide)
    · rw [getD_set_ne _ (fun q => e q.symm)]; exact H.g4 (by rwa [getD_set_ne _ (by decide)] at h) j hj
  g5 := fun h j hj => by
    by_cases e : j = 7
    · subst e; exact getD_set_same H.z (by decide)
    · rw [getD_set_ne _ (fun q => e q.symm)]; exact H.g5 (by rwa [getD_set_ne _ (by decide)] at h) j hj
  g6 := fun h j hj => by
    by_cases e : j = 7
    · subst e; exact getD_set_same H.z (by decide)
    · rw [getD_set_ne _ (fun q => e q.symm)]; exact H.g6 (by rwa [getD_set_ne _ (by decide)] at h) j hj
  g7 := fun _ j hj => by rw [getD_set_ne _ (by rintro rfl; exact absurd hj (by decide))]; exact hall j hj
  g10 := fun h j hj => by
    by_cases e : j = 7
    · subst e; exact getD_set_same H.z (by decide)
    · rw [getD_set_ne _ (fun q => e q.symm)]; exact H.g10 (by rwa [getD_set_ne _ (by decide)] at h) j hj
  g12 := fun h j hj => by
    by_cases e : j = 7
    · subst e; exact getD_set_same H.z (by decide)
    · rw [getD_set_ne _ (fun q => e q.symm)]; exact H.g12 (by rwa [getD_set_ne _ (by decide)] at h) j hj
  g13 := fun h j hj => by
    by_cases e : j = 7
    · subst e; exact getD_set_same H.z (by decide)
    · rw [getD_set_ne _ (fun q => e q.symm)]; exact H.g13 (by rwa [getD_set_ne _ (by decide)] at h) j hj
  g14 := fun h j hj => by
    by_cases e : j = 7
    · subst e; exact getD_set_same H.z (by decide)
    · rw [getD_set_ne _ (fun q => e q.symm)]; exact H.g14 (by rwa [getD_set_ne _ (by decide)] at h) j hj
  g15 := fun h j hj => by
    by_cases e : j = 7
    · subst e; exact getD_set_same H.z (by decide)
    · rw [getD_set_ne _ (fun q => e q.symm)]; exact H.g15 (by rwa [getD_set_ne _ (by decide)] at h) j hj
  g17 := fun h j hj => by
    by_cases e : j = 7
    · subst e; exact getD_set_same H.z (by decide)
    · rw [getD_set_ne _ (fun q => e q.symm)]; exact H.g17 (by rwa [getD_set_ne _ (by decide)] at h) j hj
  g18 := fun h j hj => by
    by_cases e : j = 7
    · subst e; exact getD_set_same H.z (by decide)
    · rw [getD_set_ne _ (fun q => e q.symm)]; exact H.g18 (by rwa [getD_set_ne _ (by decide)] at h) j hj
  g19 := fun h j hj => by
    by_cases e : j = 7
    · subst e; exact getD_set_same H.z (by decide)
    · rw [getD_set_ne _ (fun q => e q.symm)]; exact H.g19 (by rwa [getD_set_ne _ (by decide)] at h) j hj
  g20 := fun h j hj => by
    by_cases e : j = 7
    · subst e; exact getD_set_same H.z (by decide)
    · rw [getD_set_ne _ (fun q => e q.symm)]; exact H.g20 (by rwa [getD_set_ne _ (by decide)] at h) j hj
  g21 := fun h j hj => by
    by_cases e : j = 7
    · subst e; exact getD_set_same H.z (by decide)
    · rw [getD_set_ne _ (fun q => e q.symm)]; exact H.g21 (by rwa [getD_set_ne _ (by decide)] at h) j hj
  i4 := fun n => H.i4 (by rwa [getD_set_ne _ (by decide)] at n)
theorem IvRq.o8 {x : World} {l : List Tm} {y : World} {Z : LLI} {tA oA sA : Option Addr} {n nt np oc sc gv cv b0 c i k : Nat} {L : Array Bool} {s4 s24 s25 s26 s27 s28 s29 s30 s31 s32 s33 s34 s35 s36 s37 s38 s39 s40 s41 s42 s43 s44 : Value} {w : World} (H : IvRq x l y Z tA oA sA n nt np oc sc gv cv b0 c i k L s4 s24 s25 s26 s27 s28 s29 s30 s31 s32 s33 s34 s35 s36 s37 s38 s39 s40 s41 s42 s43 s44 w) (hN : L.getD 8 true = false) : IvRq x l y Z tA oA sA n nt np oc sc gv cv b0 c i k (L.setIfInBounds 8 true) s4 s24 s25 s26 s27 s28 s29 s30 s31 (.slice tA n nt) s33 s34 s35 s36 s37 s38 s39 s40 s41 s42 s43 s44 w where
  z := by rw [Array.size_setIfInBounds]; exact H.z
  bel := fun n => (H.bel (by rwa [getD_set_ne _ (by decide)] at n))
  c0 := fun h => H.c0 (by rwa [getD_set_ne _ (by decide)] at h)
  c1 := fun h => H.c1 (by rwa [getD_set_ne _ (by decide)] at h)
  c2 := fun h n => H.c2 (by rwa [getD_set_ne _ (by decide)] at h) (by rwa [getD_set_ne _ (by decide)] at n)
  c3 := fun h => H.c3 (by rwa [getD_set_ne _ (by decide)] at h)
  c4 := fun h => H.c4 (by rwa [getD_set_ne _ (by decide)] at h)
  c5 := fun h => H.c5 (by rwa [getD_set_ne _ (by decide)] at h)
  c6 := fun h n => H.c6 (by rwa [getD_set_ne _ (by decide)] at h) (by rwa [getD_set_ne _ (by decide)] at n)
  c7 := fun h n => H.c7 (by rwa [getD_set_ne _ (by decide)] at h) (by rwa [getD_set_ne _ (by decide)] at n)
  c8 := fun _ => rfl
  c9 := fun h => H.c9 (by rwa [getD_set_ne _ (by decide)] at h)
  c10 := fun h n => H.c10 (by rwa [getD_set_ne _ (by decide)] at h) (by rwa [getD_set_ne _ (by decide)] at n)
  c11 := fun h => H.c11 (by rwa [getD_set_ne _ (by decide)] at h)
  c12 := fun h => H.c12 (by rwa [getD_set_ne _ (by decide)] at h)
  c13 := fun h => H.c13 (by rwa [getD_set_ne _ (by decide)] at h)
  c14 := fun h n => H.c14 (by rwa [getD_set_ne _ (by decide)] at h) (by rwa [getD_set_ne _ (by decide)] at n)
  c15 := fun h n => H.c15 (by rwa [getD_set_ne _ (by decide)] at h) (by rwa [getD_set_ne _ (by decide)] at n)
  c16 := fun h => H.c16 (by rwa [getD_set_ne _ (by decide)] at h)
  c17 := fun h n => H.c17 (by rwa [getD_set_ne _ (by decide)] at h) (by rwa [getD_set_ne _ (by decide)] at n)
  c18 := fun h n => H.c18 (by rwa [getD_set_ne _ (by decide)] at h) (by rwa [getD_set_ne _ (by decide)] at n)
  c19 := fun h n => H.c19 (by rwa [getD_set_ne _ (by decide)] at h) (by rwa [getD_set_ne _ (by decide)] at n)
  c20 := fun h => H.c20 (by rwa [getD_set_ne _ (by decide)] at h)
  c21 := fun h => H.c21 (by rwa [getD_set_ne _ (by decide)] at h)
  g2 := fun h j hj => by
    by_cases e : j = 8
    · subst e; exact getD_set_same H.z (by decide)
    · rw [getD_set_ne _ (fun q => e q.symm)]; exact H.g2 (by rwa [getD_set_ne _ (by decide)] at h) j hj
  g4 := fun h j hj => by
    by_cases e : j = 8
    · subst e; exact getD_set_same H.z (by decide)
    · rw [getD_set_ne _ (fun q => e q.symm)]; exact H.g4 (by rwa [getD_set_ne _ (by decide)] at h) j hj
  g5 := fun h j hj => by
    by_cases e : j = 8
    · subst e; exact getD_set_same H.z (by decide)
    · rw [getD_set_ne _ (fun q => e q.symm)]; exact H.g5 (by rwa [getD_set_ne _ (by decide)] at h) j hj
  g6 := fun h j hj => by
    by_cases e : j = 8
    · subst e; exact getD_set_same H.z (by decide)
    · rw [getD_set_ne _ (fun q => e q.symm)]; exact H.g6 (by rwa [getD_set_ne _ (by decide)] at h) j hj
  g7 := fun h j hj => by
    by_cases e : j = 8
    · subst e; exact getD_set_same H.z (by decide)
    · rw [getD_set_ne _ (fun q => e q.symm)]; exact H.g7 (by rwa [getD_set_ne _ (by decide)] at h) j hj
  g10 := fun h j hj => by
    by_cases e : j = 8
    · subst e; exact getD_set_same H.z (by decide)
    · rw [getD_set_ne _ (fun q => e q.symm)]; exact H.g10 (by rwa [getD_set_ne _ (by decide)] at h) j hj
  g12 := fun h j hj => by
    by_cases e : j = 8
    · subst e; exact getD_set_same H.z (by decide)
    · rw [getD_set_ne _ (fun q => e q.symm)]; exact H.g12 (by rwa [getD_set_ne _ (by decide)] at h) j hj
  g13 := fun h j hj => by
    by_cases e : j = 8
    · subst e; exact getD_set_same H.z (by decide)
    · rw [getD_set_ne _ (fun q => e q.symm)]; exact H.g13 (by rwa [getD_set_ne _ (by decide)] at h) j hj
  g14 := fun h j hj => by
    by_cases e : j = 8
    · subst e; exact getD_set_same H.z (by decide)
    · rw [getD_set_ne _ (fun q => e q.symm)]; exact H.g14 (by rwa [getD_set_ne _ (by decide)] at h) j hj
  g15 := fun h j hj => by
    by_cases e : j = 8
    · subst e; exact getD_set_same H.z (by decide)
    · rw [getD_set_ne _ (fun q => e q.symm)]; exact H.g15 (by rwa [getD_set_ne _ (by decide)] at h) j hj
  g17 := fun h j hj => by
    by_cases e : j = 8
    · subst e; exact getD_set_same H.z (by decide)
    · rw [getD_set_ne _ (fun q => e q.symm)]; exact H.g17 (by rwa [getD_set_ne _ (by decide)] at h) j hj
  g18 := fun h j hj => by
    by_cases e : j = 8
    · subst e; exact getD_set_same H.z (by decide)
    · rw [getD_set_ne _ (fun q => e q.symm)]; exact H.g18 (by rwa [getD_set_ne _ (by decide)] at h) j hj
  g19 := fun h j hj => by
    by_cases e : j = 8
    · subst e; exact getD_set_same H.z (by decide)
    · rw [getD_set_ne _ (fun q => e q.symm)]; exact H.g19 (by rwa [getD_set_ne _ (by decide)] at h) j hj
  g20 := fun h j hj => by
    by_cases e : j = 8
    · subst e; exact getD_set_same H.z (by decide)
    · rw [getD_set_ne _ (fun q => e q.symm)]; exact H.g20 (by rwa [getD_set_ne _ (by decide)] at h) j hj
  g21 := fun h j hj => by
    by_cases e : j = 8
    · subst e; exact getD_set_same H.z (by decide)
    · rw [getD_set_ne _ (fun q => e q.symm)]; exact H.g21 (by rwa [getD_set_ne _ (by decide)] at h) j hj
  i4 := fun n => H.i4 (by rwa [getD_set_ne _ (by decide)] at n)
theorem IvRq.o9 {x : World} {l : List Tm} {y : World} {Z : LLI} {tA oA sA : Option Addr} {n nt np oc sc gv cv b0 c i k : Nat} {L : Array Bool} {s4 s24 s25 s26 s27 s28 s29 s30 s31 s32 s33 s34 s35 s36 s37 s38 s39 s40 s41 s42 s43 s44 : Value} {w : World} (H : IvRq x l y Z tA oA sA n nt np oc sc gv cv b0 c i k L s4 s24 s25 s26 s27 s28 s29 s30 s31 s32 s33 s34 s35 s36 s37 s38 s39 s40 s41 s42 s43 s44 w) (hN : L.getD 9 true = false) : IvRq x l y Z tA oA sA n nt np oc sc gv cv b0 c i k (L.setIfInBounds 9 true) s4 s24 s25 s26 s27 s28 s29 s30 s31 s32 (.slice tA n nt) s34 s35 s36 s37 s38 s39 s40 s41 s42 s43 s44 w where
  z := by rw [Array.size_setIfInBounds]; exact H.z
  bel := fun n => (H.bel (by rwa [getD_set_ne _ (by decide)] at n))
  c0 := fun h => H.c0 (by rwa [getD_set_ne _ (by decide)] at h)
  c1 := fun h => H.c1 (by rwa [getD_set_ne _ (by decide)] at h)
  c2 := fun h n => H.c2 (by rwa [getD_set_ne _ (by decide)] at h) (by rwa [getD_set_ne _ (by decide)] at n)
  c3 := fun h => H.c3 (by rwa [getD_set_ne _ (by decide)] at h)
  c4 := fun h => H.c4 (by rwa [getD_set_ne _ (by decide)] at h)
  c5 := fun h => H.c5 (by rwa [getD_set_ne _ (by decide)] at h)
  c6 := fun h n => H.c6 (by rwa [getD_set_ne _ (by decide)] at h) (by rwa [getD_set_ne _ (by decide)] at n)
  c7 := fun h n => H.c7 (by rwa [getD_set_ne _ (by decide)] at h) (by rwa [getD_set_ne _ (by decide)] at n)
  c8 := fun h => H.c8 (by rwa [getD_set_ne _ (by decide)] at h)
  c9 := fun _ => rfl
  c10 := fun h n => H.c10 (by rwa [getD_set_ne _ (by decide)] at h) (by rwa [getD_set_ne _ (by decide)] at n)
  c11 := fun h => H.c11 (by rwa [getD_set_ne _ (by decide)] at h)
  c12 := fun h => H.c12 (by rwa [getD_set_ne _ (by decide)] at h)
  c13 := fun h => H.c13 (by rwa [getD_set_ne _ (by decide)] at h)
  c14 := fun h n => H.c14 (by rwa [getD_set_ne _ (by decide)] at h) (by rwa [getD_set_ne _ (by decide)] at n)
  c15 := fun h n => H.c15 (by rwa [getD_set_ne _ (by decide)] at h) (by rwa [getD_set_ne _ (by decide)] at n)
  c16 := fun h => H.c16 (by rwa [getD_set_ne _ (by decide)] at h)
  c17 := fun h n => H.c17 (by rwa [getD_set_ne _ (by decide)] at h) (by rwa [getD_set_ne _ (by decide)] at n)
  c18 := fun h n => H.c18 (by rwa [getD_set_ne _ (by decide)] at h) (by rwa [getD_set_ne _ (by decide)] at n)
  c19 := fun h n => H.c19 (by rwa [getD_set_ne _ (by decide)] at h) (by rwa [getD_set_ne _ (by decide)] at n)
  c20 := fun h => H.c20 (by rwa [getD_set_ne _ (by decide)] at h)
  c21 := fun h => H.c21 (by rwa [getD_set_ne _ (by decide)] at h)
  g2 := fun h j hj => by
    by_cases e : j = 9
    · subst e; exact getD_set_same H.z (by decide)
    · rw [getD_set_ne _ (fun q => e q.symm)]; exact H.g2 (by rwa [getD_set_ne _ (by decide)] at h) j hj
  g4 := fun h j hj => by
    by_cases e : j = 9
    · subst e; exact getD_set_same H.z (by decide)
    · rw [getD_set_ne _ (fun q => e q.symm)]; exact H.g4 (by rwa [getD_set_ne _ (by decide)] at h) j hj
  g5 := fun h j hj => by
    by_cases e : j = 9
    · subst e; exact getD_set_same H.z (by decide)
    · rw [getD_set_ne _ (fun q => e q.symm)]; exact H.g5 (by rwa [getD_set_ne _ (by decide)] at h) j hj
  g6 := fun h j hj => by
    by_cases e : j = 9
    · subst e; exact getD_set_same H.z (by decide)
    · rw [getD_set_ne _ (fun q => e q.symm)]; exact H.g6 (by rwa [getD_set_ne _ (by decide)] at h) j hj
  g7 := fun h j hj => by
    by_cases e : j = 9
    · subst e; exact getD_set_same H.z (by decide)
    · rw [getD_set_ne _ (fun q => e q.symm)]; exact H.g7 (by rwa [getD_set_ne _ (by decide)] at h) j hj
  g10 := fun h j hj => by
    by_cases e : j = 9
    · subst e; exact getD_set_same H.z (by decide)
    · rw [getD_set_ne _ (fun q => e q.symm)]; exact H.g10 (by rwa [getD_set_ne _ (by decide)] at h) j hj
  g12 := fun h j hj => by
    by_cases e : j = 9
    · subst e; exact getD_set_same H.z (by decide)
    · rw [getD_set_ne _ (fun q => e q.symm)]; exact H.g12 (by rwa [getD_set_ne _ (by decide)] at h) j hj
  g13 := fun h j hj => by
    by_cases e : j = 9
    · subst e; exact getD_set_same H.z (by decide)
    · rw [getD_set_ne _ (fun q => e q.symm)]; exact H.g13 (by rwa [getD_set_ne _ (by decide)] at h) j hj
  g14 := fun h j hj => by
    by_cases e : j = 9
    · subst e; exact getD_set_same H.z (by decide)
    · rw [getD_set_ne _ (fun q => e q.symm)]; exact H.g14 (by rwa [getD_set_ne _ (by decide)] at h) j hj
  g15 := fun h j hj => by
    by_cases e : j = 9
    · subst e; exact getD_set_same H.z (by decide)
    · rw [getD_set_ne _ (fun q => e q.symm)]; exact H.g15 (by rwa [getD_set_ne _ (by decide)] at h) j hj
  g17 := fun h j hj => by
    by_cases e : j = 9
    · subst e; exact getD_set_same H.z (by decide)
    · rw [getD_set_ne _ (fun q => e q.symm)]; exact H.g17 (by rwa [getD_set_ne _ (by decide)] at h) j hj
  g18 := fun h j hj => by
    by_cases e : j = 9
    · subst e; exact getD_set_same H.z (by decide)
    · rw [getD_set_ne _ (fun q => e q.symm)]; exact H.g18 (by rwa [getD_set_ne _ (by decide)] at h) j hj
  g19 := fun h j hj => by
    by_cases e : j = 9
    · subst e; exact getD_set_same H.z (by decide)
    · rw [getD_set_ne _ (fun q => e q.symm)]; exact H.g19 (by rwa [getD_set_ne _ (by decide)] at h) j hj
  g20 := fun h j hj => by
    by_cases e : j = 9
    · subst e; exact getD_set_same H.z (by decide)
    · rw [getD_set_ne _ (fun q => e q.symm)]; exact H.g20 (by rwa [getD_set_ne _ (by decide)] at h) j hj
  g21 := fun h j hj => by
    by_cases e : j = 9
    · subst e; exact getD_set_same H.z (by decide)
    · rw [getD_set_ne _ (fun q => e q.symm)]; exact H.g21 (by rwa [getD_set_ne _ (by decide)] at h) j hj
  i4 := fun n => H.i4 (by rwa [getD_set_ne _ (by decide)] at n)
theorem IvRq.o10 {x : World} {l : List Tm} {y : World} {Z : LLI} {tA oA sA : Option Addr} {n nt np oc sc gv cv b0 c i k : Nat} {L : Array Bool} {s4 s24 s25 s26 s27 s28 s29 s30 s31 s32 s33 s34 s35 s36 s37 s38 s39 s40 s41 s42 s43 s44 : Value} {w : World} (H : IvRq x l y Z tA oA sA n nt np oc sc gv cv b0 c i k L s4 s24 s25 s26 s27 s28 s29 s30 s31 s32 s33 s34 s35 s36 s37 s38 s39 s40 s41 s42 s43 s44 w) (hN : L.getD 10 true = false) (hall : ∀ j, j ∈ [1, 2, 3, 4, 5, 6, 7, 9] → L.getD j false = true) {w' : World} (hg : Below w.heap.size w w') {u : Value} (hR : RqL l w' u) : IvRq x l y Z tA oA sA n nt np oc sc gv cv b0 c i k (L.setIfInBounds 10 true) s4 s24 s25 s26 s27 s28 s29 s30 s31 s32 s33 u s35 s36 s37 s38 s39 s40 s41 s42 s43 s44 w' where
  z := by rw [Array.size_setIfInBounds]; exact H.z
  bel := fun n => bel2 (H.bel (by rwa [getD_set_ne _ (by decide)] at n)) hg
  c0 := fun h => H.c0 (by rwa [getD_set_ne _ (by decide)] at h)
  c1 := fun h => H.c1 (by rwa [getD_set_ne _ (by decide)] at h)
  c2 := fun h n => (H.c2 (by rwa [getD_set_ne _ (by decide)] at h) (by rwa [getD_set_ne _ (by decide)] at n)).gr hg
  c3 := fun h => H.c3 (by rwa [getD_set_ne _ (by decide)] at h)
  c4 := fun h => H.c4 (by rwa [getD_set_ne _ (by decide)] at h)
  c5 := fun h => H.c5 (by rwa [getD_set_ne _ (by decide)] at h)
  c6 := fun h n => (H.c6 (by rwa [getD_set_ne _ (by decide)] at h) (by rwa [getD_set_ne _ (by decide)] at n)).gr hg
  c7 := fun h n => (H.c7 (by rwa [getD_set_ne _ (by decide)] at h) (by rwa [getD_set_ne _ (by decide)] at n)).gr hg
  c8 := fun h => H.c8 (by rwa [getD_set_ne _ (by decide)] at h)
  c9 := fun h => H.c9 (by rwa [getD_set_ne _ (by decide)] at h)
  c10 := fun h n => hR
  c11 := fun h => H.c11 (by rwa [getD_set_ne _ (by decide)] at h)
  c12 := fun h => H.c12 (by rwa [getD_set_ne _ (by decide)] at h)
  c13 := fun h => H.c13 (by rwa [getD_set_ne _ (by decide)] at h)
  c14 := fun h n => (H.c14 (by rwa [getD_set_ne _ (by decide)] at h) (by rwa [getD_set_ne _ (by decide)] at n)).gr hg
  c15 := fun h n => (H.c15 (by rwa [getD_set_ne _ (by decide)] at h) (by rwa [getD_set_ne _ (by decide)] at n)).gr hg
  c16 := fun h => H.c16 (by rwa [getD_set_ne _ (by decide)] at h)
  c17 := fun h n => (H.c17 (by rwa [getD_set_ne _ (by decide)] at h) (by rwa [getD_set_ne _ (by decide)] at n)).gr hg
  c18 := fun h n => (H.c18 (by rwa [getD_set_ne _ (by decide)] at h) (by rwa [getD_set_ne _ (by decide)] at n)).gr hg
  c19 := fun h n => (H.c19 (by rwa [getD_set_ne _ (by decide)] at h) (by rwa [getD_set_ne _ (by decide)] at n)).gr hg
  c20 := fun h => (H.c20 (by rwa [getD_set_ne _ (by decide)] at h)).gr hg
  c21 := fun h => (H.c21 (by rwa [getD_set_ne _ (by decide)] at h)).gr hg
  g2 := fun h j hj => by
    by_cases e : j = 10
    · subst e; exact getD_set_same H.z (by decide)
    · rw [getD_set_ne _ (fun q => e q.symm)]; exact H.g2 (by rwa [getD_set_ne _ (by decide)] at h) j hj
  g4 := fun h j hj => by
    by_cases e : j = 10
    · subst e; exact getD_set_same H.z (by decide)
    · rw [getD_set_ne _ (fun q => e q.symm)]; exact H.g4 (by rwa [getD_set_ne _ (by decide)] at h) j hj
  g5 := fun h j hj => by
    by_cases e : j = 10
    · subst e; exact getD_set_same H.z (by decide)
    · rw [getD_set_ne _ (fun q => e q.symm)]; exact H.g5 (by rwa [getD_set_ne _ (by decide)] at h) j hj
  g6 := fun h j hj => by
    by_cases e : j = 10
    · subst e; exact getD_set_same H.z (by decide)
    · rw [getD_set_ne _ (fun q => e q.symm)]; exact H.g6 (by rwa [getD_set_ne _ (by decide)] at h) j hj
  g7 := fun h j hj => by
    by_cases e : j = 10
    · subst e; exact getD_set_same H.z (by decide)
    · rw [getD_set_ne _ (fun q => e q.symm)]; exact H.g7 (by rwa [getD_set_ne _ (by decide)] at h) j hj
  g10 := fun _ j hj => by rw [getD_set_ne _ (by rintro rfl; exact absurd hj (by decide))]; exact hall j hj
  g12 := fun h j hj => by
    by_cases e : j = 10
    · subst e; exact getD_set_same H.z (by decide)
    · rw [getD_set_ne _ (fun q => e q.symm)]; exact H.g12 (by rwa [getD_set_ne _ (by decide)] at h) j hj
  g13 := fun h j hj => by
    by_cases e : j = 10
    · subst e; exact getD_set_same H.z (by decide)
    · rw [getD_set_ne _ (fun q => e q.symm)]; exact H.g13 (by rwa [getD_set_ne _ (by decide)] at h) j hj
  g14 := fun h j hj => by
    by_cases e : j = 10
    · subst e; exact getD_set_same H.z (by decide)
    · rw [getD_set_ne _ (fun q => e q.symm)]; exact H.g14 (by rwa [getD_set_ne _ (by decide)] at h) j hj
  g15 := fun h j hj => by
    by_cases e : j = 10
    · subst e; exact getD_set_same H.z (by decide)
    · rw [getD_set_ne _ (fun q => e q.symm)]; exact H.g15 (by rwa [getD_set_ne _ (by decide)] at h) j hj
  g17 := fun h j hj => by
    by_cases e : j = 10
    · subst e; exact getD_set_same H.z (by decide)
    · rw [getD_set_ne _ (fun q => e q.symm)]; exact H.g17 (by rwa [getD_set_ne _ (by decide)] at h) j hj
  g18 := fun h j hj => by
    by_cases e : j = 10
    · subst e; exact getD_set_same H.z (by decide)
    · rw [getD_set_ne _ (fun q => e q.symm)]; exact H.g18 (by rwa [getD_set_ne _ (by decide)] at h) j hj
  g19 := fun h j hj => by
    by_cases e : j = 10
    · subst e; exact getD_set_same H.z (by decide)
    · rw [getD_set_ne _ (fun q => e q.symm)]; exact H.g19 (by rwa [getD_set_ne _ (by decide)] at h) j hj
  g20 := fun h j hj => by
    by_cases e : j = 10
    · subst e; exact getD_set_same H.z (by decide)
    · rw [getD_set_ne _ (fun q => e q.symm)]; exact H.g20 (by rwa [getD_set_ne _ (by decide)] at h) j hj
  g21 := fun h j hj => by
    by_cases e : j = 10
    · subst e; exact getD_set_same H.z (by decide)
    · rw [getD_set_ne _ (fun q => e q.symm)]; exact H.g21 (by rwa [getD_set_ne _ (by decide)] at h) j hj
  i4 := fun n => H.i4 (by rwa [getD_set_ne _ (by decide)] at n)
theorem IvRq.o11 {x : World} {l : List Tm} {y : World} {Z : LLI} {tA oA sA : Option Addr} {n nt np oc sc gv cv b0 c i k : Nat} {L : Array Bool} {s4 s24 s25 s26 s27 s28 s29 s30 s31 s32 s33 s34 s35 s36 s37 s38 s39 s40 s41 s42 s43 s44 : Value} {w : World} (H : IvRq x l y Z tA oA sA n nt np oc sc gv cv b0 c i k L s4 s24 s25 s26 s27 s28 s29 s30 s31 s32 s33 s34 s35 s36 s37 s38 s39 s40 s41 s42 s43 s44 w) (hN : L.getD 11 true = false) : IvRq x l y Z tA oA sA n nt np oc sc gv cv b0 c i k (L.setIfInBounds 11 true) s4 s24 s25 s26 s27 s28 s29 s30 s31 s32 s33 s34 (.slice (some ⟨gv, 0, none⟩) 1 cv) s36 s37 s38 s39 s40 s41 s42 s43 s44 w where
  z := by rw [Array.size_setIfInBounds]; exact H.z
  bel := fun n => (H.bel (by rwa [getD_set_ne _ (by decide)] at n))
  c0 := fun h => H.c0 (by rwa [getD_set_ne _ (by decide)] at h)
  c1 := fun h => H.c1 (by rwa [getD_set_ne _ (by decide)] at h)
  c2 := fun h n => H.c2 (by rwa [getD_set_ne _ (by decide)] at h) (by rwa [getD_set_ne _ (by decide)] at n)
  c3 := fun h => H.c3 (by rwa [getD_set_ne _ (by decide)] at h)
  c4 := fun h => H.c4 (by rwa [getD_set_ne _ (by decide)] at h)
  c5 := fun h => H.c5 (by rwa [getD_set_ne _ (by decide)] at h)
  c6 := fun h n => H.c6 (by rwa [getD_set_ne _ (by decide)] at h) (by rwa [getD_set_ne _ (by decide)] at n)
  c7 := fun h n => H.c7 (by rwa [getD_set_ne _ (by decide)] at h) (by rwa [getD_set_ne _ (by decide)] at n)
  c8 := fun h => H.c8 (by rwa [getD_set_ne _ (by decide)] at h)
  c9 := fun h => H.c9 (by rwa [getD_set_ne _ (by decide)] at h)
  c10 := fun h n => H.c10 (by rwa [getD_set_ne _ (by decide)] at h) (by rwa [getD_set_ne _ (by decide)] at n)
  c11 := fun _ => rfl
  c12 := fun h => H.c12 (by rwa [getD_set_ne _ (by decide)] at h)
  c13 := fun h => H.c13 (by rwa [getD_set_ne _ (by decide)] at h)
  c14 := fun h n => H.c14 (by rwa [getD_set_ne _ (by decide)] at h) (by rwa [getD_set_ne _ (by decide)] at n)
  c15 := fun h n => H.c15 (by rwa [getD_set_ne _ (by decide)] at h) (by rwa [getD_set_ne _ (by decide)] at n)
  c16 := fun h => H.c16 (by rwa [getD_set_ne _ (by decide)] at h)
  c17 := fun h n => H.c17 (by rwa [getD_set_ne _ (by decide)] at h) (by rwa [getD_set_ne _ (by decide)] at n)
  c18 := fun h n => H.c18 (by rwa [getD_set_ne _ (by decide)] at h) (by rwa [getD_set_ne _ (by decide)] at n)
  c19 := fun h n => H.c19 (by rwa [getD_set_ne _ (by decide)] at h) (by rwa [getD_set_ne _ (by decide)] at n)
  c20 := fun h => H.c20 (by rwa [getD_set_ne _ (by decide)] at h)
  c21 := fun h => H.c21 (by rwa [getD_set_ne _ (by decide)] at h)
  g2 := fun h j hj => by
    by_cases e : j = 11
    · subst e; exact getD_set_same H.z (by decide)
    · rw [getD_set_ne _ (fun q => e q.symm)]; exact H.g2 (by rwa [getD_set_ne _ (by decide)] at h) j hj
  g4 := fun h j hj => by
    by_cases e : j = 11
    · subst e; exact getD_set_same H.z (by decide)
    · rw [getD_set_ne _ (fun q => e q.symm)]; exact H.g4 (by rwa [getD_set_ne _ (by decide)] at h) j hj
  g5 := fun h j hj => by
    by_cases e : j = 11
    · subst e; exact getD_set_same H.z (by decide)
    · rw [getD_set_ne _ (fun q => e q.symm)]; exact H.g5 (by rwa [getD_set_ne _ (by decide)] at h) j hj
  g6 := fun h j hj => by
    by_cases e : j = 11
    · subst e; exact getD_set_same H.z (by decide)
    · rw [getD_set_ne _ (fun q => e q.symm)]; exact H.g6 (by rwa [getD_set_ne _ (by decide)] at h) j hj
  g7 := fun h j hj => by
    by_cases e : j = 11
    · subst e; exact getD_set_same H.z (by decide)
    · rw [getD_set_ne _ (fun q => e q.symm)]; exact H.g7 (by rwa [getD_set_ne _ (by decide)] at h) j hj
  g10 := fun h j hj => by
    by_cases e : j = 11
    · subst e; exact getD_set_same H.z (by decide)
    · rw [getD_set_ne _ (fun q => e q.symm)]; exact H.g10 (by rwa [getD_set_ne _ (by decide)] at h) j hj
  g12 := fun h j hj => by
    by_cases e : j = 11
    · subst e; exact getD_set_same H.z (by decide)
    · rw [getD_set_ne _ (fun q => e q.symm)]; exact H.g12 (by rwa [getD_set_ne _ (by decide)] at h) j hj
  g13 := fun h j hj => by
    by_cases e : j = 11
    · subst e; exact getD_set_same H.z (by decide)
    · rw [getD_set_ne _ (fun q => e q.symm)]; exact H.g13 (by rwa [getD_set_ne _ (by decide)] at h) j hj
  g14 := fun h j hj => by
    by_cases e : j = 11
    · subst e; exact getD_set_same H.z (by decide)
    · rw [getD_set_ne _ (fun q => e q.symm)]; exact H.g14 (by rwa [getD_set_ne _ (by decide)] at h) j hj
  g15 := fun h j hj => by
    by_cases e : j = 11
    · subst e; exact getD_set_same H.z (by decide)
    · rw [getD_set_ne _ (fun q => e q.symm)]; exact H.g15 (by rwa [getD_set_ne _ (by decide)] at h) j hj
  g17 := fun h j hj => by
    by_cases e : j = 11
    · subst e; exact getD_set_same H.z (by decide)
    · rw [getD_set_ne _ (fun q => e q.symm)]; exact H.g17 (by rwa [getD_set_ne _ (by decide)] at h) j hj
  g18 := fun h j hj => by
    by_cases e : j = 11
    · subst e; exact getD_set_same H.z (by decide)
    · rw [getD_set_ne _ (fun q => e q.symm)]; exact H.g18 (by rwa [getD_set_ne _ (by decide)] at h) j hj
  g19 := fun h j hj => by
    by_cases e : j = 11
    · subst e; exact getD_set_same H.z (by decide)
    · rw [getD_set_ne _ (fun q => e q.symm)]; exact H.g19 (by rwa [getD_set_ne _ (by decide)] at h) j hj
  g20 := fun h j hj => by
    by_cases e : j = 11
    · subst e; exact getD_set_same H.z (by decide)
    · rw [getD_set_ne _ (fun q => e q.symm)]; exact H.g20 (by rwa [getD_set_ne _ (by decide)] at h) j hj
  g21 := fun h j hj => by
    by_cases e : j = 11
    · subst e; exact getD_set_same H.z (by decide)
    · rw [getD_set_ne _ (fun q => e q.symm)]; exact H.g21 (by rwa [getD_set_ne _ (by decide)] at h) j hj
  i4 := fun n => H.i4 (by rwa [getD_set_ne _ (by decide)] at n)
theorem IvRq.o12 {x : World} {l : List Tm} {y : World} {Z : LLI} {tA oA sA : Option Addr} {n nt np oc sc gv cv b0 c i k : Nat} {L : Array Bool} {s4 s24 s25 s26 s27 s28 s29 s30 s31 s32 s33 s34 s35 s36 s37 s38 s39 s40 s41 s42 s43 s44 : Value} {w : World} (H : IvRq x l y Z tA oA sA n nt np oc sc gv cv b0 c i k L s4 s24 s25 s26 s27 s28 s29 s30 s31 s32 s33 s34 s35 s36 s37 s38 s39 s40 s41 s42 s43 s44 w) (hN : L.getD 12 true = false) (hall : ∀ j, j ∈ [11] → L.getD j false = true) : IvRq x l y Z tA oA sA n nt np oc sc gv cv b0 c i k (L.setIfInBounds 12 true) s4 s24 s25 s26 s27 s28 s29 s30 s31 s32 s33 s34 s35 (.pointer (some ⟨gv, 0, none⟩)) s37 s38 s39 s40 s41 s42 s43 s44 w where
  z := by rw [Array.size_setIfInBounds]; exact H.z
  bel := fun n => (H.bel (by rwa [getD_set_ne _ (by decide)] at n))
  c0 := fun h => H.c0 (by rwa [getD_set_ne _ (by decide)] at h)
  c1 := fun h => H.c1 (by rwa [getD_set_ne _ (by decide)] at h)
  c2 := fun h n => H.c2 (by rwa [getD_set_ne _ (by decide)] at h) (by rwa [getD_set_ne _ (by decide)] at n)
  c3 := fun h => H.c3 (by rwa [getD_set_ne _ (by decide)] at h)
  c4 := fun h => H.c4 (by rwa [getD_set_ne _ (by decide)] at h)
  c5 := fun h => H.c5 (by rwa [getD_set_ne _ (by decide)] at h)
  c6 := fun h n => H.c6 (by rwa [getD_set_ne _ (by decide)] at h) (by rwa [getD_set_ne _ (by decide)] at n)
  c7 := fun h n => H.c7 (by rwa [getD_set_ne _ (by decide)] at h) (by rwa [getD_set_ne _ (by decide)] at n)
  c8 := fun h => H.c8 (by rwa [getD_set_ne _ (by decide)] at h)
  c9 := fun h => H.c9 (by rwa [getD_set_ne _ (by decide)] at h)
  c10 := fun h n => H.c10 (by rwa [getD_set_ne _ (by decide)] at h) (by rwa [getD_set_ne _ (by decide)] at n)
  c11 := fun h => H.c11 (by rwa [getD_set_ne _ (by decide)] at h)
  c12 := fun _ => rfl
  c13 := fun h => H.c13 (by rwa [getD_set_ne _ (by decide)] at h)
  c14 := fun h n => H.c14 (by rwa [getD_set_ne _ (by decide)] at h) (by rwa [getD_set_ne _ (by decide)] at n)
  c15 := fun h n => H.c15 (by rwa [getD_set_ne _ (by decide)] at h) (by rwa [getD_set_ne _ (by decide)] at n)
  c16 := fun h => H.c16 (by rwa [getD_set_ne _ (by decide)] at h)
  c17 := fun h n => H.c17 (by rwa [getD_set_ne _ (by decide)] at h) (by rwa [getD_set_ne _ (by decide)] at n)
  c18 := fun h n => H.c18 (by rwa [getD_set_ne _ (by decide)] at h) (by rwa [getD_set_ne _ (by decide)] at n)
  c19 := fun h n => H.c19 (by rwa [getD_set_ne _ (by decide)] at h) (by rwa [getD_set_ne _ (by decide)] at n)
  c20 := fun h => H.c20 (by rwa [getD_set_ne _ (by decide)] at h)
  c21 := fun h => H.c21 (by rwa [getD_set_ne _ (by decide)] at h)
  g2 := fun h j hj => by
    by_cases e : j = 12
    · subst e; exact getD_set_same H.z (by decide)
    · rw [getD_set_ne _ (fun q => e q.symm)]; exact H.g2 (by rwa [getD_set_ne _ (by decide)] at h) j hj
  g4 := fun h j hj => by
    by_cases e : j = 12
    · subst e; exact getD_set_same H.z (by decide)
    · rw [getD_set_ne _ (fun q => e q.symm)]; exact H.g4 (by rwa [getD_set_ne _ (by decide)] at h) j hj
  g5 := fun h j hj => by
    by_cases e : j = 12
    · subst e; exact getD_set_same H.z (by decide)
    · rw [getD_set_ne _ (fun q => e q.symm)]; exact H.g5 (by rwa [getD_set_ne _ (by decide)] at h) j hj
  g6 := fun h j hj => by
    by_cases e : j = 12
    · subst e; exact getD_set_same H.z (by decide)
    · rw [getD_set_ne _ (fun q => e q.symm)]; exact H.g6 (by rwa [getD_set_ne _ (by decide)] at h) j hj
  g7 := fun h j hj => by
    by_cases e : j = 12
    · subst e; exact getD_set_same H.z (by decide)
    · rw [getD_set_ne _ (fun q => e q.symm)]; exact H.g7 (by rwa [getD_set_ne _ (by decide)] at h) j hj
  g10 := fun h j hj => by
    by_cases e : j = 12
    · subst e; exact getD_set_same H.z (by decide)
    · rw [getD_set_ne _ (fun q => e q.symm)]; exact H.g10 (by rwa [getD_set_ne _ (by decide)] at h) j hj
  g12 := fun _ j hj => by rw [getD_set_ne _ (by rintro rfl; exact absurd hj (by decide))]; exact hall j hj
  g13 := fun h j hj => by
    by_cases e : j = 12
    · subst e; exact getD_set_same H.z (by decide)
    · rw [getD_set_ne _ (fun q => e q.symm)]; exact H.g13 (by rwa [getD_set_ne _ (by decide)] at h) j hj
  g14 := fun h j hj => by
    by_cases e : j = 12
    · subst e; exact getD_set_same H.z (by decide)
    · rw [getD_set_ne _ (fun q => e q.symm)]; exact H.g14 (by rwa [getD_set_ne _ (by decide)] at h) j hj
  g15 := fun h j hj => by
    by_cases e : j = 12
    · subst e; exact getD_set_same H.z (by decide)
    · rw [getD_set_ne _ (fun q => e q.symm)]; exact H.g15 (by rwa [getD_set_ne _ (by decide)] at h) j hj
  g17 := fun h j hj => by
    by_cases e : j = 12
    · subst e; exact getD_set_same H.z (by decide)
    · rw [getD_set_ne _ (fun q => e q.symm)]; exact H.g17 (by rwa [getD_set_ne _ (by decide)] at h) j hj
  g18 := fun h j hj => by
    by_cases e : j = 12
    · subst e; exact getD_set_same H.z (by decide)
    · rw [getD_set_ne _ (fun q => e q.symm)]; exact H.g18 (by rwa [getD_set_ne _ (by decide)] at h) j hj
  g19 := fun h j hj => by
    by_cases e : j = 12
    · subst e; exact getD_set_same H.z (by decide)
    · rw [getD_set_ne _ (fun q => e q.symm)]; exact H.g19 (by rwa [getD_set_ne _ (by decide)] at h) j hj
  g20 := fun h j hj => by
    by_cases e : j = 12
    · subst e; exact getD_set_same H.z (by decide)
    · rw [getD_set_ne _ (fun q => e q.symm)]; exact H.g20 (by rwa [getD_set_ne _ (by decide)] at h) j hj
  g21 := fun h j hj => by
    by_cases e : j = 12
    · subst e; exact getD_set_same H.z (by decide)
    · rw [getD_set_ne _ (fun q => e q.symm)]; exact H.g21 (by rwa [getD_set_ne _ (by decide)] at h) j hj
  i4 := fun n => H.i4 (by rwa [getD_set_ne _ (by decide)] at n)
theorem IvRq.o13 {x : World} {l : List Tm} {y : World} {Z : LLI} {tA oA sA : Option Addr} {n nt np oc sc gv cv b0 c i k : Nat} {L : Array Bool} {s4 s24 s25 s26 s27 s28 s29 s30 s31 s32 s33 s34 s35 s36 s37 s38 s39 s40 s41 s42 s43 s44 : Value} {w : World} (H : IvRq x l y Z tA oA sA n nt np oc sc gv cv b0 c i k L s4 s24 s25 s26 s27 s28 s29 s30 s31 s32 s33 s34 s35 s36 s37 s38 s39 s40 s41 s42 s43 s44 w) (hN : L.getD 13 true = false) (hall : ∀ j, j ∈ [11, 12] → L.getD j false = true) : IvRq x l y Z tA oA sA n nt np oc sc gv cv b0 c i k (L.setIfInBounds 13 true) s4 s24 s25 s26 s27 s28 s29 s30 s31 s32 s33 s34 s35 s36 (.int .i64 (c : Int)) s38 s39 s40 s41 s42 s43 s44 w where
  z := by rw [Array.size_setIfInBounds]; exact H.z
  bel := fun n => (H.bel (by rwa [getD_set_ne _ (by decide)] at n))
  c0 := fun h => H.c0 (by rwa [getD_set_ne _ (by decide)] at h)
  c1 := fun h => H.c1 (by rwa [getD_set_ne _ (by decide)] at h)
  c2 := fun h n => H.c2 (by rwa [getD_set_ne _ (by decide)] at h) (by rwa [getD_set_ne _ (by decide)] at n)
  c3 := fun h => H.c3 (by rwa [getD_set_ne _ (by decide)] at h)
  c4 := fun h => H.c4 (by rwa [getD_set_ne _ (by decide)] at h)
  c5 := fun h => H.c5 (by rwa [getD_set_ne _ (by decide)] at h)
  c6 := fun h n => H.c6 (by rwa [getD_set_ne _ (by decide)] at h) (by rwa [getD_set_ne _ (by decide)] at n)
  c7 := fun h n => H.c7 (by rwa [getD_set_ne _ (by decide)] at h) (by rwa [getD_set_ne _ (by decide)] at n)
  c8 := fun h => H.c8 (by rwa [getD_set_ne _ (by decide)] at h)
  c9 := fun h => H.c9 (by rwa [getD_set_ne _ (by decide)] at h)
  c10 := fun h n => H.c10 (by rwa [getD_set_ne _ (by decide)] at h) (by rwa [getD_set_ne _ (by decide)] at n)
  c11 := fun h => H.c11 (by rwa [getD_set_ne _ (by decide)] at h)
  c12 := fun h => H.c12 (by rwa [getD_set_ne _ (by decide)] at h)
  c13 := fun _ => rfl
  c14 := fun h n => H.c14 (by rwa [getD_set_ne _ (by decide)] at h) (by rwa [getD_set_ne _ (by decide)] at n)
  c15 := fun h n => H.c15 (by rwa [getD_set_ne _ (by decide)] at h) (by rwa [getD_set_ne _ (by decide)] at n)
  c16 := fun h => H.c16 (by rwa [getD_set_ne _ (by decide)] at h)
  c17 := fun h n => H.c17 (by rwa [getD_set_ne _ (by decide)] at h) (by rwa [getD_set_ne _ (by decide)] at n)
  c18 := fun h n => H.c18 (by rwa [getD_set_ne _ (by decide)] at h) (by rwa [getD_set_ne _ (by decide)] at n)
  c19 := fun h n => H.c19 (by rwa [getD_set_ne _ (by decide)] at h) (by rwa [getD_set_ne _ (by decide)] at n)
  c20 := fun h => H.c20 (by rwa [getD_set_ne _ (by decide)] at h)
  c21 := fun h => H.c21 (by rwa [getD_set_ne _ (by decide)] at h)
  g2 := fun h j hj => by
    by_cases e : j = 13
    · subst e; exact getD_set_same H.z (by decide)
    · rw [getD_set_ne _ (fun q => e q.symm)]; exact H.g2 (by rwa [getD_set_ne _ (by decide)] at h) j hj
  g4 := fun h j hj => by
    by_cases e : j = 13
    · subst e; exact getD_set_same H.z (by decide)
    · rw [getD_set_ne _ (fun q => e q.symm)]; exact H.g4 (by rwa [getD_set_ne _ (by decide)] at h) j hj
  g5 := fun h j hj => by
    by_cases e : j = 13
    · subst e; exact getD_set_same H.z (by decide)
    · rw [getD_set_ne _ (fun q => e q.symm)]; exact H.g5 (by rwa [getD_set_ne _ (by decide)] at h) j hj
  g6 := fun h j hj => by
    by_cases e : j = 13
    · subst e; exact getD_set_same H.z (by decide)
    · rw [getD_set_ne _ (fun q => e q.symm)]; exact H.g6 (by rwa [getD_set_ne _ (by decide)] at h) j hj
  g7 := fun h j hj => by
    by_cases e : j = 13
    · subst e; exact getD_set_same H.z (by decide)
    · rw [getD_set_ne _ (fun q => e q.symm)]; exact H.g7 (by rwa [getD_set_ne _ (by decide)] at h) j hj
  g10 := fun h j hj => by
    by_cases e : j = 13
    · subst e; exact getD_set_same H.z (by decide)
    · rw [getD_set_ne _ (fun q => e q.symm)]; exact H.g10 (by rwa [getD_set_ne _ (by decide)] at h) j hj
  g12 := fun h j hj => by
    by_cases e : j = 13
    · subst e; exact getD_set_same H.z (by decide)
    · rw [getD_set_ne _ (fun q => e q.symm)]; exact H.g12 (by rwa [getD_set_ne _ (by decide)] at h) j hj
  g13 := fun _ j hj => by rw [getD_set_ne _ (by rintro rfl; exact absurd hj (by decide))]; exact hall j hj
  g14 := fun h j hj => by
    by_cases e : j = 13
    · subst e; exact getD_set_same H.z (by decide)
    · rw [getD_set_ne _ (fun q => e q.symm)]; exact H.g14 (by rwa [getD_set_ne _ (by decide)] at h) j hj
  g15 := fun h j hj => by
    by_cases e : j = 13
    · subst e; exact getD_set_same H.z (by decide)
    · rw [getD_set_ne _ (fun q => e q.symm)]; exact H.g15 (by rwa [getD_set_ne _ (by decide)] at h) j hj
  g17 := fun h j hj => by
    by_cases e : j = 13
    · subst e; exact getD_set_same H.z (by decide)
    · rw [getD_set_ne _ (fun q => e q.symm)]; exact H.g17 (by rwa [getD_set_ne _ (by decide)] at h) j hj
  g18 := fun h j hj => by
    by_cases e : j = 13
    · subst e; exact getD_set_same H.z (by decide)
    · rw [getD_set_ne _ (fun q => e q.symm)]; exact H.g18 (by rwa [getD_set_ne _ (by decide)] at h) j hj
  g19 := fun h j hj => by
    by_cases e : j = 13
    · subst e; exact getD_set_same H.z (by decide)
    · rw [getD_set_ne _ (fun q => e q.symm)]; exact H.g19 (by rwa [getD_set_ne _ (by decide)] at h) j hj
  g20 := fun h j hj => by
    by_cases e : j = 13
    · subst e; exact getD_set_same H.z (by decide)
    · rw [getD_set_ne _ (fun q => e q.symm)]; exact H.g20 (by rwa [getD_set_ne _ (by decide)] at h) j hj
  g21 := fun h j hj => by
    by_cases e : j = 13
    · subst e; exact getD_set_same H.z (by decide)
    · rw [getD_set_ne _ (fun q => e q.symm)]; exact H.g21 (by rwa [getD_set_ne _ (by decide)] at h) j hj
  i4 := fun n => H.i4 (by rwa [getD_set_ne _ (by decide)] at n)
theorem IvRq.o14 {x : World} {l : List Tm} {y : World} {Z : LLI} {tA oA sA : Option Addr} {n nt np oc sc gv cv b0 c i k : Nat} {L : Array Bool} {s4 s24 s25 s26 s27 s28 s29 s30 s31 s32 s33 s34 s35 s36 s37 s38 s39 s40 s41 s42 s43 s44 : Value} {w : World} (H : IvRq x l y Z tA oA sA n nt np oc sc gv cv b0 c i k L s4 s24 s25 s26 s27 s28 s29 s30 s31 s32 s33 s34 s35 s36 s37 s38 s39 s40 s41 s42 s43 s44 w) (hN : L.getD 14 true = false) (hall : ∀ j, j ∈ [1, 2, 3, 4, 5, 6, 7, 9, 10, 11, 12, 13] → L.getD j false = true) {u : Value} (hR : RqP l c w u) : IvRq x l y Z tA oA sA n nt np oc sc gv cv b0 c i k (L.setIfInBounds 14 true) s4 s24 s25 s26 s27 s28 s29 s30 s31 s32 s33 s34 s35 s36 s37 u s39 s40 s41 s42 s43 s44 w where
  z := by rw [Array.size_setIfInBounds]; exact H.z
  bel := fun n => (H.bel (by rwa [getD_set_ne _ (by decide)] at n))
  c0 := fun h => H.c0 (by rwa [getD_set_ne _ (by decide)] at h)
  c1 := fun h => H.c1 (by rwa [getD_set_ne _ (by decide)] at h)
  c2 := fun h n => H.c2 (by rwa [getD_set_ne _ (by decide)] at h) (by rwa [getD_set_ne _ (by decide)] at n)
  c3 := fun h => H.c3 (by rwa [getD_set_ne _ (by decide)] at h)
  c4 := fun h => H.c4 (by rwa [getD_set_ne _ (by decide)] at h)
  c5 := fun h => H.c5 (by rwa [getD_set_ne _ (by decide)] at h)
  c6 := fun h n => H.c6 (by rwa [getD_set_ne _ (by decide)] at h) (by rwa [getD_set_ne _ (by decide)] at n)
  c7 := fun h n => H.c7 (by rwa [getD_set_ne _ (by decide)] at h) (by rwa [getD_set_ne _ (by decide)] at n)
  c8 := fun h => H.c8 (by rwa [getD_set_ne _ (by decide)] at h)
  c9 := fun h => H.c9 (by rwa [getD_set_ne _ (by decide)] at h)
  c10 := fun h n => H.c10 (by rwa [getD_set_ne _ (by decide)] at h) (by rwa [getD_set_ne _ (by decide)] at n)
  c11 := fun h => H.c11 (by rwa [getD_set_ne _ (by decide)] at h)
  c12 := fun h => H.c12 (by rwa [getD_set_ne _ (by decide)] at h)
  c13 := fun h => H.c13 (by rwa [getD_set_ne _ (by decide)] at h)
  c14 := fun h n => hR
  c15 := fun h n => H.c15 (by rwa [getD_set_ne _ (by decide)] at h) (by rwa [getD_set_ne _ (by decide)] at n)
  c16 := fun h => H.c16 (by rwa [getD_set_ne _ (by decide)] at h)
  c17 := fun h n => H.c17 (by rwa [getD_set_ne _ (by decide)] at h) (by rwa [getD_set_ne _ (by decide)] at n)
  c18 := fun h n => H.c18 (by rwa [getD_set_ne _ (by decide)] at h) (by rwa [getD_set_ne _ (by decide)] at n)
  c19 := fun h n => H.c19 (by rwa [getD_set_ne _ (by decide)] at h) (by rwa [getD_set_ne _ (by decide)] at n)
  c20 := fun h => H.c20 (by rwa [getD_set_ne _ (by decide)] at h)
  c21 := fun h => H.c21 (by rwa [getD_set_ne _ (by decide)] at h)
  g2 := fun h j hj => by
    by_cases e : j = 14
    · subst e; exact getD_set_same H.z (by decide)
    · rw [getD_set_ne _ (fun q => e q.symm)]; exact H.g2 (by rwa [getD_set_ne _ (by decide)] at h) j hj
  g4 := fun h j hj => by
    by_cases e : j = 14
    · subst e; exact getD_set_same H.z (by decide)
    · rw [getD_set_ne _ (fun q => e q.symm)]; exact H.g4 (by rwa [getD_set_ne _ (by decide)] at h) j hj
  g5 := fun h j hj => by
    by_cases e : j = 14
    · subst e; exact getD_set_same H.z (by decide)
    · rw [getD_set_ne _ (fun q => e q.symm)]; exact H.g5 (by rwa [getD_set_ne _ (by decide)] at h) j hj
  g6 := fun h j hj => by
    by_cases e : j = 14
    · subst e; exact getD_set_same H.z (by decide)
    · rw [getD_set_ne _ (fun q => e q.symm)]; exact H.g6 (by rwa [getD_set_ne _ (by decide)] at h) j hj
  g7 := fun h j hj => by
    by_cases e : j = 14
    · subst e; exact getD_set_same H.z (by decide)
    · rw [getD_set_ne _ (fun q => e q.symm)]; exact H.g7 (by rwa [getD_set_ne _ (by decide)] at h) j hj
  g10 := fun h j hj => by
    by_cases e : j = 14
    · subst e; exact getD_set_same H.z (by decide)
    · rw [getD_set_ne _ (fun q => e q.symm)]; exact H.g10 (by rwa [getD_set_ne _ (by decide)] at h) j hj
  g12 := fun h j hj => by
    by_cases e : j = 14
    · subst e; exact getD_set_same H.z (by decide)
    · rw [getD_set_ne _ (fun q => e q.symm)]; exact H.g12 (by rwa [getD_set_ne _ (by decide)] at h) j hj
  g13 := fun h j hj => by
    by_cases e : j = 14
    · subst e; exact getD_set_same H.z (by decide)
    · rw [getD_set_ne _ (fun q => e q.symm)]; exact H.g13 (by rwa [getD_set_ne _ (by decide)] at h) j hj
  g14 := fun _ j hj => by rw [getD_set_ne _ (by rintro rfl; exact absurd hj (by decide))]; exact hall j hj
  g15 := fun h j hj => by
    by_cases e : j = 14
    · subst e; exact getD_set_same H.z (by decide)
    · rw [getD_set_ne _ (fun q => e q.symm)]; exact H.g15 (by rwa [getD_set_ne _ (by decide)] at h) j hj
  g17 := fun h j hj => by
    by_cases e : j = 14
    · subst e; exact getD_set_same H.z (by decide)
    · rw [getD_set_ne _ (fun q => e q.symm)]; exact H.g17 (by rwa [getD_set_ne _ (by decide)] at h) j hj
  g18 := fun h j hj => by
    by_cases e : j = 14
    · subst e; exact getD_set_same H.z (by decide)
    · rw [getD_set_ne _ (fun q => e q.symm)]; exact H.g18 (by rwa [getD_set_ne _ (by decide)] at h) j hj
  g19 := fun h j hj => by
    by_cases e : j = 14
    · subst e; exact getD_set_same H.z (by decide)
    · rw [getD_set_ne _ (fun q => e q.symm)]; exact H.g19 (by rwa [getD_set_ne _ (by decide)] at h) j hj
  g20 := fun h j hj => by
    by_cases e : j = 14
    · subst e; exact getD_set_same H.z (by decide)
    · rw [getD_set_ne _ (fun q => e q.symm)]; exact H.g20 (by rwa [getD_set_ne _ (by decide)] at h) j hj
  g21 := fun h j hj => by
    by_cases e : j = 14
    · subst e; exact getD_set_same H.z (by decide)
    · rw [getD_set_ne _ (fun q => e q.symm)]; exact H.g21 (by rwa [getD_set_ne _ (by decide)] at h) j hj
  i4 := fun n => H.i4 (by rwa [getD_set_ne _ (by decide)] at n)
theorem IvRq.o15 {x : World} {l : List Tm} {y : World} {Z : LLI} {tA oA sA : Option Addr} {n nt np oc sc gv cv b0 c i k : Nat} {L : Array Bool} {s4 s24 s25 s26 s27 s28 s29 s30 s31 s32 s33 s34 s35 s36 s37 s38 s39 s40 s41 s42 s43 s44 : Value} {w : World} (H : IvRq x l y Z tA oA sA n nt np oc sc gv cv b0 c i k L s4 s24 s25 s26 s27 s28 s29 s30 s31 s32 s33 s34 s35 s36 s37 s38 s39 s40 s41 s42 s43 s44 w) (hN : L.getD 15 true = false) (hall : ∀ j, j ∈ [1, 2, 3, 4, 5, 6, 7, 9, 10, 11, 12, 13, 14] → L.getD j false = true) {u : Value} (hR : RqV l c w u) : IvRq x l y Z tA oA sA n nt np oc sc gv cv b0 c i k (L.setIfInBounds 15 true) s4 s24 s25 s26 s27 s28 s29 s30 s31 s32 s33 s34 s35 s36 s37 s38 u s40 s41 s42 s43 s44 w where
  z := by rw [Array.size_setIfInBounds]; exact H.z
  bel := fun n => (H.bel (by rwa [getD_set_ne _ (by decide)] at n))
  c0 := fun h => H.c0 (by rwa [getD_set_ne _ (by decide)] at h)
  c1 := fun h => H.c1 (by rwa [getD_set_ne _ (by decide)] at h)
  c2 := fun h n => H.c2 (by rwa [getD_set_ne _ (by decide)] at h) (by rwa [getD_set_ne _ (by decide)] at n)
  c3 := fun h => H.c3 (by rwa [getD_set_ne _ (by decide)] at h)
  c4 := fun h => H.c4 (by rwa [getD_set_ne _ (by decide)] at h)
  c5 := fun h => H.c5 (by rwa [getD_set_ne _ (by decide)] at h)
  c6 := fun h n => H.c6 (by rwa [getD_set_ne _ (by decide)] at h) (by rwa [getD_set_ne _ (by decide)] at n)
  c7 := fun h n => H.c7 (by rwa [getD_set_ne _ (by decide)] at h) (by rwa [getD_set_ne _ (by decide)] at n)
  c8 := fun h => H.c8 (by rwa [getD_set_ne _ (by decide)] at h)
  c9 := fun h => H.c9 (by rwa [getD_set_ne _ (by decide)] at h)
  c10 := fun h n => H.c10 (by rwa [getD_set_ne _ (by decide)] at h) (by rwa [getD_set_ne _ (by decide)] at n)
  c11 := fun h => H.c11 (by rwa [getD_set_ne _ (by decide)] at h)
  c12 := fun h => H.c12 (by rwa [getD_set_ne _ (by decide)] at h)
  c13 := fun h => H.c13 (by rwa [getD_set_ne _ (by decide)] at h)
  c14 := fun h n => H.c14 (by rwa [getD_set_ne _ (by decide)] at h) (by rwa [getD_set_ne _ (by decide)] at n)
  c15 := fun h n => hR
  c16 := fun h => H.c16 (by rwa [getD_set_ne _ (by decide)] at h)
  c17 := fun h n => H.c17 (by rwa [getD_set_ne _ (by decide)] at h) (by rwa [getD_set_ne _ (by decide)] at n)
  c18 := fun h n => H.c18 (by rwa [getD_set_ne _ (by decide)] at h) (by rwa [getD_set_ne _ (by decide)] at n)
  c19 := fun h n => H.c19 (by rwa [getD_set_ne _ (by decide)] at h) (by rwa [getD_set_ne _ (by decide)] at n)
  c20 := fun h => H.c20 (by rwa [getD_set_ne _ (by decide)] at h)
  c21 := fun h => H.c21 (by rwa [getD_set_ne _ (by decide)] at h)
  g2 := fun h j hj => by
    by_cases e : j = 15
    · subst e; exact getD_set_same H.z (by decide)
    · rw [getD_set_ne _ (fun q => e q.symm)]; exact H.g2 (by rwa [getD_set_ne _ (by decide)] at h) j hj
  g4 := fun h j hj => by
    by_cases e : j = 15
    · subst e; exact getD_set_same H.z (by decide)
    · rw [getD_set_ne _ (fun q => e q.symm)]; exact H.g4 (by rwa [getD_set_ne _ (by decide)] at h) j hj
  g5 := fun h j hj => by
    by_cases e : j = 15
    · subst e; exact getD_set_same H.z (by decide)
    · rw [getD_set_ne _ (fun q => e q.symm)]; exact H.g5 (by rwa [getD_set_ne _ (by decide)] at h) j hj
  g6 := fun h j hj => by
    by_cases e : j = 15
    · subst e; exact getD_set_same H.z (by decide)
    · rw [getD_set_ne _ (fun q => e q.symm)]; exact H.g6 (by rwa [getD_set_ne _ (by decide)] at h) j hj
  g7 := fun h j hj => by
    by_cases e : j = 15
    · subst e; exact getD_set_same H.z (by decide)
    · rw [getD_set_ne _ (fun q => e q.symm)]; exact H.g7 (by rwa [getD_set_ne _ (by decide)] at h) j hj
  g10 := fun h j hj => by
    by_cases e : j = 15
    · subst e; exact getD_set_same H.z (by decide)
    · rw [getD_set_ne _ (fun q => e q.symm)]; exact H.g10 (by rwa [getD_set_ne _ (by decide)] at h) j hj
  g12 := fun h j hj => by
    by_cases e : j = 15
    · subst e; exact getD_set_same H.z (by decide)
    · rw [getD_set_ne _ (fun q => e q.symm)]; exact H.g12 (by rwa [getD_set_ne _ (by decide)] at h) j hj
  g13 := fun h j hj => by
    by_cases e : j = 15
    · subst e; exact getD_set_same H.z (by decide)
    · rw [getD_set_ne _ (fun q => e q.symm)]; exact H.g13 (by rwa [getD_set_ne _ (by decide)] at h) j hj
  g14 := fun h j hj => by
    by_cases e : j = 15
    · subst e; exact getD_set_same H.z (by decide)
    · rw [getD_set_ne _ (fun q => e q.symm)]; exact H.g14 (by rwa [getD_set_ne _ (by decide)] at h) j hj
  g15 := fun _ j hj => by rw [getD_set_ne _ (by rintro rfl; exact absurd hj (by decide))]; exact hall j hj
  g17 := fun h j hj => by
    by_cases e : j = 15
    · subst e; exact getD_set_same H.z (by decide)
    · rw [getD_set_ne _ (fun q => e q.symm)]; exact H.g17 (by rwa [getD_set_ne _ (by decide)] at h) j hj
  g18 := fun h j hj => by
    by_cases e : j = 15
    · subst e; exact getD_set_same H.z (by decide)
    · rw [getD_set_ne _ (fun q => e q.symm)]; exact H.g18 (by rwa [getD_set_ne _ (by decide)] at h) j hj
  g19 := fun h j hj => by
    by_cases e : j = 15
    · subst e; exact getD_set_same H.z (by decide)
    · rw [getD_set_ne _ (fun q => e q.symm)]; exact H.g19 (by rwa [getD_set_ne _ (by decide)] at h) j hj
  g20 := fun h j hj => by
    by_cases e : j = 15
    · subst e; exact getD_set_same H.z (by decide)
    · rw [getD_set_ne _ (fun q => e q.symm)]; exact H.g20 (by rwa [getD_set_ne _ (by decide)] at h) j hj
  g21 := fun h j hj => by
    by_cases e : j = 15
    · subst e; exact getD_set_same H.z (by decide)
    · rw [getD_set_ne _ (fun q => e q.symm)]; exact H.g21 (by rwa [getD_set_ne _ (by decide)] at h) j hj
  i4 := fun n => H.i4 (by rwa [getD_set_ne _ (by decide)] at n)
theorem IvRq.o16 {x : World} {l : List Tm} {y : World} {Z : LLI} {tA oA sA : Option Addr} {n nt np oc sc gv cv b0 c i k : Nat} {L : Array Bool} {s4 s24 s25 s26 s27 s28 s29 s30 s31 s32 s33 s34 s35 s36 s37 s38 s39 s40 s41 s42 s43 s44 : Value} {w : World} (H : IvRq x l y Z tA oA sA n nt np oc sc gv cv b0 c i k L s4 s24 s25 s26 s27 s28 s29 s30 s31 s32 s33 s34 s35 s36 s37 s38 s39 s40 s41 s42 s43 s44 w) (hN : L.getD 16 true = false) : IvRq x l y Z tA oA sA n nt np oc sc gv cv b0 c i k (L.setIfInBounds 16 true) s4 s24 s25 s26 s27 s28 s29 s30 s31 s32 s33 s34 s35 s36 s37 s38 s39 (.slice sA 2 sc) s41 s42 s43 s44 w where
  z := by rw [Array.size_setIfInBounds]; exact H.z
  bel := fun n => (H.bel (by rwa [getD_set_ne _ (by decide)] at n))
  c0 := fun h => H.c0 (by rwa [getD_set_ne _ (by decide)] at h)
  c1 := fun h => H.c1 (by rwa [getD_set_ne _ (by decide)] at h)
  c2 := fun h n => H.c2 (by rwa [getD_set_ne _ (by decide)] at h) (by rwa [getD_set_ne _ (by decide)] at n)
  c3 := fun h => H.c3 (by rwa [getD_set_ne _ (by decide)] at h)
  c4 := fun h => H.c4 (by rwa [getD_set_ne _ (by decide)] at h)
  c5 := fun h => H.c5 (by rwa [getD_set_ne _ (by decide)] at h)
  c6 := fun h n => H.c6 (by rwa [getD_set_ne _ (by decide)] at h) (by rwa [getD_set_ne _ (by decide)] at n)
  c7 := fun h n => H.c7 (by rwa [getD_set_ne _ (by decide)] at h) (by rwa [getD_set_ne _ (by decide)] at n)
  c8 := fun h => H.c8 (by rwa [getD_set_ne _ (by decide)] at h)
  c9 := fun h => H.c9 (by rwa [getD_set_ne _ (by decide)] at h)
  c10 := fun h n => H.c10 (by rwa [getD_set_ne _ (by decide)] at h) (by rwa [getD_set_ne _ (by decide)] at n)
  c11 := fun h => H.c11 (by rwa [getD_set_ne _ (by decide)] at h)
  c12 := fun h => H.c12 (by rwa [getD_set_ne _ (by decide)] at h)
  c13 := fun h => H.c13 (by rwa [getD_set_ne _ (by decide)] at h)
  c14 := fun h n => H.c14 (by rwa [getD_set_ne _ (by decide)] at h) (by rwa [getD_set_ne _ (by decide)] at n)
  c15 := fun h n => H.c15 (by rwa [getD_set_ne _ (by decide)] at h) (by rwa [getD_set_ne _ (by decide)] at n)
  c16 := fun _ => rfl
  c17 := fun h n => H.c17 (by rwa [getD_set_ne _ (by decide)] at h) (by rwa [getD_set_ne _ (by decide)] at n)
  c18 := fun h n => H.c18 (by rwa [getD_set_ne _ (by decide)] at h) (by rwa [getD_set_ne _ (by decide)] at n)
  c19 := fun h n => H.c19 (by rwa [getD_set_ne _ (by decide)] at h) (by rwa [getD_set_ne _ (by decide)] at n)
  c20 := fun h => H.c20 (by rwa [getD_set_ne _ (by decide)] at h)
  c21 := fun h => H.c21 (by rwa [getD_set_ne _ (by decide)] at h)
  g2 := fun h j hj => by
    by_cases e : j = 16
    · subst e; exact getD_set_same H.z (by decide)
    · rw [getD_set_ne _ (fun q => e q.symm)]; exact H.g2 (by rwa [getD_set_ne _ (by decide)] at h) j hj
  g4 := fun h j hj => by
    by_cases e : j = 16
    · subst e; exact getD_set_same H.z (by decide)
    · rw [getD_set_ne _ (fun q => e q.symm)]; exact H.g4 (by rwa [getD_set_ne _ (by decide)] at h) j hj
  g5 := fun h j hj => by
    by_cases e : j = 16
    · subst e; exact getD_set_same H.z (by decide)
    · rw [getD_set_ne _ (fun q => e q.symm)]; exact H.g5 (by rwa [getD_set_ne _ (by decide)] at h) j hj
  g6 := fun h j hj => by
    by_cases e : j = 16
    · subst e; exact getD_set_same H.z (by decide)
    · rw [getD_set_ne _ (fun q => e q.symm)]; exact H.g6 (by rwa [getD_set_ne _ (by decide)] at h) j hj
  g7 := fun h j hj => by
    by_cases e : j = 16
    · subst e; exact getD_set_same H.z (by decide)
    · rw [getD_set_ne _ (fun q => e q.symm)]; exact H.g7 (by rwa [getD_set_ne _ (by decide)] at h) j hj
  g10 := fun h j hj => by
    by_cases e : j = 16
    · subst e; exact getD_set_same H.z (by decide)
    · rw [getD_set_ne _ (fun q => e q.symm)]; exact H.g10 (by rwa [getD_set_ne _ (by decide)] at h) j hj
  g12 := fun h j hj => by
    by_cases e : j = 16
    · subst e; exact getD_set_same H.z (by decide)
    · rw [getD_set_ne _ (fun q => e q.symm)]; exact H.g12 (by rwa [getD_set_ne _ (by decide)] at h) j hj
  g13 := fun h j hj => by
    by_cases e : j = 16
    · subst e; exact getD_set_same H.z (by decide)
    · rw [getD_set_ne _ (fun q => e q.symm)]; exact H.g13 (by rwa [getD_set_ne _ (by decide)] at h) j hj
  g14 := fun h j hj => by
    by_cases e : j = 16
    · subst e; exact getD_set_same H.z (by decide)
    · rw [getD_set_ne _ (fun q => e q.symm)]; exact H.g14 (by rwa [getD_set_ne _ (by decide)] at h) j hj
  g15 := fun h j hj => by
    by_cases e : j = 16
    · subst e; exact getD_set_same H.z (by decide)
    · rw [getD_set_ne _ (fun q => e q.symm)]; exact H.g15 (by rwa [getD_set_ne _ (by decide)] at h) j hj
  g17 := fun h j hj => by
    by_cases e : j = 16
    · subst e; exact getD_set_same H.z (by decide)
    · rw [getD_set_ne _ (fun q => e q.symm)]; exact H.g17 (by rwa [getD_set_ne _ (by decide)] at h) j hj
  g18 := fun h j hj => by
    by_cases e : j = 16
    · subst e; exact getD_set_same H.z (by decide)
    · rw [getD_set_ne _ (fun q => e q.symm)]; exact H.g18 (by rwa [getD_set_ne _ (by decide)] at h) j hj
  g19 := fun h j hj => by
    by_cases e : j = 16
    · subst e; exact getD_set_same H.z (by decide)
    · rw [getD_set_ne _ (fun q => e q.symm)]; exact H.g19 (by rwa [getD_set_ne _ (by decide)] at h) j hj
  g20 := fun h j hj => by
    by_cases e : j = 16
    · subst e; exact getD_set_same H.z (by decide)
    · rw [getD_set_ne _ (fun q => e q.symm)]; exact H.g20 (by rwa [getD_set_ne _ (by decide)] at h) j hj
  g21 := fun h j hj => by
    by_cases e : j = 16
    · subst e; exact getD_set_same H.z (by decide)
    · rw [getD_set_ne _ (fun q => e q.symm)]; exact H.g21 (by rwa [getD_set_ne _ (by decide)] at h) j hj
  i4 := fun n => H.i4 (by rwa [getD_set_ne _ (by decide)] at n)
theorem IvRq.o17 {x : World} {l : List Tm} {y : World} {Z : LLI} {tA oA sA : Option Addr} {n nt np oc sc gv cv b0 c i k : Nat} {L : Array Bool} {s4 s24 s25 s26 s27 s28 s29 s30 s31 s32 s33 s34 s35 s36 s37 s38 s39 s40 s41 s42 s43 s44 : Value} {w : World} (H : IvRq x l y Z tA oA sA n nt np oc sc gv cv b0 c i k L s4 s24 s25 s26 s27 s28 s29 s30 s31 s32 s33 s34 s35 s36 s37 s38 s39 s40 s41 s42 s43 s44 w) (hN : L.getD 17 true = false) (hall : ∀ j, j ∈ [1, 2, 3, 4, 5, 6, 7, 8, 9, 10, 11, 12, 13, 14, 15, 16] → L.getD j false = true) {w' : World} (hg : Below w.heap.size w w') {u : Value} (hR : RqE l ((ceL l).getD c []) i k w' u) : IvRq x l y Z tA oA sA n nt np oc sc gv cv b0 c i k (L.setIfInBounds 17 true) s4 s24 s25 s26 s27 s28 s29 s30 s31 s32 s33 s34 s35 s36 s37 s38 s39 s40 u s42 s43 s44 w' where
  z := by rw [Array.size_setIfInBounds]; exact H.z
  bel := fun n => bel2 (H.bel (by rwa [getD_set_ne _ (by decide)] at n)) hg
  c0 := fun h => H.c0 (by rwa [getD_set_ne _ (by decide)] at h)
  c1 := fun h => H.c1 (by rwa [getD_set_ne _ (by decide)] at h)
  c2 := fun h n => (H.c2 (by rwa [getD_set_ne _ (by decide)] at h) (by rwa [getD_set_ne _ (by decide)] at n)).gr hg
  c3 := fun h => H.c3 (by rwa [getD_set_ne _ (by decide)] at h)
  c4 := fun h => H.c4 (by rwa [getD_set_ne _ (by decide)] at h)
  c5 := fun h => H.c5 (by rwa [getD_set_ne _ (by decide)] at h)
  c6 := fun h n => (H.c6 (by rwa [getD_set_ne _ (by decide)] at h) (by rwa [getD_set_ne _ (by decide)] at n)).gr hg
  c7 := fun h n => (H.c7 (by rwa [getD_set_ne _ (by decide)] at h) (by rwa [getD_set_ne _ (by decide)] at n)).gr hg
  c8 := fun h => H.c8 (by rwa [getD_set_ne _ (by decide)] at h)
  c9 := fun h => H.c9 (by rwa [getD_set_ne _ (by decide)] at h)
  c10 := fun h n => (H.c10 (by rwa [getD_set_ne _ (by decide)] at h) (by rwa [getD_set_ne _ (by decide)] at n)).gr hg
  c11 := fun h => H.c11 (by rwa [getD_set_ne _ (by decide)] at h)
  c12 := fun h => H.c12 (by rwa [getD_set_ne _ (by decide)] at h)
  c13 := fun h => H.c13 (by rwa [getD_set_ne _ (by decide)] at h)
  c14 := fun h n => (H.c14 (by rwa [getD_set_ne _ (by decide)] at h) (by rwa [getD_set_ne _ (by decide)] at n)).gr hg
  c15 := fun h n => (H.c15 (by rwa [getD_set_ne _ (by decide)] at h) (by rwa [getD_set_ne _ (by decide)] at n)).gr hg
  c16 := fun h => H.c16 (by rwa [getD_set_ne _ (by decide)] at h)
  c17 := fun h n => hR
  c18 := fun h n => (H.c18 (by rwa [getD_set_ne _ (by decide)] at h) (by rwa [getD_set_ne _ (by decide)] at n)).gr hg
  c19 := fun h n => (H.c19 (by rwa [getD_set_ne _ (by decide)] at h) (by rwa [getD_set_ne _ (by decide)] at n)).gr hg
  c20 := fun h => (H.c20 (by rwa [getD_set_ne _ (by decide)] at h)).gr hg
  c21 := fun h => (H.c21 (by rwa [getD_set_ne _ (by decide)] at h)).gr hg
  g2 := fun h j hj => by
    by_cases e : j = 17
    · subst e; exact getD_set_same H.z (by decide)
    · rw [getD_set_ne _ (fun q => e q.symm)]; exact H.g2 (by rwa [getD_set_ne _ (by decide)] at h) j hj
  g4 := fun h j hj => by
    by_cases e : j = 17
    · subst e; exact getD_set_same H.z (by decide)
    · rw [getD_set_ne _ (fun q => e q.symm)]; exact H.g4 (by rwa [getD_set_ne _ (by decide)] at h) j hj
  g5 := fun h j hj => by
    by_cases e : j = 17
    · subst e; exact getD_set_same H.z (by decide)
    · rw [getD_set_ne _ (fun q => e q.symm)]; exact H.g5 (by rwa [getD_set_ne _ (by decide)] at h) j hj
  g6 := fun h j hj => by
    by_cases e : j = 17
    · subst e; exact getD_set_same H.z (by decide)
    · rw [getD_set_ne _ (fun q => e q.symm)]; exact H.g6 (by rwa [getD_set_ne _ (by decide)] at h) j hj
  g7 := fun h j hj => by
    by_cases e : j = 17
    · subst e; exact getD_set_same H.z (by decide)
    · rw [getD_set_ne _ (fun q => e q.symm)]; exact H.g7 (by rwa [getD_set_ne _ (by decide)] at h) j hj
  g10 := fun h j hj => by
    by_cases e : j = 17
    · subst e; exact getD_set_same H.z (by decide)
    · rw [getD_set_ne _ (fun q => e q.symm)]; exact H.g10 (by rwa [getD_set_ne _ (by decide)] at h) j hj
  g12 := fun h j hj => by
    by_cases e : j = 17
    · subst e; exact getD_set_same H.z (by decide)
    · rw [getD_set_ne _ (fun q => e q.symm)]; exact H.g12 (by rwa [getD_set_ne _ (by decide)] at h) j hj
  g13 := fun h j hj => by
    by_cases e : j = 17
    · subst e; exact getD_set_same H.z (by decide)
    · rw [getD_set_ne _ (fun q => e q.symm)]; exact H.g13 (by rwa [getD_set_ne _ (by decide)] at h) j hj
  g14 := fun h j hj => by
    by_cases e : j = 17
    · subst e; exact getD_set_same H.z (by decide)
    · rw [getD_set_ne _ (fun q => e q.symm)]; exact H.g14 (by rwa [getD_set_ne _ (by decide)] at h) j hj
  g15 := fun h j hj => by
    by_cases e : j = 17
    · subst e; exact getD_set_same H.z (by decide)
    · rw [getD_set_ne _ (fun q => e q.symm)]; exact H.g15 (by rwa [getD_set_ne _ (by decide)] at h) j hj
  g17 := fun _ j hj => by rw [getD_set_ne _ (by rintro rfl; exact absurd hj (by decide))]; exact hall j hj
  g18 := fun h j hj => by
    by_cases e : j = 17
    · subst e; exact getD_set_same H.z (by decide)
    · rw [getD_set_ne _ (fun q => e q.symm)]; exact H.g18 (by rwa [getD_set_ne _ (by decide)] at h) j hj
  g19 := fun h j hj => by
    by_cases e : j = 17
    · subst e; exact getD_set_same H.z (by decide)
    · rw [getD_set_ne _ (fun q => e q.symm)]; exact H.g19 (by rwa [getD_set_ne _ (by decide)] at h) j hj
  g20 := fun h j hj => by
    by_cases e : j = 17
    · subst e; exact getD_set_same H.z (by decide)
    · rw [getD_set_ne _ (fun q => e q.symm)]; exact H.g20 (by rwa [getD_set_ne _ (by decide)] at h) j hj
  g21 := fun h j hj => by
    by_cases e : j = 17
    · subst e; exact getD_set_same H.z (by decide)
    · rw [getD_set_ne _ (fun q => e q.symm)]; exact H.g21 (by rwa [getD_set_ne _ (by decide)] at h) j hj
  i4 := fun n => H.i4 (by rwa [getD_set_ne _ (by decide)] at n)
theorem IvRq.o18 {x : World} {l : List Tm} {y : World} {Z : LLI} {tA oA sA : Option Addr} {n nt np oc sc gv cv b0 c i k : Nat} {L : Array Bool} {s4 s24 s25 s26 s27 s28 s29 s30 s31 s32 s33 s34 s35 s36 s37 s38 s39 s40 s41 s42 s43 s44 : Value} {w : World} (H : IvRq x l y Z tA oA sA n nt np oc sc gv cv b0 c i k L s4 s24 s25 s26 s27 s28 s29 s30 s31 s32 s33 s34 s35 s36 s37 s38 s39 s40 s41 s42 s43 s44 w) (hN : L.getD 18 true = false) (hall : ∀ j, j ∈ [1, 2, 3, 4, 5, 6, 7, 8, 9, 10, 11, 12, 13, 14, 15, 16, 17] → L.getD j false = true) {w' : World} (hb : Below x.heap.size x w') {u : Value} (hR : RqI b0 ([(i : Int), (k : Int), (c : Int)] ++ enT l ((ceL l).getD c []) i k) w' u) : IvRq x l y Z tA oA sA n nt np oc sc gv cv b0 c i k (L.setIfInBounds 18 true) s4 s24 s25 s26 s27 s28 s29 s30 s31 s32 s33 s34 s35 s36 s37 s38 s39 s40 s41 u s43 s44 w' where
  z := by rw [Array.size_setIfInBounds]; exact H.z
  bel := fun _ => hb
  c0 := fun h => H.c0 (by rwa [getD_set_ne _ (by decide)] at h)
  c1 := fun h => H.c1 (by rwa [getD_set_ne _ (by decide)] at h)
  c2 := fun h n => by have e := hall 7 (by decide); rw [getD_set_ne _ (by decide)] at n; rw [n] at e; cases e
  c3 := fun h => H.c3 (by rwa [getD_set_ne _ (by decide)] at h)
  c4 := fun h => H.c4 (by rwa [getD_set_ne _ (by decide)] at h)
  c5 := fun h => H.c5 (by rwa [getD_set_ne _ (by decide)] at h)
  c6 := fun h n => by have e := hall 7 (by decide); rw [getD_set_ne _ (by decide)] at n; rw [n] at e; cases e
  c7 := fun h n => (by have e := getD_set_same (L := L) H.z (show 18 < 22 by decide); rw [n] at e; cases e)
  c8 := fun h => H.c8 (by rwa [getD_set_ne _ (by decide)] at h)
  c9 := fun h => H.c9 (by rwa [getD_set_ne _ (by decide)] at h)
  c10 := fun h n => (by have e := getD_set_same (L := L) H.z (show 18 < 22 by decide); rw [n] at e; cases e)
  c11 := fun h => H.c11 (by rwa [getD_set_ne _ (by decide)] at h)
  c12 := fun h => H.c12 (by rwa [getD_set_ne _ (by decide)] at h)
  c13 := fun h => H.c13 (by rwa [getD_set_ne _ (by decide)] at h)
  c14 := fun h n => (by have e := getD_set_same (L := L) H.z (show 18 < 22 by decide); rw [n] at e; cases e)
  c15 := fun h n => (by have e := getD_set_same (L := L) H.z (show 18 < 22 by decide); rw [n] at e; cases e)
  c16 := fun h => H.c16 (by rwa [getD_set_ne _ (by decide)] at h)
  c17 := fun h n => (by have e := getD_set_same (L := L) H.z (show 18 < 22 by decide); rw [n] at e; cases e)
  c18 := fun h n => hR
  c19 := fun h n => (notl hN (H.g19 (by rwa [getD_set_ne _ (by decide)] at h) 18 (by decide))).elim
  c20 := fun h => (notl hN (H.g20 (by rwa [getD_set_ne _ (by decide)] at h) 18 (by decide))).elim
  c21 := fun h => (notl hN (H.g21 (by rwa [getD_set_ne _ (by decide)] at h) 18 (by decide))).elim
  g2 := fun h j hj => by
    by_cases e : j = 18
    · subst e; exact getD_set_same H.z (by decide)
    · rw [getD_set_ne _ (fun q => e q.symm)]; exact H.g2 (by rwa [getD_set_ne _ (by decide)] at h) j hj
  g4 := fun h j hj => by
    by_cases e : j = 18
    · subst e; exact getD_set_same H.z (by decide)
    · rw [getD_set_ne _ (fun q => e q.symm)]; exact H.g4 (by rwa [getD_set_ne _ (by decide)] at h) j hj
  g5 := fun h j hj => by
    by_cases e : j = 18
    · subst e; exact getD_set_same H.z (by decide)
    · rw [getD_set_ne _ (fun q => e q.symm)]; exact H.g5 (by rwa [getD_set_ne _ (by decide)] at h) j hj
  g6 := fun h j hj => by
    by_cases e : j = 18
    · subst e; exact getD_set_same H.z (by decide)
    · rw [getD_set_ne _ (fun q => e q.symm)]; exact H.g6 (by rwa [getD_set_ne _ (by decide)] at h) j hj
  g7 := fun h j hj => by
    by_cases e : j = 18
    · subst e; exact getD_set_same H.z (by decide)
    · rw [getD_set_ne _ (fun q => e q.symm)]; exact H.g7 (by rwa [getD_set_ne _ (by decide)] at h) j hj
  g10 := fun h j hj => by
    by_cases e : j = 18
    · subst e; exact getD_set_same H.z (by decide)
    · rw [getD_set_ne _ (fun q => e q.symm)]; exact H.g10 (by rwa [getD_set_ne _ (by decide)] at h) j hj
  g12 := fun h j hj => by
    by_cases e : j = 18
    · subst e; exact getD_set_same H.z (by decide)
    · rw [getD_set_ne _ (fun q => e q.symm)]; exact H.g12 (by rwa [getD_set_ne _ (by decide)] at h) j hj
  g13 := fun h j hj => by
    by_cases e : j = 18
    · subst e; exact getD_set_same H.z (by decide)
    · rw [getD_set_ne _ (fun q => e q.symm)]; exact H.g13 (by rwa [getD_set_ne _ (by decide)] at h) j hj
  g14 := fun h j hj => by
    by_cases e : j = 18
    · subst e; exact getD_set_same H.z (by decide)
    · rw [getD_set_ne _ (fun q => e q.symm)]; exact H.g14 (by rwa [getD_set_ne _ (by decide)] at h) j hj
  g15 := fun h j hj => by
    by_cases e : j = 18
    · subst e; exact getD_set_same H.z (by decide)
    · rw [getD_set_ne _ (fun q => e q.symm)]; exact H.g15 (by rwa [getD_set_ne _ (by decide)] at h) j hj
  g17 := fun h j hj => by
    by_cases e : j = 18
    · subst e; exact getD_set_same H.z (by decide)
    · rw [getD_set_ne _ (fun q => e q.symm)]; exact H.g17 (by rwa [getD_set_ne _ (by decide)] at h) j hj
  g18 := fun _ j hj => by rw [getD_set_ne _ (by rintro rfl; exact absurd hj (by decide))]; exact hall j hj
  g19 := fun h j hj => by
    by_cases e : j = 18
    · subst e; exact getD_set_same H.z (by decide)
    · rw [getD_set_ne _ (fun q => e q.symm)]; exact H.g19 (by rwa [getD_set_ne _ (by decide)] at h) j hj
  g20 := fun h j hj => by
    by_cases e : j = 18
    · subst e; exact getD_set_same H.z (by decide)
    · rw [getD_set_ne _ (fun q => e q.symm)]; exact H.g20 (by rwa [getD_set_ne _ (by decide)] at h) j hj
  g21 := fun h j hj => by
    by_cases e : j = 18
    · subst e; exact getD_set_same H.z (by decide)
    · rw [getD_set_ne _ (fun q => e q.symm)]; exact H.g21 (by rwa [getD_set_ne _ (by decide)] at h) j hj
  i4 := fun n => H.i4 (by rwa [getD_set_ne _ (by decide)] at n)
theorem IvRq.o19 {x : World} {l : List Tm} {y : World} {Z : LLI} {tA oA sA : Option Addr} {n nt np oc sc gv cv b0 c i k : Nat} {L : Array Bool} {s4 s24 s25 s26 s27 s28 s29 s30 s31 s32 s33 s34 s35 s36 s37 s38 s39 s40 s41 s42 s43 s44 : Value} {w : World} (H : IvRq x l y Z tA oA sA n nt np oc sc gv cv b0 c i k L s4 s24 s25 s26 s27 s28 s29 s30 s31 s32 s33 s34 s35 s36 s37 s38 s39 s40 s41 s42 s43 s44 w) (hN : L.getD 19 true = false) (hall : ∀ j, j ∈ [1, 2, 3, 4, 5, 6, 7, 8, 9, 10, 11, 12, 13, 14, 15, 16, 17, 18] → L.getD j false = true) {w' : World} (hg : Below w.heap.size w w') {u : Value} (hR : RqS b0 ([(i : Int), (k : Int), (c : Int)] ++ enT l ((ceL l).getD c []) i k) w' u) : IvRq x l y Z tA oA sA n nt np oc sc gv cv b0 c i k (L.setIfInBounds 19 true) s4 s24 s25 s26 s27 s28 s29 s30 s31 s32 s33 s34 s35 s36 s37 s38 s39 s40 s41 s42 u s44 w' where
  z := by rw [Array.size_setIfInBounds]; exact H.z
  bel := fun n => bel2 (H.bel (by rwa [getD_set_ne _ (by decide)] at n)) hg
  c0 := fun h => H.c0 (by rwa [getD_set_ne _ (by decide)] at h)
  c1 := fun h => H.c1 (by rwa [getD_set_ne _ (by decide)] at h)
  c2 := fun h n => (H.c2 (by rwa [getD_set_ne _ (by decide)] at h) (by rwa [getD_set_ne _ (by decide)] at n)).gr hg
  c3 := fun h => H.c3 (by rwa [getD_set_ne _ (by decide)] at h)
  c4 := fun h => H.c4 (by rwa [getD_set_ne _ (by decide)] at h)
  c5 := fun h => H.c5 (by rwa [getD_set_ne _ (by decide)] at h)
  c6 := fun h n => (H.c6 (by rwa [getD_set_ne _ (by decide)] at h) (by rwa [getD_set_ne _ (by decide)] at n)).gr hg
  c7 := fun h n => (H.c7 (by rwa [getD_set_ne _ (by decide)] at h) (by rwa [getD_set_ne _ (by decide)] at n)).gr hg
  c8 := fun h => H.c8 (by rwa [getD_set_ne _ (by decide)] at h)
  c9 := fun h => H.c9 (by rwa [getD_set_ne _ (by decide)] at h)
  c10 := fun h n => (H.c10 (by rwa [getD_set_ne _ (by decide)] at h) (by rwa [getD_set_ne _ (by decide)] at n)).gr hg
  c11 := fun h => H.c11 (by rwa [getD_set_ne _ (by decide)] at h)
  c12 := fun h => H.c12 (by rwa [getD_set_ne _ (by decide)] at h)
  c13 := fun h => H.c13 (by rwa [getD_set_ne _ (by decide)] at h)
  c14 := fun h n => (H.c14 (by rwa [getD_set_ne _ (by decide)] at h) (by rwa [getD_set_ne _ (by decide)] at n)).gr hg
  c15 := fun h n => (H.c15 (by rwa [getD_set_ne _ (by decide)] at h) (by rwa [getD_set_ne _ (by decide)] at n)).gr hg
  c16 := fun h => H.c16 (by rwa [getD_set_ne _ (by decide)] at h)
  c17 := fun h n => (H.c17 (by rwa [getD_set_ne _ (by decide)] at h) (by rwa [getD_set_ne _ (by decide)] at n)).gr hg
  c18 := fun h n => (H.c18 (by rwa [getD_set_ne _ (by decide)] at h) (by rwa [getD_set_ne _ (by decide)] at n)).gr hg
  c19 := fun h n => hR
  c20 := fun h => (H.c20 (by rwa [getD_set_ne _ (by decide)] at h)).gr hg
  c21 := fun h => (H.c21 (by rwa [getD_set_ne _ (by decide)] at h)).gr hg
  g2 := fun h j hj => by
    by_cases e : j = 19
    · subst e; exact getD_set_same H.z (by decide)
    · rw [getD_set_ne _ (fun q => e q.symm)]; exact H.g2 (by rwa [getD_set_ne _ (by decide)] at h) j hj
  g4 := fun h j hj => by
    by_cases e : j = 19
    · subst e; exact getD_set_same H.z (by decide)
    · rw [getD_set_ne _ (fun q => e q.symm)]; exact H.g4 (by rwa [getD_set_ne _ (by decide)] at h) j hj
  g5 := fun h j hj => by
    by_cases e : j = 19
    · subst e; exact getD_set_same H.z (by decide)
    · rw [getD_set_ne _ (fun q => e q.symm)]; exact H.g5 (by rwa [getD_set_ne _ (by decide)] at h) j hj
  g6 := fun h j hj => by
    by_cases e : j = 19
    · subst e; exact getD_set_same H.z (by decide)
    · rw [getD_set_ne _ (fun q => e q.symm)]; exact H.g6 (by rwa [getD_set_ne _ (by decide)] at h) j hj
  g7 := fun h j hj => by
    by_cases e : j = 19
    · subst e; exact getD_set_same H.z (by decide)
    · rw [getD_set_ne _ (fun q => e q.symm)]; exact H.g7 (by rwa [getD_set_ne _ (by decide)] at h) j hj
  g10 := fun h j hj => by
    by_cases e : j = 19
    · subst e; exact getD_set_same H.z (by decide)
    · rw [getD_set_ne _ (fun q => e q.symm)]; exact H.g10 (by rwa [getD_set_ne _ (by decide)] at h) j hj
  g12 := fun h j hj => by
    by_cases e : j = 19
    · subst e; exact getD_set_same H.z (by decide)
    · rw [getD_set_ne _ (fun q => e q.symm)]; exact H.g12 (by rwa [getD_set_ne _ (by decide)] at h) j hj
  g13 := fun h j hj => by
    by_cases e : j = 19
    · subst e; exact getD_set_same H.z (by decide)
    · rw [getD_set_ne _ (fun q => e q.symm)]; exact H.g13 (by rwa [getD_set_ne _ (by decide)] at h) j hj
  g14 := fun h j hj => by
    by_cases e : j = 19
    · subst e; exact getD_set_same H.z (by decide)
    · rw [getD_set_ne _ (fun q => e q.symm)]; exact H.g14 (by rwa [getD_set_ne _ (by decide)] at h) j hj
  g15 := fun h j hj => by
    by_cases e : j = 19
    · subst e; exact getD_set_same H.z (by decide)
    · rw [getD_set_ne _ (fun q => e q.symm)]; exact H.g15 (by rwa [getD_set_ne _ (by decide)] at h) j hj
  g17 := fun h j hj => by
    by_cases e : j = 19
    · subst e; exact getD_set_same H.z (by decide)
    · rw [getD_set_ne _ (fun q => e q.symm)]; exact H.g17 (by rwa [getD_set_ne _ (by decide)] at h) j hj
  g18 := fun h j hj => by
    by_cases e : j = 19
    · subst e; exact getD_set_same H.z (by decide)
    · rw [getD_set_ne _ (fun q => e q.symm)]; exact H.g18 (by rwa [getD_set_ne _ (by decide)] at h) j hj
  g19 := fun _ j hj => by rw [getD_set_ne _ (by rintro rfl; exact absurd hj (by decide))]; exact hall j hj
  g20 := fun h j hj => by
    by_cases e : j = 19
    · subst e; exact getD_set_same H.z (by decide)
    · rw [getD_set_ne _ (fun q => e q.symm)]; exact H.g20 (by rwa [getD_set_ne _ (by decide)] at h) j hj
  g21 := fun h j hj => by
    by_cases e : j = 19
    · subst e; exact getD_set_same H.z (by decide)
    · rw [getD_set_ne _ (fun q => e q.symm)]; exact H.g21 (by rwa [getD_set_ne _ (by decide)] at h) j hj
  i4 := fun n => H.i4 (by rwa [getD_set_ne _ (by decide)] at n)
theorem IvRq.o20 {x : World} {l : List Tm} {y : World} {Z : LLI} {tA oA sA : Option Addr} {n nt np oc sc gv cv b0 c i k : Nat} {L : Array Bool} {s4 s24 s25 s26 s27 s28 s29 s30 s31 s32 s33 s34 s35 s36 s37 s38 s39 s40 s41 s42 s43 s44 : Value} {w : World} (H : IvRq x l y Z tA oA sA n nt np oc sc gv cv b0 c i k L s4 s24 s25 s26 s27 s28 s29 s30 s31 s32 s33 s34 s35 s36 s37 s38 s39 s40 s41 s42 s43 s44 w) (hN : L.getD 20 true = false) (hall : ∀ j, j ∈ [0, 1, 2, 3, 4, 5, 6, 7, 8, 9, 10, 11, 12, 13, 14, 15, 16, 17, 18, 19] → L.getD j false = true) {w' : World} {u : Value} (hR : RqA y Z w' u) : IvRq x l y Z tA oA sA n nt np oc sc gv cv b0 c i k (L.setIfInBounds 20 true) s4 s24 s25 s26 s27 s28 s29 s30 s31 s32 s33 s34 s35 s36 s37 s38 s39 s40 s41 s42 s43 u w' where
  z := by rw [Array.size_setIfInBounds]; exact H.z
  bel := fun n => (by have e := getD_set_same (L := L) H.z (show 20 < 22 by decide); rw [n] at e; cases e)
  c0 := fun h => H.c0 (by rwa [getD_set_ne _ (by decide)] at h)
  c1 := fun h => H.c1 (by rwa [getD_set_ne _ (by decide)] at h)
  c2 := fun h n => by have e := hall 7 (by decide); rw [getD_set_ne _ (by decide)] at n; rw [n] at e; cases e
  c3 := fun h => H.c3 (by rwa [getD_set_ne _ (by decide)] at h)
  c4 := fun h => H.c4 (by rwa [getD_set_ne _ (by decide)] at h)
  c5 := fun h => H.c5 (by rwa [getD_set_ne _ (by decide)] at h)
  c6 := fun h n => by have e := hall 7 (by decide); rw [getD_set_ne _ (by decide)] at n; rw [n] at e; cases e
  c7 := fun h n => by have e := hall 18 (by decide); rw [getD_set_ne _ (by decide)] at n; rw [n] at e; cases e
  c8 := fun h => H.c8 (by rwa [getD_set_ne _ (by decide)] at h)
  c9 := fun h => H.c9 (by rwa [getD_set_ne _ (by decide)] at h)
  c10 := fun h n => by have e := hall 18 (by decide); rw [getD_set_ne _ (by decide)] at n; rw [n] at e; cases e
  c11 := fun h => H.c11 (by rwa [getD_set_ne _ (by decide)] at h)
  c12 := fun h => H.c12 (by rwa [getD_set_ne _ (by decide)] at h)
  c13 := fun h => H.c13 (by rwa [getD_set_ne _ (by decide)] at h)
  c14 := fun h n => by have e := hall 18 (by decide); rw [getD_set_ne _ (by decide)] at n; rw [n] at e; cases e
  c15 := fun h n => by have e := hall 18 (by decide); rw [getD_set_ne _ (by decide)] at n; rw [n] at e; cases e
  c16 := fun h => H.c16 (by rwa [getD_set_ne _ (by decide)] at h)
  c17 := fun h n => by have e := hall 18 (by decide); rw [getD_set_ne _ (by decide)] at n; rw [n] at e; cases e
  c18 := fun h n => (by have e := getD_set_same (L := L) H.z (show 20 < 22 by decide); rw [n] at e; cases e)
  c19 := fun h n => (by have e := getD_set_same (L := L) H.z (show 20 < 22 by decide); rw [n] at e; cases e)
  c20 := fun h => hR
  c21 := fun h => (notl hN (H.g21 (by rwa [getD_set_ne _ (by decide)] at h) 20 (by decide))).elim
  g2 := fun h j hj => by
    by_cases e : j = 20
    · subst e; exact getD_set_same H.z (by decide)
    · rw [getD_set_ne _ (fun q => e q.symm)]; exact H.g2 (by rwa [getD_set_ne _ (by decide)] at h) j hj
  g4 := fun h j hj => by
    by_cases e : j = 20
    · subst e; exact getD_set_same H.z (by decide)
    · rw [getD_set_ne _ (fun q => e q.symm)]; exact H.g4 (by rwa [getD_set_ne _ (by decide)] at h) j hj
  g5 := fun h j hj => by
    by_cases e : j = 20
    · subst e; exact getD_set_same H.z (by decide)
    · rw [getD_set_ne _ (fun q => e q.symm)]; exact H.g5 (by rwa [getD_set_ne _ (by decide)] at h) j hj
  g6 := fun h j hj => by
    by_cases e : j = 20
    · subst e; exact getD_set_same H.z (by decide)
    · rw [getD_set_ne _ (fun q => e q.symm)]; exact H.g6 (by rwa [getD_set_ne _ (by decide)] at h) j hj
  g7 := fun h j hj => by
    by_cases e : j = 20
    · subst e; exact getD_set_same H.z (by decide)
    · rw [getD_set_ne _ (fun q => e q.symm)]; exact H.g7 (by rwa [getD_set_ne _ (by decide)] at h) j hj
  g10 := fun h j hj => by
    by_cases e : j = 20
    · subst e; exact getD_set_same H.z (by decide)
    · rw [getD_set_ne _ (fun q => e q.symm)]; exact H.g10 (by rwa [getD_set_ne _ (by decide)] at h) j hj
  g12 := fun h j hj => by
    by_cases e : j = 20
    · subst e; exact getD_set_same H.z (by decide)
    · rw [getD_set_ne _ (fun q => e q.symm)]; exact H.g12 (by rwa [getD_set_ne _ (by decide)] at h) j hj
  g13 := fun h j hj => by
    by_cases e : j = 20
    · subst e; exact getD_set_same H.z (by decide)
    · rw [getD_set_ne _ (fun q => e q.symm)]; exact H.g13 (by rwa [getD_set_ne _ (by decide)] at h) j hj
  g14 := fun h j hj => by
    by_cases e : j = 20
    · subst e; exact getD_set_same H.z (by decide)
    · rw [getD_set_ne _ (fun q => e q.symm)]; exact H.g14 (by rwa [getD_set_ne _ (by decide)] at h) j hj
  g15 := fun h j hj => by
    by_cases e : j = 20
    · subst e; exact getD_set_same H.z (by decide)
    · rw [getD_set_ne _ (fun q => e q.symm)]; exact H.g15 (by rwa [getD_set_ne _ (by decide)] at h) j hj
  g17 := fun h j hj => by
    by_cases e : j = 20
    · subst e; exact getD_set_same H.z (by decide)
    · rw [getD_set_ne _ (fun q => e q.symm)]; exact H.g17 (by rwa [getD_set_ne _ (by decide)] at h) j hj
  g18 := fun h j hj => by
    by_cases e : j = 20
    · subst e; exact getD_set_same H.z (by decide)
    · rw [getD_set_ne _ (fun q => e q.symm)]; exact H.g18 (by rwa [getD_set_ne _ (by decide)] at h) j hj
  g19 := fun h j hj => by
    by_cases e : j = 20
    · subst e; exact getD_set_same H.z (by decide)
    · rw [getD_set_ne _ (fun q => e q.symm)]; exact H.g19 (by rwa [getD_set_ne _ (by decide)] at h) j hj
  g20 := fun _ j hj => by rw [getD_set_ne _ (by rintro rfl; exact absurd hj (by decide))]; exact hall j hj
  g21 := fun h j hj => by
    by_cases e : j = 20
    · subst e; exact getD_set_same H.z (by decide)
    · rw [getD_set_ne _ (fun q => e q.symm)]; exact H.g21 (by rwa [getD_set_ne _ (by decide)] at h) j hj
  i4 := fun n => H.i4 (by rwa [getD_set_ne _ (by decide)] at n)
theorem IvRq.o21 {x : World} {l : List Tm} {y : World} {Z : LLI} {tA oA sA : Option Addr} {n nt np oc sc gv cv b0 c i k : Nat} {L : Array Bool} {s4 s24 s25 s26 s27 s28 s29 s30 s31 s32 s33 s34 s35 s36 s37 s38 s39 s40 s41 s42 s43 s44 : Value} {w : World} (H : IvRq x l y Z tA oA sA n nt np oc sc gv cv b0 c i k L s4 s24 s25 s26 s27 s28 s29 s30 s31 s32 s33 s34 s35 s36 s37 s38 s39 s40 s41 s42 s43 s44 w) (hN : L.getD 21 true = false) (hall : ∀ j, j ∈ [0, 1, 2, 3, 4, 5, 6, 7, 8, 9, 10, 11, 12, 13, 14, 15, 16, 17, 18, 19, 20] → L.getD j false = true) {u : Value} (hR : RqA y Z w u) : IvRq x l y Z tA oA sA n nt np oc sc gv cv b0 c i k (L.setIfInBounds 21 true) u s24 s25 s26 s27 s28 s29 s30 s31 s32 s33 s34 s35 s36 s37 s38 s39 s40 s41 s42 s43 s44 w where
  z := by rw [Array.size_setIfInBounds]; exact H.z
  bel := fun n => (H.bel (by rwa [getD_set_ne _ (by decide)] at n))
  c0 := fun h => H.c0 (by rwa [getD_set_ne _ (by decide)] at h)
  c1 := fun h => H.c1 (by rwa [getD_set_ne _ (by decide)] at h)
  c2 := fun h n => H.c2 (by rwa [getD_set_ne _ (by decide)] at h) (by rwa [getD_set_ne _ (by decide)] at n)
  c3 := fun h => H.c3 (by rwa [getD_set_ne _ (by decide)] at h)
  c4 := fun h => H.c4 (by rwa [getD_set_ne _ (by decide)] at h)
  c5 := fun h => H.c5 (by rwa [getD_set_ne _ (by decide)] at h)
  c6 := fun h n => H.c6 (by rwa [getD_set_ne _ (by decide)] at h) (by rwa [getD_set_ne _ (by decide)] at n)
  c7 := fun h n => H.c7 (by rwa [getD_set_ne _ (by decide)] at h) (by rwa [getD_set_ne _ (by decide)] at n)
  c8 := fun h => H.c8 (by rwa [getD_set_ne _ (by decide)] at h)
  c9 := fun h => H.c9 (by rwa [getD_set_ne _ (by decide)] at h)
  c10 := fun h n => H.c10 (by rwa [getD_set_ne _ (by decide)] at h) (by rwa [getD_set_ne _ (by decide)] at n)
  c11 := fun h => H.c11 (by rwa [getD_set_ne _ (by decide)] at h)
  c12 := fun h => H.c12 (by rwa [getD_set_ne _ (by decide)] at h)
  c13 := fun h => H.c13 (by rwa [getD_set_ne _ (by decide)] at h)
  c14 := fun h n => H.c14 (by rwa [getD_set_ne _ (by decide)] at h) (by rwa [getD_set_ne _ (by decide)] at n)
  c15 := fun h n => H.c15 (by rwa [getD_set_ne _ (by decide)] at h) (by rwa [getD_set_ne _ (by decide)] at n)
  c16 := fun h => H.c16 (by rwa [getD_set_ne _ (by decide)] at h)
  c17 := fun h n => H.c17 (by rwa [getD_set_ne _ (by decide)] at h) (by rwa [getD_set_ne _ (by decide)] at n)
  c18 := fun h n => H.c18 (by rwa [getD_set_ne _ (by decide)] at h) (by rwa [getD_set_ne _ (by decide)] at n)
  c19 := fun h n => H.c19 (by rwa [getD_set_ne _ (by decide)] at h) (by rwa [getD_set_ne _ (by decide)] at n)
  c20 := fun h => H.c20 (by rwa [getD_set_ne _ (by decide)] at h)
  c21 := fun h => hR
  g2 := fun h j hj => by
    by_cases e : j = 21
    · subst e; exact getD_set_same H.z (by decide)
    · rw [getD_set_ne _ (fun q => e q.symm)]; exact H.g2 (by rwa [getD_set_ne _ (by decide)] at h) j hj
  g4 := fun h j hj => by
    by_cases e : j = 21
    · subst e; exact getD_set_same H.z (by decide)
    · rw [getD_set_ne _ (fun q => e q.symm)]; exact H.g4 (by rwa [getD_set_ne _ (by decide)] at h) j hj
  g5 := fun h j hj => by
    by_cases e : j = 21
    · subst e; exact getD_set_same H.z (by decide)
    · rw [getD_set_ne _ (fun q => e q.symm)]; exact H.g5 (by rwa [getD_set_ne _ (by decide)] at h) j hj
  g6 := fun h j hj => by
    by_cases e : j = 21
    · subst e; exact getD_set_same H.z (by decide)
    · rw [getD_set_ne _ (fun q => e q.symm)]; exact H.g6 (by rwa [getD_set_ne _ (by decide)] at h) j hj
  g7 := fun h j hj => by
    by_cases e : j = 21
    · subst e; exact getD_set_same H.z (by decide)
    · rw [getD_set_ne _ (fun q => e q.symm)]; exact H.g7 (by rwa [getD_set_ne _ (by decide)] at h) j hj
  g10 := fun h j hj => by
    by_cases e : j = 21
    · subst e; exact getD_set_same H.z (by decide)
    · rw [getD_set_ne _ (fun q => e q.symm)]; exact H.g10 (by rwa [getD_set_ne _ (by decide)] at h) j hj
  g12 := fun h j hj => by
    by_cases e : j = 21
    · subst e; exact getD_set_same H.z (by decide)
    · rw [getD_set_ne _ (fun q => e q.symm)]; exact H.g12 (by rwa [getD_set_ne _ (by decide)] at h) j hj
  g13 := fun h j hj => by
    by_cases e : j = 21
    · subst e; exact getD_set_same H.z (by decide)
    · rw [getD_set_ne _ (fun q => e q.symm)]; exact H.g13 (by rwa [getD_set_ne _ (by decide)] at h) j hj
  g14 := fun h j hj => by
    by_cases e : j = 21
    · subst e; exact getD_set_same H.z (by decide)
    · rw [getD_set_ne _ (fun q => e q.symm)]; exact H.g14 (by rwa [getD_set_ne _ (by decide)] at h) j hj
  g15 := fun h j hj => by
    by_cases e : j = 21
    · subst e; exact getD_set_same H.z (by decide)
    · rw [getD_set_ne _ (fun q => e q.symm)]; exact H.g15 (by rwa [getD_set_ne _ (by decide)] at h) j hj
  g17 := fun h j hj => by
    by_cases e : j = 21
    · subst e; exact getD_set_same H.z (by decide)
    · rw [getD_set_ne _ (fun q => e q.symm)]; exact H.g17 (by rwa [getD_set_ne _ (by decide)] at h) j hj
  g18 := fun h j hj => by
    by_cases e : j = 21
    · subst e; exact getD_set_same H.z (by decide)
    · rw [getD_set_ne _ (fun q => e q.symm)]; exact H.g18 (by rwa [getD_set_ne _ (by decide)] at h) j hj
  g19 := fun h j hj => by
    by_cases e : j = 21
    · subst e; exact getD_set_same H.z (by decide)
    · rw [getD_set_ne _ (fun q => e q.symm)]; exact H.g19 (by rwa [getD_set_ne _ (by decide)] at h) j hj
  g20 := fun h j hj => by
    by_cases e : j = 21
    · subst e; exact getD_set_same H.z (by decide)
    · rw [getD_set_ne _ (fun q => e q.symm)]; exact H.g20 (by rwa [getD_set_ne _ (by decide)] at h) j hj
  g21 := fun _ j hj => by rw [getD_set_ne _ (by rintro rfl; exact absurd hj (by decide))]; exact hall j hj
  i4 := fun n => (by have e := getD_set_same (L := L) H.z (show 21 < 22 by decide); rw [n] at e; cases e)
set_option maxHeartbeats 4000000 in
set_option maxRecDepth 100000 in
theorem specRaysOfCurve_any (w : World) (B : Nat) (v : Value) (l : List Tm) (h : TmS w B v l) : Calls Tryz.prog 5 #[v] w fun e w' => GivesLB (plB l) (ryR l) w e w' := by
  cases hl : plB l
  · have HL := Lib.hid hl
    clear hl
    go_enter Tryz.func5, Tryz.ntmps5
    go_wp2_with fail
    refine (plGood_any _ B _ l h).mono ?_
    rintro e w1 ⟨rfl, b1⟩
    rw [HL.out]
    go_wp2
    go_ret2
    exact givesLB_nil rfl (ryR_no HL.out) b1
  · have HL := Lib.hid hl
    have H12 := Lib.hid (plB_le hl).2
    go_enter Tryz.func5, Tryz.ntmps5
    go_wp2_with fail
    refine (plGood_any _ B _ l h).mono ?_
    rintro e w1 ⟨rfl, b1⟩
    rw [HL.out]
    go_wp2_with fail
    refine (ceEdges_any w1 B _ l false (FS.below h b1) HL.out).mono ?_
    rintro e w2 ⟨rs, R, rfl, hRS, hR, b2⟩
    have hR' : lls R = edM2 l 1 := hR
    have H2 := Lib.hid (FS.below (FS.below h b1) b2)
    have HB2 := Lib.hid (bel2 b1 b2)
    have hn12 : R.length ≤ 144 := by rw [← lls_len, hR']; exact ed_few H12.out 1
    obtain ⟨A, cap, rfl, -, hp⟩ := hRS.parts
    have HP := Lib.hid hp
    have HV := Lib.hid hRS.2
    have HR := Lib.hid hR'
    obtain ⟨n, hn⟩ : ∃ n, n = R.length := ⟨_, rfl⟩
    have HN := Lib.hid hn
    rw [← hn] at hn12 ⊢
    obtain ⟨At, capt, rfl, -, -⟩ := TmS.parts h
    clear h hl hRS hR hR' hp b1 b2 hn
    go_wp2
    go_loopw [4, 14] (fun o i wr => ∃ (j : Nat) (P : VL), j ≤ n ∧ i = .int .i64 j ∧ Hid (LS wr w2.heap.size o P ∧ lls P = ryT l j) ∧ Below w2.heap.size w2 wr) (fun _ i _ => n - (intOf i).toNat)
    case atStart => exact ⟨0, [], by omega, rfl, Lib.hid ⟨LS.nil_ _ _, by rw [ryT_zero]; rfl⟩, Below.refl _ _⟩
    case round =>
      obtain ⟨j, P, hj, rfl, hst, hb⟩ := hrel
      by_cases hlt : j < n
      · obtain ⟨wO, hwO⟩ : ∃ wO, wO = wr := ⟨_, rfl⟩
        rw [← hwO] at hst hb ⊢
        clear hwO wr
        have hjr : j < R.length := by rw [← HN.out]; exact hlt
        have hjl : j < (edM2 l 1).length := by rw [← HR.out, lls_len]; exact hjr
        obtain ⟨g, rfl, hc0⟩ := HP.out j hjr
        have hc1 := X3.below.box_old3 hc0 hb
        have his := (HV.out.at hjr).below hb
        have hge : (edM2 l 1)[j] = pll R j := by
          have h1 := lls_get hjr (by rw [lls_len]; exact hjr)
          rw [← h1]
          exact (List.getElem_of_eq HR.out _).symm
        have hmem : pll R j ∈ edM2 l 1 := by rw [← hge]; exact List.getElem_mem _
        have hnx := ryT_next hjl hge
        obtain ⟨i, k, hik, hkl, hs⟩ := ry_edge hmem
        rw [hs] at his hnx
        have HNX := Lib.hid hnx
        obtain ⟨sv, hsv⟩ : ∃ sv, sv = pvl R j := ⟨_, rfl⟩
        rw [← hsv] at hc1 his
        obtain ⟨A6, cap6, rfl, -, -⟩ := his.parts
        rw [show ([(i : Int), (k : Int)] : List Int).length = 2 from rfl] at hc1 his
        have HIS := Lib.hid his
        have HB := Lib.hid hb
        have HST := Lib.hid hst.out
        clear hc0 his hmem hnx hge hs hsv hst hjl
        go_wp2_with fail
        refine (cuAt_any wO _ _ _ _ l _ (FS.below H2.out HB.out) HIS.out HL.out).mono ?_
        rintro e w4 ⟨r4, rfl, hr4, b4⟩
        obtain ⟨A4, cap4, rfl, -, hp4⟩ := hr4.parts
        have HP4 := Lib.hid hp4
        obtain ⟨m, hm⟩ : ∃ m, m = (clL l (ceL l).length [(i : Int), (k : Int)]).length := ⟨_, rfl⟩
        have hm2 : m ≤ 2 := by rw [hm]; exact clL_two HL.out _
        rw [← hm]
        have HM := Lib.hid (show isRy l [(i : Int), (k : Int)] = decide (m = 1) by rw [hm]; rfl)
        have HB4 := Lib.hid (bel2 HB.out b4)
        have HI4 := Lib.hid (HIS.out.below b4)
        have hlt1 : g < w4.heap.size := cell_lt (X3.below.box_old3 hc1 b4)
        have hLS4 := HST.out.1.below b4
        obtain ⟨Ao, capo, rfl, -, -⟩ := hLS4.parts
        have HS4 := Lib.hid (And.intro hLS4 HST.out.2)
        obtain ⟨np, hnp⟩ : ∃ np, np = P.length := ⟨_, rfl⟩
        have HNP := Lib.hid hnp
        have hnp2 : np ≤ 144 := by rw [hnp, ← lls_len, HST.out.2]; exact ryT_len H12.out j
        rw [← hnp]
        clear hp4 hm hr4 b4 HIS hc1 HST hLS4 hnp HB hb hlt1
        by_cases h1 : m = 1
        · subst h1
          have hry : isRy l [(i : Int), (k : Int)] = true := HM.out
          obtain ⟨c, hcl, hcn, hcs⟩ := ry_one hry
          have hcl' : clL l (ceL l).length [(i : Int), (k : Int)] = [(c : Int)] := hcl
          have hp4 := HP4.out
          rw [hcl'] at hp4
          obtain ⟨g7, rfl, v0⟩ := hp4 0 (by simp)
          have v7 : w4.cell? ⟨g7, 0, none⟩ = some (.int .i64 (c : Int)) := v0
          have HV7 := Lib.hid v7
          have HX := Lib.hid (ryX_of hcl)
          have HC := Lib.hid (And.intro hcn hcs)
          clear hp4 v0 v7 hcl hcl' hcn hcs HP4 hry
          go_upto_region 9 with fail
          obtain ⟨i0, hi, hz0, hz1, hz2⟩ := info_parts infoInt
          obtain ⟨j0, hj0, hy0, hy1, hy2⟩ := info_parts infoSl
          have H4 := Lib.hid (FS.below H2.out HB4.out)
          have HZ := Lib.hid (show ryT l (j + 1) = ryT l j ++ [[(i : Int), (k : Int), (c : Int)] ++ enT l ((ceL l).getD c []) i k] by rw [HNX.out, HM.out, ← HX.out]; rfl)
          refine wp_region_inv (by kernel_rfl) (fun L a' w' => ∃ s4 s24 s25 s26 s27 s28 s29 s30 s31 s32 s33 s34 s35 s36 s37 s38 s39 s40 s41 s42 s43 s44, a' = actRq (Value.slice At l.length capt) undef (Value.slice none 0 0) (Value.bool false) undef (Value.slice A6 2 cap6) (Value.slice (some ⟨g7, 0, none⟩) 1 cap4) (Value.slice At l.length capt) (Value.bool true) (Value.bool false) (Value.slice At l.length capt) (Value.slice (some ⟨g, 0, none⟩) n cap) (Value.int IntKind.i64 ↑n) (Value.int IntKind.i64 ↑j) (Value.bool true) (Value.pointer (some ⟨g, j, none⟩)) (Value.slice A6 2 cap6) (Value.slice At l.length capt) (Value.slice A6 2 cap6) (Value.slice (some ⟨g7, 0, none⟩) 1 cap4) (Value.slice (some ⟨g7, 0, none⟩) 1 cap4) (Value.int IntKind.i64 1) (Value.bool true) u45 undef s4 s24 s25 s26 s27 s28 s29 s30 s31 s32 s33 s34 s35 s36 s37 s38 s39 s40 s41 s42 s43 s44 ∧ IvRq w4 l w2 (ryT l (j + 1)) At Ao A6 l.length capt np capo cap6 g7 cap4 w4.heap.size c i k L s4 s24 s25 s26 s27 s28 s29 s30 s31 s32 s33 s34 s35 s36 s37 s38 s39 s40 s41 s42 s43 s44 w') ?_ ?_ ?_
          · exact ⟨_, _, _, _, _, _, _, _, _, _, _, _, _, _, _, _, _, _, _, _, _, _, rfl, IvRq.start w4 l w2 (ryT l (j + 1)) At Ao A6 l.length capt np capo cap6 g7 cap4 w4.heap.size c i k _ _ _ _ _ _ _ _ _ _ _ _ _ _ _ _ _ _ _ _ _ ⟩
          · rintro L a' w' i ⟨s4, s24, s25, s26, s27, s28, s29, s30, s31, s32, s33, s34, s35, s36, s37, s38, s39, s40, s41, s42, s43, s44, rfl, H⟩ hi
            obtain ⟨hL, o, ho, haf⟩ := mem_ready.1 hi
            have hiN : i < 22 := (Array.getElem?_eq_some_iff.1 ho).1
            clear hi
            have hcs : i = 0 ∨ i = 1 ∨ i = 2 ∨ i = 3 ∨ i = 4 ∨ i = 5 ∨ i = 6 ∨ i = 7 ∨ i = 8 ∨ i = 9 ∨ i = 10 ∨ i = 11 ∨ i = 12 ∨ i = 13 ∨ i = 14 ∨ i = 15 ∨ i = 16 ∨ i = 17 ∨ i = 18 ∨ i = 19 ∨ i = 20 ∨ i = 21 := by omega
            rcases hcs with rfl | rfl | rfl | rfl | rfl | rfl | rfl | rfl | rfl | rfl | rfl | rfl | rfl | rfl | rfl | rfl | rfl | rfl | rfl | rfl | rfl | rfl
            · cases ho
              have n20 : L.getD 20 false = false := by
                cases hx : L.getD 20 false
                · rfl
                · exact (notl hL (H.g20 hx 0 (by decide))).elim
              have n21 : L.getD 21 false = false := by
                cases hx : L.getD 21 false
                · rfl
                · exact (notl hL (H.g21 hx 0 (by decide))).elim
              have hbel := H.bel n20
              have z0 := X3.below.box_old3 HV7.out hbel
              have ei4 := H.i4 n21
              subst ei4
              refine wpOp_step rfl fun K' hK => ?_
              rw [if_pos (by rfl)]
              go_simp
              exact hK _ _ ⟨_, _, _, _, _, _, _, _, _, _, _, _, _, _, _, _, _, _, _, _, _, _, rfl, H.o0 hL⟩
            · cases ho
              have n20 : L.getD 20 false = false := by
                cases hx : L.getD 20 false
                · rfl
                · exact (notl hL (H.g20 hx 1 (by decide))).elim
              have hbel := H.bel n20
              have z0 := X3.below.box_old3 HV7.out hbel
              refine wpOp_step rfl fun K' hK => ?_
              rw [if_pos (by rfl)]
              go_simp
              exact hK _ _ ⟨_, _, _, _, _, _, _, _, _, _, _, _, _, _, _, _, _, _, _, _, _, _, rfl, H.o1 hL⟩
            · cases ho
              have hall : ∀ j, j ∈ [1] → L.getD j false = true := by
                intro j hj
                simp only [List.mem_cons, List.not_mem_nil, or_false] at hj
                subst hj
                · exact (haf_of haf 1 (by kernel_rfl))
              have n20 : L.getD 20 false = false := by
                cases hx : L.getD 20 false
                · rfl
                · exact (notl hL (H.g20 hx 2 (by decide))).elim
              have hbel := H.bel n20
              have z0 := X3.below.box_old3 HV7.out hbel
              have e1 := H.c1 (haf_of haf 1 (by kernel_rfl))
              subst e1
              refine wpOp_step rfl fun K' hK => ?_
              rw [if_pos (by rfl)]
              go_simp
              refine (l1Own_any w' _ [(i : Int), (k : Int)] (HI4.out.below hbel).parts (by simp) (by simp)).mono ?_
              rintro e w1 ⟨r, rfl, hr, hg⟩
              have hR : RqI w4.heap.size [(i : Int), (k : Int)] w1 r := hr.base hbel.size
              exact hK _ _ ⟨_, _, _, _, _, _, _, _, _, _, _, _, _, _, _, _, _, _, _, _, _, _, rfl, H.o2 hL hall hg hR⟩
            · cases ho
              have n20 : L.getD 20 false = false := by
                cases hx : L.getD 20 false
                · rfl
                · exact (notl hL (H.g20 hx 3 (by decide))).elim
              have hbel := H.bel n20
              have z0 := X3.below.box_old3 HV7.out hbel
              refine wpOp_step rfl fun K' hK => ?_
              rw [if_pos (by rfl)]
              go_simp
              exact hK _ _ ⟨_, _, _, _, _, _, _, _, _, _, _, _, _, _, _, _, _, _, _, _, _, _, rfl, H.o3 hL⟩
            · cases ho
              have hall : ∀ j, j ∈ [3] → L.getD j false = true := by
                intro j hj
                simp only [List.mem_cons, List.not_mem_nil, or_false] at hj
                subst hj
                · exact (haf_of haf 3 (by kernel_rfl))
              have n20 : L.getD 20 false = false := by
                cases hx : L.getD 20 false
                · rfl
                · exact (notl hL (H.g20 hx 4 (by decide))).elim
              have hbel := H.bel n20
              have z0 := X3.below.box_old3 HV7.out hbel
              have e3 := H.c3 (haf_of haf 3 (by kernel_rfl))
              subst e3
              refine wpOp_step rfl fun K' hK => ?_
              rw [if_pos (by rfl)]
              go_simp
              exact hK _ _ ⟨_, _, _, _, _, _, _, _, _, _, _, _, _, _, _, _, _, _, _, _, _, _, rfl, H.o4 hL hall⟩
            · cases ho
              have hall : ∀ j, j ∈ [3, 4] → L.getD j false = true := by
                intro j hj
                simp only [List.mem_cons, List.not_mem_nil, or_false] at hj
                rcases hj with rfl | rfl
                · exact H.g4 (haf_of haf 4 (by kernel_rfl)) 3 (by decide)
                · exact (haf_of haf 4 (by kernel_rfl))
              have n20 : L.getD 20 false = false := by
                cases hx : L.getD 20 false
                · rfl
                · exact (notl hL (H.g20 hx 5 (by decide))).elim
              have hbel := H.bel n20
              have z0 := X3.below.box_old3 HV7.out hbel
              have e4 := H.c4 (haf_of haf 4 (by kernel_rfl))
              subst e4
              refine wpOp_step rfl fun K' hK => ?_
              rw [if_pos (by rfl)]
              go_simp
              exact hK _ _ ⟨_, _, _, _, _, _, _, _, _, _, _, _, _, _, _, _, _, _, _, _, _, _, rfl, H.o5 hL hall⟩
            · cases ho
              have hall : ∀ j, j ∈ [3, 4, 5] → L.getD j false = true := by
                intro j hj
                simp only [List.mem_cons, List.not_mem_nil, or_false] at hj
                rcases hj with rfl | rfl | rfl
                · exact H.g5 (haf_of haf 5 (by kernel_rfl)) 3 (by decide)
                · exact H.g5 (haf_of haf 5 (by kernel_rfl)) 4 (by decide)
                · exact (haf_of haf 5 (by kernel_rfl))
              have n20 : L.getD 20 false = false := by
                cases hx : L.getD 20 false
                · rfl
                · exact (notl hL (H.g20 hx 6 (by decide))).elim
              have hbel := H.bel n20
              have z0 := X3.below.box_old3 HV7.out hbel
              have e5 := H.c5 (haf_of haf 5 (by kernel_rfl))
              subst e5
              have hg : Below w'.heap.size w' (w'.alloc (.cells #[.int .i64 (c : Int)] 3)) := (Below.refl _ _).alloc (Nat.le_refl _) _
              have hR : RqO c (w'.alloc (.cells #[.int .i64 (c : Int)] 3)) (.slice (some ⟨w'.heap.size, 0, none⟩) 1 1) := ⟨_, rfl, one_at w' _ _ rfl⟩
              refine wpOp_step rfl fun K' hK => ?_
              rw [if_pos (by rfl)]
              go_simp
              exact hK _ _ ⟨_, _, _, _, _, _, _, _, _, _, _, _, _, _, _, _, _, _, _, _, _, _, rfl, H.o6 hL hall hg hR⟩
            · cases ho
              have hall : ∀ j, j ∈ [1, 2, 3, 4, 5, 6] → L.getD j false = true := by
                intro j hj
                simp only [List.mem_cons, List.not_mem_nil, or_false] at hj
                rcases hj with rfl | rfl | rfl | rfl | rfl | rfl
                · exact H.g2 (haf_of haf 2 (by kernel_rfl)) 1 (by decide)
                · exact (haf_of haf 2 (by kernel_rfl))
                · exact H.g6 (haf_of haf 6 (by kernel_rfl)) 3 (by decide)
                · exact H.g6 (haf_of haf 6 (by kernel_rfl)) 4 (by decide)
                · exact H.g6 (haf_of haf 6 (by kernel_rfl)) 5 (by decide)
                · exact (haf_of haf 6 (by kernel_rfl))
              have n7 : L.getD 7 false = false := nl5 hL
              have n20 : L.getD 20 false = false := by
                cases hx : L.getD 20 false
                · rfl
                · exact (notl hL (H.g20 hx 7 (by decide))).elim
              have hbel := H.bel n20
              have z0 := X3.below.box_old3 HV7.out hbel
              have x2 := H.c2 (haf_of haf 2 (by kernel_rfl)) n7
              have x6 := H.c6 (haf_of haf 6 (by kernel_rfl)) n7
              obtain ⟨g6, e6, hc6⟩ := x6
              subst e6
              refine wpOp_step rfl fun K' hK => ?_
              refine step_append_own (by rfl) (.tmp 26) (.tmp 30) 36 (by rfl) w4.heap.size 3 i0 (.int .i64 0) 1 8 Tryz.underlying36 hi hz0 hz1 hz2 rfl (by decide) s26 2 (ints [(i : Int), (k : Int)]) (by rfl) x2 ⟨g6, 0, none⟩ 1 1 [.int .i64 (c : Int)] (by rfl) rfl (oneS_news hc6) (by simp [Value.oneCell']) (by unfold maxLen; omega) (by omega) hbel.size ?_
              intro v5 w5 hown5 hgrow5 hnil5
              have hR : RqI w4.heap.size [(i : Int), (k : Int), (c : Int)] w5 v5 := hown5
              have hb : Below w4.heap.size w4 w5 := hbel.grown hgrow5 hbel.size (fun q hq => (World.ownsRow.lt x2 q hq).1)
              exact hK _ _ ⟨_, _, _, _, _, _, _, _, _, _, _, _, _, _, _, _, _, _, _, _, _, _, rfl, H.o7 hL hall hb hR⟩
            · cases ho
              have n20 : L.getD 20 false = false := by
                cases hx : L.getD 20 false
                · rfl
                · exact (notl hL (H.g20 hx 8 (by decide))).elim
              have hbel := H.bel n20
              have z0 := X3.below.box_old3 HV7.out hbel
              refine wpOp_step rfl fun K' hK => ?_
              rw [if_pos (by rfl)]
              go_simp
              exact hK _ _ ⟨_, _, _, _, _, _, _, _, _, _, _, _, _, _, _, _, _, _, _, _, _, _, rfl, H.o8 hL⟩
            · cases ho
              have n20 : L.getD 20 false = false := by
                cases hx : L.getD 20 false
                · rfl
                · exact (notl hL (H.g20 hx 9 (by decide))).elim
              have hbel := H.bel n20
              have z0 := X3.below.box_old3 HV7.out hbel
              refine wpOp_step rfl fun K' hK => ?_
              rw [if_pos (by rfl)]
              go_simp
              exact hK _ _ ⟨_, _, _, _, _, _, _, _, _, _, _, _, _, _, _, _, _, _, _, _, _, _, rfl, H.o9 hL⟩
            · cases ho
              have hall : ∀ j, j ∈ [1, 2, 3, 4, 5, 6, 7, 9] → L.getD j false = true := by
                intro j hj
                simp only [List.mem_cons, List.not_mem_nil, or_false] at hj
                rcases hj with rfl | rfl | rfl | rfl | rfl | rfl | rfl | rfl
                · exact H.g7 (haf_of haf 7 (by kernel_rfl)) 1 (by decide)
                · exact H.g7 (haf_of haf 7 (by kernel_rfl)) 2 (by decide)
                · exact H.g7 (haf_of haf 7 (by kernel_rfl)) 3 (by decide)
                · exact H.g7 (haf_of haf 7 (by kernel_rfl)) 4 (by decide)
                · exact H.g7 (haf_of haf 7 (by kernel_rfl)) 5 (by decide)
                · exact H.g7 (haf_of haf 7 (by kernel_rfl)) 6 (by decide)
                · exact (haf_of haf 7 (by kernel_rfl))
                · exact (haf_of haf 9 (by kernel_rfl))
              have n20 : L.getD 20 false = false := by
                cases hx : L.getD 20 false
                · rfl
                · exact (notl hL (H.g20 hx 10 (by decide))).elim
              have hbel := H.bel n20
              have z0 := X3.below.box_old3 HV7.out hbel
              have e9 := H.c9 (haf_of haf 9 (by kernel_rfl))
              subst e9
              refine wpOp_step rfl fun K' hK => ?_
              rw [if_pos (by rfl)]
              go_simp
              refine (ceOf_any _ B _ l (FS.below H4.out hbel) HL.out).mono ?_
              rintro e w1 ⟨r, C, rfl, hC, eC, hg⟩
              have hR : RqL l w1 r := RqL.of hC eC
              exact hK _ _ ⟨_, _, _, _, _, _, _, _, _, _, _, _, _, _, _, _, _, _, _, _, _, _, rfl, H.o10 hL hall hg hR⟩
            · cases ho
              have n20 : L.getD 20 false = false := by
                cases hx : L.getD 20 false
                · rfl
                · exact (notl hL (H.g20 hx 11 (by decide))).elim
              have hbel := H.bel n20
              have z0 := X3.below.box_old3 HV7.out hbel
              refine wpOp_step rfl fun K' hK => ?_
              rw [if_pos (by rfl)]
              go_simp
              exact hK _ _ ⟨_, _, _, _, _, _, _, _, _, _, _, _, _, _, _, _, _, _, _, _, _, _, rfl, H.o11 hL⟩
            · cases ho
              have hall : ∀ j, j ∈ [11] → L.getD j false = true := by
                intro j hj
                simp only [List.mem_cons, List.not_mem_nil, or_false] at hj
                subst hj
                · exact (haf_of haf 11 (by kernel_rfl))
              have n20 : L.getD 20 false = false := by
                cases hx : L.getD 20 false
                · rfl
                · exact (notl hL (H.g20 hx 12 (by decide))).elim
              have hbel := H.bel n20
              have z0 := X3.below.box_old3 HV7.out hbel
              have e11 := H.c11 (haf_of haf 11 (by kernel_rfl))
              subst e11
              refine wpOp_step rfl fun K' hK => ?_
              rw [if_pos (by rfl)]
              go_simp
              exact hK _ _ ⟨_, _, _, _, _, _, _, _, _, _, _, _, _, _, _, _, _, _, _, _, _, _, rfl, H.o12 hL hall⟩
            · cases ho
              have hall : ∀ j, j ∈ [11, 12] → L.getD j false = true := by
                intro j hj
                simp only [List.mem_cons, List.not_mem_nil, or_false] at hj
                rcases hj with rfl | rfl
                · exact H.g12 (haf_of haf 12 (by kernel_rfl)) 11 (by decide)
                · exact (haf_of haf 12 (by kernel_rfl))
              have n20 : L.getD 20 false = false := by
                cases hx : L.getD 20 false
                · rfl
                · exact (notl hL (H.g20 hx 13 (by decide))).elim
              have hbel := H.bel n20
              have z0 := X3.below.box_old3 HV7.out hbel
              have e12 := H.c12 (haf_of haf 12 (by kernel_rfl))
              subst e12
              refine wpOp_step rfl fun K' hK => ?_
              rw [if_pos (by rfl)]
              go_simp
              exact hK _ _ ⟨_, _, _, _, _, _, _, _, _, _, _, _, _, _, _, _, _, _, _, _, _, _, rfl, H.o13 hL hall⟩
            · cases ho
              have hall : ∀ j, j ∈ [1, 2, 3, 4, 5, 6, 7, 9, 10, 11, 12, 13] → L.getD j false = true := by
                intro j hj
                simp only [List.mem_cons, List.not_mem_nil, or_false] at hj
                rcases hj with rfl | rfl | rfl | rfl | rfl | rfl | rfl | rfl | rfl | rfl | rfl | rfl
                · exact H.g10 (haf_of haf 10 (by kernel_rfl)) 1 (by decide)
                · exact H.g10 (haf_of haf 10 (by kernel_rfl)) 2 (by decide)
                · exact H.g10 (haf_of haf 10 (by kernel_rfl)) 3 (by decide)
                · exact H.g10 (haf_of haf 10 (by kernel_rfl)) 4 (by decide)
                · exact H.g10 (haf_of haf 10 (by kernel_rfl)) 5 (by decide)
                · exact H.g10 (haf_of haf 10 (by kernel_rfl)) 6 (by decide)
                · exact H.g10 (haf_of haf 10 (by kernel_rfl)) 7 (by decide)
                · exact H.g10 (haf_of haf 10 (by kernel_rfl)) 9 (by decide)
                · exact (haf_of haf 10 (by kernel_rfl))
                · exact H.g13 (haf_of haf 13 (by kernel_rfl)) 11 (by decide)
                · exact H.g13 (haf_of haf 13 (by kernel_rfl)) 12 (by decide)
                · exact (haf_of haf 13 (by kernel_rfl))
              have n18 : L.getD 18 false = false := by
                cases hx : L.getD 18 false
                · rfl
                · exact (notl hL (H.g18 hx 14 (by decide))).elim
              have n20 : L.getD 20 false = false := by
                cases hx : L.getD 20 false
                · rfl
                · exact (notl hL (H.g20 hx 14 (by decide))).elim
              have hbel := H.bel n20
              have z0 := X3.below.box_old3 HV7.out hbel
              have e13 := H.c13 (haf_of haf 13 (by kernel_rfl))
              subst e13
              have x10 := H.c10 (haf_of haf 10 (by kernel_rfl)) n18
              obtain ⟨A, cap, m, gc, e0, e1, hm, hR⟩ := x10.at HC.out.1
              subst e0
              subst e1
              refine wpOp_step rfl fun K' hK => ?_
              rw [if_pos (by rfl)]
              go_simp
              exact hK _ _ ⟨_, _, _, _, _, _, _, _, _, _, _, _, _, _, _, _, _, _, _, _, _, _, rfl, H.o14 hL hall hR⟩
            · cases ho
              have hall : ∀ j, j ∈ [1, 2, 3, 4, 5, 6, 7, 9, 10, 11, 12, 13, 14] → L.getD j false = true := by
                intro j hj
                simp only [List.mem_cons, List.not_mem_nil, or_false] at hj
                rcases hj with rfl | rfl | rfl | rfl | rfl | rfl | rfl | rfl | rfl | rfl | rfl | rfl | rfl
                · exact H.g14 (haf_of haf 14 (by kernel_rfl)) 1 (by decide)
                · exact H.g14 (haf_of haf 14 (by kernel_rfl)) 2 (by decide)
                · exact H.g14 (haf_of haf 14 (by kernel_rfl)) 3 (by decide)
                · exact H.g14 (haf_of haf 14 (by kernel_rfl)) 4 (by decide)
                · exact H.g14 (haf_of haf 14 (by kernel_rfl)) 5 (by decide)
                · exact H.g14 (haf_of haf 14 (by kernel_rfl)) 6 (by decide)
                · exact H.g14 (haf_of haf 14 (by kernel_rfl)) 7 (by decide)
                · exact H.g14 (haf_of haf 14 (by kernel_rfl)) 9 (by decide)
                · exact H.g14 (haf_of haf 14 (by kernel_rfl)) 10 (by decide)
                · exact H.g14 (haf_of haf 14 (by kernel_rfl)) 11 (by decide)
                · exact H.g14 (haf_of haf 14 (by kernel_rfl)) 12 (by decide)
                · exact H.g14 (haf_of haf 14 (by kernel_rfl)) 13 (by decide)
                · exact (haf_of haf 14 (by kernel_rfl))
              have n18 : L.getD 18 false = false := by
                cases hx : L.getD 18 false
                · rfl
                · exact (notl hL (H.g18 hx 15 (by decide))).elim
              have n20 : L.getD 20 false = false := by
                cases hx : L.getD 20 false
                · rfl
                · exact (notl hL (H.g20 hx 15 (by decide))).elim
              have hbel := H.bel n20
              have z0 := X3.below.box_old3 HV7.out hbel
              have x14 := H.c14 (haf_of haf 14 (by kernel_rfl)) n18
              obtain ⟨gc, uv, e0, e1, hR⟩ := x14.get
              subst e0
              refine wpOp_step rfl fun K' hK => ?_
              rw [if_pos (by rfl)]
              go_simp
              exact hK _ _ ⟨_, _, _, _, _, _, _, _, _, _, _, _, _, _, _, _, _, _, _, _, _, _, rfl, H.o15 hL hall hR⟩
            · cases ho
              have n20 : L.getD 20 false = false := by
                cases hx : L.getD 20 false
                · rfl
                · exact (notl hL (H.g20 hx 16 (by decide))).elim
              have hbel := H.bel n20
              have z0 := X3.below.box_old3 HV7.out hbel
              refine wpOp_step rfl fun K' hK => ?_
              rw [if_pos (by rfl)]
              go_simp
              exact hK _ _ ⟨_, _, _, _, _, _, _, _, _, _, _, _, _, _, _, _, _, _, _, _, _, _, rfl, H.o16 hL⟩
            · cases ho
              have hall : ∀ j, j ∈ [1, 2, 3, 4, 5, 6, 7, 8, 9, 10, 11, 12, 13, 14, 15, 16] → L.getD j false = true := by
                intro j hj
                simp only [List.mem_cons, List.not_mem_nil, or_false] at hj
                rcases hj with rfl | rfl | rfl | rfl | rfl | rfl | rfl | rfl | rfl | rfl | rfl | rfl | rfl | rfl | rfl | rfl
                · exact H.g15 (haf_of haf 15 (by kernel_rfl)) 1 (by decide)
                · exact H.g15 (haf_of haf 15 (by kernel_rfl)) 2 (by decide)
                · exact H.g15 (haf_of haf 15 (by kernel_rfl)) 3 (by decide)
                · exact H.g15 (haf_of haf 15 (by kernel_rfl)) 4 (by decide)
                · exact H.g15 (haf_of haf 15 (by kernel_rfl)) 5 (by decide)
                · exact H.g15 (haf_of haf 15 (by kernel_rfl)) 6 (by decide)
                · exact H.g15 (haf_of haf 15 (by kernel_rfl)) 7 (by decide)
                · exact (haf_of haf 8 (by kernel_rfl))
                · exact H.g15 (haf_of haf 15 (by kernel_rfl)) 9 (by decide)
                · exact (haf_of haf 10 (by kernel_rfl))
                · exact H.g15 (haf_of haf 15 (by kernel_rfl)) 11 (by decide)
                · exact H.g15 (haf_of haf 15 (by kernel_rfl)) 12 (by decide)
                · exact H.g15 (haf_of haf 15 (by kernel_rfl)) 13 (by decide)
                · exact H.g15 (haf_of haf 15 (by kernel_rfl)) 14 (by decide)
                · exact (haf_of haf 15 (by kernel_rfl))
                · exact (haf_of haf 16 (by kernel_rfl))
              have n18 : L.getD 18 false = false := by
                cases hx : L.getD 18 false
                · rfl
                · exact (notl hL (H.g18 hx 17 (by decide))).elim
              have n20 : L.getD 20 false = false := by
                cases hx : L.getD 20 false
                · rfl
                · exact (notl hL (H.g20 hx 17 (by decide))).elim
              have hbel := H.bel n20
              have z0 := X3.below.box_old3 HV7.out hbel
              have e8 := H.c8 (haf_of haf 8 (by kernel_rfl))
              subst e8
              have e16 := H.c16 (haf_of haf 16 (by kernel_rfl))
              subst e16
              have x15 := H.c15 (haf_of haf 15 (by kernel_rfl)) n18
              obtain ⟨BV, hV⟩ := x15
              refine wpOp_step rfl fun K' hK => ?_
              rw [if_pos (by rfl)]
              go_simp
              refine (cuEnd_any _ B _ _ _ _ _ l ((ceL l).getD c []) i k (FS.below H4.out hbel) hV (HI4.out.below hbel) HL.out (ceL_at HC.out.1) HC.out.2).mono ?_
              rintro e w1 ⟨r, rfl, hE, hg⟩
              have hR : RqE l ((ceL l).getD c []) i k w1 r := ⟨_, hE⟩
              exact hK _ _ ⟨_, _, _, _, _, _, _, _, _, _, _, _, _, _, _, _, _, _, _, _, _, _, rfl, H.o17 hL hall hg hR⟩
            · cases ho
              have hall : ∀ j, j ∈ [1, 2, 3, 4, 5, 6, 7, 8, 9, 10, 11, 12, 13, 14, 15, 16, 17] → L.getD j false = true := by
                intro j hj
                simp only [List.mem_cons, List.not_mem_nil, or_false] at hj
                rcases hj with rfl | rfl | rfl | rfl | rfl | rfl | rfl | rfl | rfl | rfl | rfl | rfl | rfl | rfl | rfl | rfl | rfl
                · exact H.g7 (haf_of haf 7 (by kernel_rfl)) 1 (by decide)
                · exact H.g7 (haf_of haf 7 (by kernel_rfl)) 2 (by decide)
                · exact H.g7 (haf_of haf 7 (by kernel_rfl)) 3 (by decide)
                · exact H.g7 (haf_of haf 7 (by kernel_rfl)) 4 (by decide)
                · exact H.g7 (haf_of haf 7 (by kernel_rfl)) 5 (by decide)
                · exact H.g7 (haf_of haf 7 (by kernel_rfl)) 6 (by decide)
                · exact (haf_of haf 7 (by kernel_rfl))
                · exact H.g17 (haf_of haf 17 (by kernel_rfl)) 8 (by decide)
                · exact H.g17 (haf_of haf 17 (by kernel_rfl)) 9 (by decide)
                · exact H.g17 (haf_of haf 17 (by kernel_rfl)) 10 (by decide)
                · exact H.g17 (haf_of haf 17 (by kernel_rfl)) 11 (by decide)
                · exact H.g17 (haf_of haf 17 (by kernel_rfl)) 12 (by decide)
                · exact H.g17 (haf_of haf 17 (by kernel_rfl)) 13 (by decide)
                · exact H.g17 (haf_of haf 17 (by kernel_rfl)) 14 (by decide)
                · exact H.g17 (haf_of haf 17 (by kernel_rfl)) 15 (by decide)
                · exact H.g17 (haf_of haf 17 (by kernel_rfl)) 16 (by decide)
                · exact (haf_of haf 17 (by kernel_rfl))
              have n18 : L.getD 18 false = false := nl5 hL
              have n20 : L.getD 20 false = false := by
                cases hx : L.getD 20 false
                · rfl
                · exact (notl hL (H.g20 hx 18 (by decide))).elim
              have hbel := H.bel n20
              have z0 := X3.below.box_old3 HV7.out hbel
              have x7 := H.c7 (haf_of haf 7 (by kernel_rfl)) n18
              have x17 := H.c17 (haf_of haf 17 (by kernel_rfl)) n18
              obtain ⟨BE, hE⟩ := x17
              obtain ⟨g4, c4, e4, hn4⟩ := RdV.newsC hE.parts (by rw [enT_len]; omega)
              rw [enT_len] at e4
              subst e4
              refine wpOp_step rfl fun K' hK => ?_
              refine step_append_own (by rfl) (.tmp 31) (.tmp 41) 36 (by rfl) w4.heap.size 3 i0 (.int .i64 0) 1 8 Tryz.underlying36 hi hz0 hz1 hz2 rfl (by decide) s31 3 (ints [(i : Int), (k : Int), (c : Int)]) (by rfl) x7 ⟨g4, 0, none⟩ 3 c4 (ints (enT l ((ceL l).getD c []) i k)) (by rfl) (by simp [ints, enT_len]) hn4 (ints_oneC _) (by unfold maxLen; omega) (by omega) hbel.size ?_
              intro v5 w5 hown5 hgrow5 hnil5
              have hR : RqI w4.heap.size ([(i : Int), (k : Int), (c : Int)] ++ enT l ((ceL l).getD c []) i k) w5 v5 := IS.joined (n := 3) (m := 3) rfl (enT_len _ _ _ _).symm hown5
              have hb : Below w4.heap.size w4 w5 := hbel.grown hgrow5 hbel.size (fun q hq => (World.ownsRow.lt x7 q hq).1)
              exact hK _ _ ⟨_, _, _, _, _, _, _, _, _, _, _, _, _, _, _, _, _, _, _, _, _, _, rfl, H.o18 hL hall hb hR⟩
            · cases ho
              have hall : ∀ j, j ∈ [1, 2, 3, 4, 5, 6, 7, 8, 9, 10, 11, 12, 13, 14, 15, 16, 17, 18] → L.getD j false = true := by
                intro j hj
                simp only [List.mem_cons, List.not_mem_nil, or_false] at hj
                rcases hj with rfl | rfl | rfl | rfl | rfl | rfl | rfl | rfl | rfl | rfl | rfl | rfl | rfl | rfl | rfl | rfl | rfl | rfl
                · exact H.g18 (haf_of haf 18 (by kernel_rfl)) 1 (by decide)
                · exact H.g18 (haf_of haf 18 (by kernel_rfl)) 2 (by decide)
                · exact H.g18 (haf_of haf 18 (by kernel_rfl)) 3 (by decide)
                · exact H.g18 (haf_of haf 18 (by kernel_rfl)) 4 (by decide)
                · exact H.g18 (haf_of haf 18 (by kernel_rfl)) 5 (by decide)
                · exact H.g18 (haf_of haf 18 (by kernel_rfl)) 6 (by decide)
                · exact H.g18 (haf_of haf 18 (by kernel_rfl)) 7 (by decide)
                · exact H.g18 (haf_of haf 18 (by kernel_rfl)) 8 (by decide)
                · exact H.g18 (haf_of haf 18 (by kernel_rfl)) 9 (by decide)
                · exact H.g18 (haf_of haf 18 (by kernel_rfl)) 10 (by decide)
                · exact H.g18 (haf_of haf 18 (by kernel_rfl)) 11 (by decide)
                · exact H.g18 (haf_of haf 18 (by kernel_rfl)) 12 (by decide)
                · exact H.g18 (haf_of haf 18 (by kernel_rfl)) 13 (by decide)
                · exact H.g18 (haf_of haf 18 (by kernel_rfl)) 14 (by decide)
                · exact H.g18 (haf_of haf 18 (by kernel_rfl)) 15 (by decide)
                · exact H.g18 (haf_of haf 18 (by kernel_rfl)) 16 (by decide)
                · exact H.g18 (haf_of haf 18 (by kernel_rfl)) 17 (by decide)
                · exact (haf_of haf 18 (by kernel_rfl))
              have n20 : L.getD 20 false = false := by
                cases hx : L.getD 20 false
                · rfl
                · exact (notl hL (H.g20 hx 19 (by decide))).elim
              have hbel := H.bel n20
              have z0 := X3.below.box_old3 HV7.out hbel
              have x18 := H.c18 (haf_of haf 18 (by kernel_rfl)) n20
              obtain ⟨A5, cap5, e5, -, -⟩ := (show IS w' w4.heap.size s42 ([(i : Int), (k : Int), (c : Int)] ++ enT l ((ceL l).getD c []) i k) from x18).parts
              rw [show ([(i : Int), (k : Int), (c : Int)] ++ enT l ((ceL l).getD c []) i k).length = 6 by rw [List.length_append, enT_len]; rfl] at e5
              subst e5
              have hg : Below w'.heap.size w' (w'.alloc (.cells #[.slice A5 6 cap5] 36)) := (Below.refl _ _).alloc (Nat.le_refl _) _
              have hR : RqS w4.heap.size ([(i : Int), (k : Int), (c : Int)] ++ enT l ((ceL l).getD c []) i k) (w'.alloc (.cells #[.slice A5 6 cap5] 36)) (.slice (some ⟨w'.heap.size, 0, none⟩) 1 1) := ⟨_, _, rfl, litS_new w' _, IS.below x18 hg⟩
              refine wpOp_step rfl fun K' hK => ?_
              rw [if_pos (by rfl)]
              go_simp
              exact hK _ _ ⟨_, _, _, _, _, _, _, _, _, _, _, _, _, _, _, _, _, _, _, _, _, _, rfl, H.o19 hL hall hg hR⟩
            · cases ho
              have hall : ∀ j, j ∈ [0, 1, 2, 3, 4, 5, 6, 7, 8, 9, 10, 11, 12, 13, 14, 15, 16, 17, 18, 19] → L.getD j false = true := by
                intro j hj
                simp only [List.mem_cons, List.not_mem_nil, or_false] at hj
                rcases hj with rfl | rfl | rfl | rfl | rfl | rfl | rfl | rfl | rfl | rfl | rfl | rfl | rfl | rfl | rfl | rfl | rfl | rfl | rfl | rfl
                · exact (haf_of haf 0 (by kernel_rfl))
                · exact H.g19 (haf_of haf 19 (by kernel_rfl)) 1 (by decide)
                · exact H.g19 (haf_of haf 19 (by kernel_rfl)) 2 (by decide)
                · exact H.g19 (haf_of haf 19 (by kernel_rfl)) 3 (by decide)
                · exact H.g19 (haf_of haf 19 (by kernel_rfl)) 4 (by decide)
                · exact H.g19 (haf_of haf 19 (by kernel_rfl)) 5 (by decide)
                · exact H.g19 (haf_of haf 19 (by kernel_rfl)) 6 (by decide)
                · exact H.g19 (haf_of haf 19 (by kernel_rfl)) 7 (by decide)
                · exact H.g19 (haf_of haf 19 (by kernel_rfl)) 8 (by decide)
                · exact H.g19 (haf_of haf 19 (by kernel_rfl)) 9 (by decide)
                · exact H.g19 (haf_of haf 19 (by kernel_rfl)) 10 (by decide)
                · exact H.g19 (haf_of haf 19 (by kernel_rfl)) 11 (by decide)
                · exact H.g19 (haf_of haf 19 (by kernel_rfl)) 12 (by decide)
                · exact H.g19 (haf_of haf 19 (by kernel_rfl)) 13 (by decide)
                · exact H.g19 (haf_of haf 19 (by kernel_rfl)) 14 (by decide)
                · exact H.g19 (haf_of haf 19 (by kernel_rfl)) 15 (by decide)
                · exact H.g19 (haf_of haf 19 (by kernel_rfl)) 16 (by decide)
                · exact H.g19 (haf_of haf 19 (by kernel_rfl)) 17 (by decide)
                · exact (haf_of haf 18 (by kernel_rfl))
                · exact (haf_of haf 19 (by kernel_rfl))
              have n20 : L.getD 20 false = false := nl5 hL
              have hbel := H.bel n20
              have z0 := X3.below.box_old3 HV7.out hbel
              have e0 := H.c0 (haf_of haf 0 (by kernel_rfl))
              subst e0
              have x19 := H.c19 (haf_of haf 19 (by kernel_rfl)) n20
              obtain ⟨g9, z9, e9, hc9, hz9⟩ := x19
              subst e9
              have hLS6 := HS4.out.1.below hbel
              have hrow6 := hLS6.1
              rw [← HNP.out] at hrow6
              refine wpOp_step rfl fun K' hK => ?_
              refine step_append_own (by rfl) (.tmp 24) (.tmp 43) 24 (by rfl) w2.heap.size 36 j0 (.slice none 0 0) 1 24 Tryz.underlying24 hj0 hy0 hy1 hy2 rfl (by decide) _ np _ (by rfl) hrow6 ⟨g9, 0, none⟩ 1 1 [z9] (by rfl) rfl (oneS_news hc9) (by simp [IS.one hz9]) (by unfold maxLen; omega) (by omega) (Nat.le_trans HB4.out.size hbel.size) ?_
              intro v5 w5 hown5 hgrow5 hnil5
              have hLS7 := ls_push HS4.out.1 hbel HB4.out.size hz9 (by rw [← HNP.out]; exact hown5) (by rw [← HNP.out]; exact hgrow5)
              have hb7 : Below w2.heap.size w2 w5 := (bel2 HB4.out hbel).grown hgrow5 (bel2 HB4.out hbel).size (fun q hq => (World.ownsRow.lt HS4.out.1.1 q (by rw [← HNP.out]; exact hq)).1)
              have hR : RqA w2 (ryT l (j + 1)) w5 v5 := ⟨_, hLS7, by rw [HZ.out, ← HS4.out.2]; simp [lls], hb7⟩
              exact hK _ _ ⟨_, _, _, _, _, _, _, _, _, _, _, _, _, _, _, _, _, _, _, _, _, _, rfl, H.o20 hL hall hR⟩
            · cases ho
              have hall : ∀ j, j ∈ [0, 1, 2, 3, 4, 5, 6, 7, 8, 9, 10, 11, 12, 13, 14, 15, 16, 17, 18, 19, 20] → L.getD j false = true := by
                intro j hj
                simp only [List.mem_cons, List.not_mem_nil, or_false] at hj
                rcases hj with rfl | rfl | rfl | rfl | rfl | rfl | rfl | rfl | rfl | rfl | rfl | rfl | rfl | rfl | rfl | rfl | rfl | rfl | rfl | rfl | rfl
                · exact (haf_of haf 0 (by kernel_rfl))
                · exact (haf_of haf 1 (by kernel_rfl))
                · exact (haf_of haf 2 (by kernel_rfl))
                · exact (haf_of haf 3 (by kernel_rfl))
                · exact (haf_of haf 4 (by kernel_rfl))
                · exact (haf_of haf 5 (by kernel_rfl))
                · exact (haf_of haf 6 (by kernel_rfl))
                · exact (haf_of haf 7 (by kernel_rfl))
                · exact (haf_of haf 8 (by kernel_rfl))
                · exact (haf_of haf 9 (by kernel_rfl))
                · exact (haf_of haf 10 (by kernel_rfl))
                · exact (haf_of haf 11 (by kernel_rfl))
                · exact (haf_of haf 12 (by kernel_rfl))
                · exact (haf_of haf 13 (by kernel_rfl))
                · exact (haf_of haf 14 (by kernel_rfl))
                · exact (haf_of haf 15 (by kernel_rfl))
                · exact (haf_of haf 16 (by kernel_rfl))
                · exact (haf_of haf 17 (by kernel_rfl))
                · exact (haf_of haf 18 (by kernel_rfl))
                · exact (haf_of haf 19 (by kernel_rfl))
                · exact (haf_of haf 20 (by kernel_rfl))
              have x20 := H.c20 (haf_of haf 20 (by kernel_rfl))
              have hR := x20
              refine wpOp_step rfl fun K' hK => ?_
              rw [if_pos (by rfl)]
              go_simp
              exact hK _ _ ⟨_, _, _, _, _, _, _, _, _, _, _, _, _, _, _, _, _, _, _, _, _, _, rfl, H.o21 hL hall hR⟩
          · rintro L9 a9 w9 ⟨s4, s24, s25, s26, s27, s28, s29, s30, s31, s32, s33, s34, s35, s36, s37, s38, s39, s40, s41, s42, s43, s44, rfl, H⟩ hr
            have hall := ready_nil H.z (by kernel_rfl) hr
            obtain ⟨P7, hLS7, hP7, hb7⟩ := H.c21 (hall 21 (by decide))
            clear H hall hr
            have HS7 := Lib.hid (And.intro hLS7 hP7)
            go_wp2
            go_roundw
            case rel => exact ⟨j + 1, P7, by omega, by go_num, HS7, hb7⟩
            case measure => simp [intOf]; omega
        · have hry : isRy l [(i : Int), (k : Int)] = false := by rw [HM.out]; exact decide_eq_false h1
          have hL7 : lls P = ryT l (j + 1) := by rw [HNX.out, hry, if_neg (by simp), List.append_nil]; exact HS4.out.2
          have HS7 := Lib.hid (And.intro HS4.out.1 hL7)
          rw [← HNP.out] at HS7
          have hb7 := HB4.out
          go_wp2
          go_roundw
          case rel => exact ⟨j + 1, P, by omega, by go_num, HS7, hb7⟩
          case measure => simp [intOf]; omega
      · obtain rfl : j = n := by omega
        go_wp2
        go_ret2
        exact givesLB_yes rfl (hst.out.1.base HB2.out.size) (by rw [hst.out.2, ryT_end (by rw [← HR.out, lls_len, ← HN.out]; exact Nat.le_refl _), ryR_yes HL.out]) (bel2 HB2.out hb)
end Go.Proofs.YtcfplfjllnojoaaGreat

import Derived.Test.YtcfplfjllnojoaaGreatCuRm
import Derived.Test.YtcfplfjllnojoaaGreatCuRs
import Derived.Test.YtcfplfjllnojoaaGreatCuI
import Derived.Test.YtcfplfjllnojoaaGreatSf
import Derived.Lib.AppendZeros
import Derived.Laws.Cover3
/-
  The program's rays.
  Condition: the slice reads as the terms that are named.
-/
namespace Go.Proofs.YtcfplfjllnojoaaGreat
set_option linter.unusedSimpArgs false
set_option linter.unusedVariables false
open Go.ChangeShapes Go.WideShapes Go.ChangeAt Go.RowKit Go.Maps
open Go.Sort (grow)

/-- Two integers in a block. -/
def C2 (w : World) (g : Nat) (a b : Int) : Prop := w.heap[g]? = some (.cells #[.int .i64 a, .int .i64 b] 51 (0, 0))
theorem C2.cells {w : World} {g : Nat} {a b : Int} (h : C2 w g a b) : (w.cell? ⟨g, 0, none⟩ = some (.int .i64 a) ∧ w.cell? ⟨g, 1, none⟩ = some (.int .i64 b)) ∧ (w.frozen? ⟨g, 0, none⟩ = false ∧ w.frozen? ⟨g, 1, none⟩ = false) := by
  unfold C2 at h
  refine ⟨⟨?_, ?_⟩, ?_, ?_⟩ <;> simp [World.cell?, World.frozen?, h]
theorem C2.new (w : World) (a b : Int) : C2 (w.alloc (.cells #[.int .i64 a, .int .i64 b] 51)) w.heap.size a b := heap_alloc_new w _
theorem C2.put {w : World} {g : Nat} {a b : Int} (h : C2 w g a b) (a' b' : Int) : C2 ((w.setCell ⟨g, 0, none⟩ (.int .i64 a')).setCell ⟨g, 1, none⟩ (.int .i64 b')) g a' b' := heap_set_at _ (heap_set_at _ h)
theorem C2.load {w : World} {g : Nat} {a b : Int} (h : C2 w g a b) : (loadVar 51 ⟨g, 0, none⟩).run Tryz.prog w = .ok (.agg #[.int .i64 a, .int .i64 b]) w := by
  obtain ⟨⟨h1, h2⟩, -⟩ := h.cells
  simp [loadVar, go_sem, h1, h2]
theorem C2.result {w : World} {g : Nat} {a b : Int} (h : C2 w g a b) {fn : Func} {p : Tmp} {ts : Array Value} (hr : fn.results = #[.cell p 51]) (hp : ts.getD p undef = .pointer (some ⟨g, 0, none⟩)) : (Go.results fn ts).run Tryz.prog w = Result.ok (.agg #[.int .i64 a, .int .i64 b]) w := by
  have hp' : ts[p]?.getD undef = .pointer (some ⟨g, 0, none⟩) := by simpa using hp
  have ha : (asAddr (Value.pointer (some ⟨g, 0, none⟩))).run Tryz.prog w = .ok ⟨g, 0, none⟩ w := rfl
  simp only [Go.results, hr]
  simp [Sem.run_bind, Result.andThen, hp', ha, h.load]
theorem endSide_any (a b c d e : Int) (w : World) : Calls Tryz.prog 23 #[.agg #[.int .i64 a, .int .i64 b, .int .i64 c, .int .i64 d, .int .i64 e]] w fun x w' => x = .returned (.agg #[.int .i64 a, .int .i64 b]) ∧ Below w.heap.size w w' := by
  have hs : (w.alloc (.cells #[.int .i64 a, .int .i64 b, .int .i64 c, .int .i64 d, .int .i64 e] 50)).heap.size = w.heap.size + 1 := by simp
  have H2 := Lib.hid (C2.new (w.alloc (.cells #[.int .i64 a, .int .i64 b, .int .i64 c, .int .i64 d, .int .i64 e] 50)) a b)
  have HB := Lib.hid (belA1 (belA1 (Below.refl w.heap.size w) (.cells #[.int .i64 a, .int .i64 b, .int .i64 c, .int .i64 d, .int .i64 e] 50)) (.cells #[.int .i64 a, .int .i64 b] 51))
  rw [hs] at H2
  go_enter Tryz.func23, Tryz.ntmps23
  go_wp2_with fail
  refine bodyPost_ret (C2.result (g := w.heap.size + 1) H2.out rfl rfl) rfl ?_
  exact ⟨rfl, HB.out⟩
/-- The row of ends lies in another block than a row of lists. -/
theorem en_other {w : World} {B B' n : Nat} {v o : Value} {E : List En} {xs : List Value} (h : EnS w B v E) (hr : w.ownsRow B' 36 1 o n xs) : ∀ k, v.ownBlock = some k → some k ≠ o.ownBlock := by
  intro k hk e
  rcases hr.2 with ⟨rfl, -⟩ | ⟨g', cap', cur, rfl, hB, hh, -⟩
  · cases e
  · have e1 : k = g' := by simpa [Value.ownBlock] using e
    subst e1
    rcases h.2 with ⟨rfl, -⟩ | ⟨g2, cap2, cur2, rfl, h2, h3, -⟩
    · cases hk
    · have e2 : g2 = k := by simpa [Value.ownBlock] using hk
      rw [e2, hh] at h3
      simp at h3
def RqT (ge c : Nat) (w : World) (v : Value) : Prop := ∃ G g, v = .slice (some ⟨G, 0, none⟩) 3 3 ∧ (w.cell? ⟨G, 0, none⟩ = some (.slice (some ⟨ge, 0, none⟩) 2 5) ∧ w.cell? ⟨G, 1, none⟩ = some (.slice (some ⟨g, 0, none⟩) 1 1) ∧ w.cell? ⟨G, 2, none⟩ = some (.slice (some ⟨ge, 2, none⟩) 3 3)) ∧ w.cell? ⟨g, 0, none⟩ = some (.int .i64 (c : Int))
theorem RqT.gr {ge c : Nat} {w w' : World} {v : Value} (h : RqT ge c w v) (hb : Below w.heap.size w w') : RqT ge c w' v := by
  obtain ⟨G, g, h1, ⟨h2, h3, h4⟩, h5⟩ := h
  exact ⟨G, g, h1, ⟨X3.below.box_old3 h2 hb, X3.below.box_old3 h3 hb, X3.below.box_old3 h4 hb⟩, X3.below.box_old3 h5 hb⟩
abbrev LEN := List En
def RqB (y : World) (Z : LLI) (be : Nat) (r : Value) (E : LEN) (w : World) (v : Value) : Prop := ∃ P, LS w y.heap.size v P ∧ lls P = Z ∧ Below y.heap.size y w ∧ EnS w be r E
theorem RqB.gr {y : World} {Z : LLI} {be : Nat} {r : Value} {E : LEN} {w w' : World} {v : Value} (h : RqB y Z be r E w v) (hb : Below w.heap.size w w') : RqB y Z be r E w' v := by
  obtain ⟨P, h1, h2, h3, h4⟩ := h
  exact ⟨P, h1.below hb, h2, bel2 h3 hb, FS.below h4 hb⟩
theorem rd_ints {w : World} {g o n cap : Nat} {zs : List Int} (hn : n = zs.length) (h : ∀ j, j < zs.length → w.cell? ⟨g, o + j, none⟩ = some (.int .i64 (gd zs j))) : RdA w (.slice (some ⟨g, o, none⟩) n cap) zs := by
  subst hn
  refine ⟨⟨g, o, none⟩, cap, rfl, fun j u hu => ?_⟩
  have hj : j < zs.length := by
    rcases Nat.lt_or_ge j zs.length with h' | h'
    · exact h'
    · rw [List.getElem?_eq_none (by simp [ints]; omega)] at hu; cases hu
  rw [add_at0, h j hj, gd_eq _ _ hj]
  simpa [ints, List.getElem?_eq_getElem hj] using hu
abbrev actRr (q0 q1 q2 q3 q4 q5 q6 q8 q9 q10 q11 q12 q13 q14 q15 q16 q17 q18 q19 q20 q21 q22 q23 q24 q25 q26 q27 q28 q29 q30 q31 q32 q33 q34 q35 q36 q37 q38 q39 q40 q41 q51 q52 q53 q54 q55 : Value) (s7 s42 s43 s44 s45 s46 s47 s48 s49 s50 : Value) : Act := { tmps := #[q0, q1, q2, q3, q4, q5, q6, s7, q8, q9, q10, q11, q12, q13, q14, q15, q16, q17, q18, q19, q20, q21, q22, q23, q24, q25, q26, q27, q28, q29, q30, q31, q32, q33, q34, q35, q36, q37, q38, q39, q40, q41, s42, s43, s44, s45, s46, s47, s48, s49, s50, q51, q52, q53, q54, q55], defers := [] }
/-- What is known when some operations are done. -/
structure IvRr (x : World) (y : World) (Z : LLI) (be : Nat) (r : Value) (E : LEN) (oA : Option Addr) (np oc ge b0 c i k : Nat) (a2 a3 a4 : Int) (L : Array Bool) (s7 s42 s43 s44 s45 s46 s47 s48 s49 s50 : Value) (w : World) : Prop where
  z : L.size = 10
  bel : (L.getD 8 false = false) → Below x.heap.size x w
  c0 : (L.getD 0 false = true) → s42 = .slice oA np oc
  c1 : (L.getD 1 false = true) → s43 = .slice (some ⟨ge, 0, none⟩) 2 5
  c2 : (L.getD 2 false = true) → s44 = .int .i64 (c : Int)
  c3 : (L.getD 3 false = true) → (L.getD 8 false = false) → RqO c w s45
  c4 : (L.getD 4 false = true) → s46 = .slice (some ⟨ge, 2, none⟩) 3 3
  c5 : (L.getD 5 false = true) → (L.getD 8 false = false) → RqT ge c w s47
  c6 : (L.getD 6 false = true) → (L.getD 8 false = false) → RqI b0 [(i : Int), (k : Int), (c : Int), a2, a3, a4] w s48
  c7 : (L.getD 7 false = true) → (L.getD 8 false = false) → RqS b0 [(i : Int), (k : Int), (c : Int), a2, a3, a4] w s49
  c8 : (L.getD 8 false = true) → RqB y Z be r E w s50
  c9 : (L.getD 9 false = true) → RqB y Z be r E w s7
  g3 : (L.getD 3 false = true) → ∀ j, j ∈ [2] → L.getD j false = true
  g5 : (L.getD 5 false = true) → ∀ j, j ∈ [1, 2, 3, 4] → L.getD j false = true
  g6 : (L.getD 6 false = true) → ∀ j, j ∈ [1, 2, 3, 4, 5] → L.getD j false = true
  g7 : (L.getD 7 false = true) → ∀ j, j ∈ [1, 2, 3, 4, 5, 6] → L.getD j false = true
  g8 : (L.getD 8 false = true) → ∀ j, j ∈ [0, 1, 2, 3, 4, 5, 6, 7] → L.getD j false = true
  g9 : (L.getD 9 false = true) → ∀ j, j ∈ [0, 1, 2, 3, 4, 5, 6, 7, 8] → L.getD j false = true
  i7 : (L.getD 9 false = false) → s7 = .slice oA np oc
theorem IvRr.start (x : World) (y : World) (Z : LLI) (be : Nat) (r : Value) (E : LEN) (oA : Option Addr) (np oc ge b0 c i k : Nat) (a2 a3 a4 : Int) (s42 s43 s44 s45 s46 s47 s48 s49 s50 : Value) : IvRr x y Z be r E oA np oc ge b0 c i k a2 a3 a4 (Array.replicate 10 false) (.slice oA np oc) s42 s43 s44 s45 s46 s47 s48 s49 s50 x.drew where
  z := rfl
  bel := fun _ => belD (Below.refl _ _)
  c0 := fun h => by simp at h
  c1 := fun h => by simp at h
  c2 := fun h => by simp at h
  c3 := fun h => by simp at h
  c4 := fun h => by simp at h
  c5 := fun h => by simp at h
  c6 := fun h => by simp at h
  c7 := fun h => by simp at h
  c8 := fun h => by simp at h
  c9 := fun h => by simp at h
  g3 := fun h => by simp at h
  g5 := fun h => by simp at h
  g6 := fun h => by simp at h
  g7 := fun h => by simp at h
  g8 := fun h => by simp at h
  g9 := fun h => by simp at h
  i7 := fun _ => rfl
theorem IvRr.o0 {x : World} {y : World} {Z : LLI} {be : Nat} {r : Value} {E : LEN} {oA : Option Addr} {np oc ge b0 c i k : Nat} {a2 a3 a4 : Int} {L : Array Bool} {s7 s42 s43 s44 s45 s46 s47 s48 s49 s50 : Value} {w : World} (H : IvRr x y Z be r E oA np oc ge b0 c i k a2 a3 a4 L s7 s42 s43 s44 s45 s46 s47 s48 s49 s50 w) (hN : L.getD 0 true = false) : IvRr x y Z be r E oA np oc ge b0 c i k a2 a3 a4 (L.setIfInBounds 0 true) s7 (.slice oA np oc) s43 s44 s45 s46 s47 s48 s49 s50 w where
  z := by rw [Array.size_setIfInBounds]; exact H.z
  bel := fun n => (H.bel (by rwa [getD_set_ne _ (by decide)] at n))
  c0 := fun _ => rfl
  c1 := fun h => H.c1 (by rwa [getD_set_ne _ (by decide)] at h)
  c2 := fun h => H.c2 (by rwa [getD_set_ne _ (by decide)] at h)
  c3 := fun h n => H.c3 (by rwa [getD_set_ne _ (by decide)] at h) (by rwa [getD_set_ne _ (by decide)] at n)
  c4 := fun h => H.c4 (by rwa [getD_set_ne _ (by decide)] at h)
  c5 := fun h n => H.c5 (by rwa [getD_set_ne _ (by decide)] at h) (by rwa [getD_set_ne _ (by decide)] at n)
  c6 := fun h n => H.c6 (by rwa [getD_set_ne _ (by decide)] at h) (by rwa [getD_set_ne _ (by decide)] at n)
  c7 := fun h n => H.c7 (by rwa [getD_set_ne _ (by decide)] at h) (by rwa [getD_set_ne _ (by decide)] at n)
  c8 := fun h => H.c8 (by rwa [getD_set_ne _ (by decide)] at h)
  c9 := fun h => H.c9 (by rwa [getD_set_ne _ (by decide)] at h)
  g3 := fun h j hj => by
    by_cases e : j = 0
    · subst e; exact getD_set_same H.z (by decide)
    · rw [getD_set_ne _ (fun q => e q.symm)]; exact H.g3 (by rwa [getD_set_ne _ (by decide)] at h) j hj
  g5 := fun h j hj => by
    by_cases e : j = 0
    · subst e; exact getD_set_same H.z (by decide)
    · rw [getD_set_ne _ (fun q => e q.symm)]; exact H.g5 (by rwa [getD_set_ne _ (by decide)] at h) j hj
  g6 := fun h j hj => by
    by_cases e : j = 0
    · subst e; exact getD_set_same H.z (by decide)
    · rw [getD_set_ne _ (fun q => e q.symm)]; exact H.g6 (by rwa [getD_set_ne _ (by decide)] at h) j hj
  g7 := fun h j hj => by
    by_cases e : j = 0
    · subst e; exact getD_set_same H.z (by decide)
    · rw [getD_set_ne _ (fun q => e q.symm)]; exact H.g7 (by rwa [getD_set_ne _ (by decide)] at h) j hj
  g8 := fun h j hj => by
    by_cases e : j = 0
    · subst e; exact getD_set_same H.z (by decide)
    · rw [getD_set_ne _ (fun q => e q.symm)]; exact H.g8 (by rwa [getD_set_ne _ (by decide)] at h) j hj
  g9 := fun h j hj => by
    by_cases e : j = 0
    · subst e; exact getD_set_same H.z (by decide)
    · rw [getD_set_ne _ (fun q => e q.symm)]; exact H.g9 (by rwa [getD_set_ne _ (by decide)] at h) j hj
  i7 := fun n => H.i7 (by rwa [getD_set_ne _ (by decide)] at n)
theorem IvRr.o1 {x : World} {y : World} {Z : LLI} {be : Nat} {r : Value} {E : LEN} {oA : Option Addr} {np oc ge b0 c i k : Nat} {a2 a3 a4 : Int} {L : Array Bool} {s7 s42 s43 s44 s45 s46 s47 s48 s49 s50 : Value} {w : World} (H : IvRr x y Z be r E oA np oc ge b0 c i k a2 a3 a4 L s7 s42 s43 s44 s45 s46 s47 s48 s49 s50 w) (hN : L.getD 1 true = false) : IvRr x y Z be r E oA np oc ge b0 c i k a2 a3 a4 (L.setIfInBounds 1 true) s7 s42 (.slice (some ⟨ge, 0, none⟩) 2 5) s44 s45 s46 s47 s48 s49 s50 w where
  z := by rw [Array.size_setIfInBounds]; exact H.z
  bel := fun n => (H.bel (by rwa [getD_set_ne _ (by decide)] at n))
  c0 := fun h => H.c0 (by rwa [getD_set_ne _ (by decide)] at h)
  c1 := fun _ => rfl
  c2 := fun h => H.c2 (by rwa [getD_set_ne _ (by decide)] at h)
  c3 := fun h n => H.c3 (by rwa [getD_set_ne _ (by decide)] at h) (by rwa [getD_set_ne _ (by decide)] at n)
  c4 := fun h => H.c4 (by rwa [getD_set_ne _ (by decide)] at h)
  c5 := fun h n => H.c5 (by rwa [getD_set_ne _ (by decide)] at h) (by rwa [getD_set_ne _ (by decide)] at n)
  c6 := fun h n => H.c6 (by rwa [getD_set_ne _ (by decide)] at h) (by rwa [getD_set_ne _ (by decide)] at n)
  c7 := fun h n => H.c7 (by rwa [getD_set_ne _ (by decide)] at h) (by rwa [getD_set_ne _ (by decide)] at n)
  c8 := fun h => H.c8 (by rwa [getD_set_ne _ (by decide)] at h)
  c9 := fun h => H.c9 (by rwa [getD_set_ne _ (by decide)] at h)
  g3 := fun h j hj => by
    by_cases e : j = 1
    · subst e; exact getD_set_same H.z (by decide)
    · rw [getD_set_ne _ (fun q => e q.symm)]; exact H.g3 (by rwa [getD_set_ne _ (by decide)] at h) j hj
  g5 := fun h j hj => by
    by_cases e : j = 1
    · subst e; exact getD_set_same H.z (by decide)
    · rw [getD_set_ne _ (fun q => e q.symm)]; exact H.g5 (by rwa [getD_set_ne _ (by decide)] at h) j hj
  g6 := fun h j hj => by
    by_cases e : j = 1
    · subst e; exact getD_set_same H.z (by decide)
    · rw [getD_set_ne _ (fun q => e q.symm)]; exact H.g6 (by rwa [getD_set_ne _ (by decide)] at h) j hj
  g7 := fun h j hj => by
    by_cases e : j = 1
    · subst e; exact getD_set_same H.z (by decide)
    · rw [getD_set_ne _ (fun q => e q.symm)]; exact H.g7 (by rwa [getD_set_ne _ (by decide)] at h) j hj
  g8 := fun h j hj => by
    by_cases e : j = 1
    · subst e; exact getD_set_same H.z (by decide)
    · rw [getD_set_ne _ (fun q => e q.symm)]; exact H.g8 (by rwa [getD_set_ne _ (by decide)] at h) j hj
  g9 := fun h j hj => by
    by_cases e : j = 1
    · subst e; exact getD_set_same H.z (by decide)
    · rw [getD_set_ne _ (fun q => e q.symm)]; exact H.g9 (by rwa [getD_set_ne _ (by decide)] at h) j hj
  i7 := fun n => H.i7 (by rwa [getD_set_ne _ (by decide)] at n)
theorem IvRr.o2 {x : World} {y : World} {Z : LLI} {be : Nat} {r : Value} {E : LEN} {oA : Option Addr} {np oc ge b0 c i k : Nat} {a2 a3 a4 : Int} {L : Array Bool} {s7 s42 s43 s44 s45 s46 s47 s48 s49 s50 : Value} {w : World} (H : IvRr x y Z be r E oA np oc ge b0 c i k a2 a3 a4 L s7 s42 s43 s44 s45 s46 s47 s48 s49 s50 w) (hN : L.getD 2 true = false) : IvRr x y Z be r E oA np oc ge b0 c i k a2 a3 a4 (L.setIfInBounds 2 true) s7 s42 s43 (.int .i64 (c : Int)) s45 s46 s47 s48 s49 s50 w where
  z := by rw [Array.size_setIfInBounds]; exact H.z
  bel := fun n => (H.bel (by rwa [getD_set_ne _ (by decide)] at n))
  c0 := fun h => H.c0 (by rwa [getD_set_ne _ (by decide)] at h)
  c1 := fun h => H.c1 (by rwa [getD_set_ne _ (by decide)] at h)
  c2 := fun _ => rfl
  c3 := fun h n => H.c3 (by rwa [getD_set_ne _ (by decide)] at h) (by rwa [getD_set_ne _ (by decide)] at n)
  c4 := fun h => H.c4 (by rwa [getD_set_ne _ (by decide)] at h)
  c5 := fun h n => H.c5 (by rwa [getD_set_ne _ (by decide)] at h) (by rwa [getD_set_ne _ (by decide)] at n)
  c6 := fun h n => H.c6 (by rwa [getD_set_ne _ (by decide)] at h) (by rwa [getD_set_ne _ (by decide)] at n)
  c7 := fun h n => H.c7 (by rwa [getD_set_ne _ (by decide)] at h) (by rwa [getD_set_ne _ (by decide)] at n)
  c8 := fun h => H.c8 (by rwa [getD_set_ne _ (by decide)] at h)
  c9 := fun h => H.c9 (by rwa [getD_set_ne _ (by decide)] at h)
  g3 := fun h j hj => by
    by_cases e : j = 2
    · subst e; exact getD_set_same H.z (by decide)
    · rw [getD_set_ne _ (fun q => e q.symm)]; exact H.g3 (by rwa [getD_set_ne _ (by decide)] at h) j hj
  g5 := fun h j hj => by
    by_cases e : j = 2
    · subst e; exact getD_set_same H.z (by decide)
    · rw [getD_set_ne _ (fun q => e q.symm)]; exact H.g5 (by rwa [getD_set_ne _ (by decide)] at h) j hj
  g6 := fun h j hj => by
    by_cases e : j = 2
    · subst e; exact getD_set_same H.z (by decide)
    · rw [getD_set_ne _ (fun q => e q.symm)]; exact H.g6 (by rwa [getD_set_ne _ (by decide)] at h) j hj
  g7 := fun h j hj => by
    by_cases e : j = 2
    · subst e; exact getD_set_same H.z (by decide)
    · rw [getD_set_ne _ (fun q => e q.symm)]; exact H.g7 (by rwa [getD_set_ne _ (by decide)] at h) j hj
  g8 := fun h j hj => by
    by_cases e : j = 2
    · subst e; exact getD_set_same H.z (by decide)
    · rw [getD_set_ne _ (fun q => e q.symm)]; exact H.g8 (by rwa [getD_set_ne _ (by decide)] at h) j hj
  g9 := fun h j hj => by
    by_cases e : j = 2
    · subst e; exact getD_set_same H.z (by decide)
    · rw [getD_set_ne _ (fun q => e q.symm)]; exact H.g9 (by rwa [getD_set_ne _ (by decide)] at h) j hj
  i7 := fun n => H.i7 (by rwa [getD_set_ne _ (by decide)] at n)
theorem IvRr.o3 {x : World} {y : World} {Z : LLI} {be : Nat} {r : Value} {E : LEN} {oA : Option Addr} {np oc ge b0 c i k : Nat} {a2 a3 a4 : Int} {L : Array Bool} {s7 s42 s43 s44 s45 s46 s47 s48 s49 s50 : Value} {w : World} (H : IvRr x y Z be r E oA np oc ge b0 c i k a2 a3 a4 L s7 s42 s43 s44 s45 s46 s47 s48 s49 s50 w) (hN : L.getD 3 true = false) (hall : ∀ j, j ∈ [2] → L.getD j false = true) {w' : World} (hg : Below w.heap.size w w') {u : Value} (hR : RqO c w' u) : IvRr x y Z be r E oA np oc ge b0 c i k a2 a3 a4 (L.setIfInBounds 3 true) s7 s42 s43 s44 u s46 s47 s48 s49 s50 w' where
  z := by rw [Array.size_setIfInBounds]; exact H.z
  bel := fun n => bel2 (H.bel (by rwa [getD_set_ne _ (by decide)] at n)) hg
  c0 := fun h => H.c0 (by rwa [getD_set_ne _ (by decide)] at h)
  c1 := fun h => H.c1 (by rwa [getD_set_ne _ (by decide)] at h)
  c2 := fun h => H.c2 (by rwa [getD_set_ne _ (by decide)] at h)
  c3 := fun h n => hR
  c4 := fun h => H.c4 (by rwa [getD_set_ne _ (by decide)] at h)
  c5 := fun h n => (H.c5 (by rwa [getD_set_ne _ (by decide)] at h) (by rwa [getD_set_ne _ (by decide)] at n)).gr hg
  c6 := fun h n => (H.c6 (by rwa [getD_set_ne _ (by decide)] at h) (by rwa [getD_set_ne _ (by decide)] at n)).gr hg
  c7 := fun h n => (H.c7 (by rwa [getD_set_ne _ (by decide)] at h) (by rwa [getD_set_ne _ (by decide)] at n)).gr hg
  c8 := fun h => (H.c8 (by rwa [getD_set_ne _ (by decide)] at h)).gr hg
  c9 := fun h => (H.c9 (by rwa [getD_set_ne _ (by decide)] at h)).gr hg
  g3 := fun _ j hj => by rw [getD_set_ne _ (by rintro rfl; exact absurd hj (by decide))]; exact hall j hj
  g5 := fun h j hj => by
    by_cases e : j = 3
    · subst e; exact getD_set_same H.z (by decide)
    · rw [getD_set_ne _ (fun q => e q.symm)]; exact H.g5 (by rwa [getD_set_ne _ (by decide)] at h) j hj
  g6 := fun h j hj => by
    by_cases e : j = 3
    · subst e; exact getD_set_same H.z (by decide)
    · rw [getD_set_ne _ (fun q => e q.symm)]; exact H.g6 (by rwa [getD_set_ne _ (by decide)] at h) j hj
  g7 := fun h j hj => by
    by_cases e : j = 3
    · subst e; exact getD_set_same H.z (by decide)
    · rw [getD_set_ne _ (fun q => e q.symm)]; exact H.g7 (by rwa [getD_set_ne _ (by decide)] at h) j hj
  g8 := fun h j hj => by
    by_cases e : j = 3
    · subst e; exact getD_set_same H.z (by decide)
    · rw [getD_set_ne _ (fun q => e q.symm)]; exact H.g8 (by rwa [getD_set_ne _ (by decide)] at h) j hj
  g9 := fun h j hj => by
    by_cases e : j = 3
    · subst e; exact getD_set_same H.z (by decide)
    · rw [getD_set_ne _ (fun q => e q.symm)]; exact H.g9 (by rwa [getD_set_ne _ (by decide)] at h) j hj
  i7 := fun n => H.i7 (by rwa [getD_set_ne _ (by decide)] at n)
theorem IvRr.o4 {x : World} {y : World} {Z : LLI} {be : Nat} {r : Value} {E : LEN} {oA : Option Addr} {np oc ge b0 c i k : Nat} {a2 a3 a4 : Int} {L : Array Bool} {s7 s42 s43 s44 s45 s46 s47 s48 s49 s50 : Value} {w : World} (H : IvRr x y Z be r E oA np oc ge b0 c i k a2 a3 a4 L s7 s42 s43 s44 s45 s46 s47 s48 s49 s50 w) (hN : L.getD 4 true = false) : IvRr x y Z be r E oA np oc ge b0 c i k a2 a3 a4 (L.setIfInBounds 4 true) s7 s42 s43 s44 s45 (.slice (some ⟨ge, 2, none⟩) 3 3) s47 s48 s49 s50 w where
  z := by rw [Array.size_setIfInBounds]; exact H.z
  bel := fun n => (H.bel (by rwa [getD_set_ne _ (by decide)] at n))
  c0 := fun h => H.c0 (by rwa [getD_set_ne _ (by decide)] at h)
  c1 := fun h => H.c1 (by rwa [getD_set_ne _ (by decide)] at h)
  c2 := fun h => H.c2 (by rwa [getD_set_ne _ (by decide)] at h)
  c3 := fun h n => H.c3 (by rwa [getD_set_ne _ (by decide)] at h) (by rwa [getD_set_ne _ (by decide)] at n)
  c4 := fun _ => rfl
  c5 := fun h n => H.c5 (by rwa [getD_set_ne _ (by decide)] at h) (by rwa [getD_set_ne _ (by decide)] at n)
  c6 := fun h n => H.c6 (by rwa [getD_set_ne _ (by decide)] at h) (by rwa [getD_set_ne _ (by decide)] at n)
  c7 := fun h n => H.c7 (by rwa [getD_set_ne _ (by decide)] at h) (by rwa [getD_set_ne _ (by decide)] at n)
  c8 := fun h => H.c8 (by rwa [getD_set_ne _ (by decide)] at h)
  c9 := fun h => H.c9 (by rwa [getD_set_ne _ (by decide)] at h)
  g3 := fun h j hj => by
    by_cases e : j = 4
    · subst e; exact getD_set_same H.z (by decide)
    · rw [getD_set_ne _ (fun q => e q.symm)]; exact H.g3 (by rwa [getD_set_ne _ (by decide)] at h) j hj
  g5 := fun h j hj => by
    by_cases e : j = 4
    · subst e; exact getD_set_same H.z (by decide)
    · rw [getD_set_ne _ (fun q => e q.symm)]; exact H.g5 (by rwa [getD_set_ne _ (by decide)] at h) j hj
  g6 := fun h j hj => by
    by_cases e : j = 4
    · subst e; exact getD_set_same H.z (by decide)
    · rw [getD_set_ne _ (fun q => e q.symm)]; exact H.g6 (by rwa [getD_set_ne _ (by decide)] at h) j hj
  g7 := fun h j hj => by
    by_cases e : j = 4
    · subst e; exact getD_set_same H.z (by decide)
    · rw [getD_set_ne _ (fun q => e q.symm)]; exact H.g7 (by rwa [getD_set_ne _ (by decide)] at h) j hj
  g8 := fun h j hj => by
    by_cases e : j = 4
    · subst e; exact getD_set_same H.z (by decide)
    · rw [getD_set_ne _ (fun q => e q.symm)]; exact H.g8 (by rwa [getD_set_ne _ (by decide)] at h) j hj
  g9 := fun h j hj => by
    by_cases e : j = 4
    · subst e; exact getD_set_same H.z (by decide)
    · rw [getD_set_ne _ (fun q => e q.symm)]; exact H.g9 (by rwa [getD_set_ne _ (by decide)] at h) j hj
  i7 := fun n => H.i7 (by rwa [getD_set_ne _ (by decide)] at n)
theorem IvRr.o5 {x : World} {y : World} {Z : LLI} {be : Nat} {r : Value} {E : LEN} {oA : Option Addr} {np oc ge b0 c i k : Nat} {a2 a3 a4 : Int} {L : Array Bool} {s7 s42 s43 s44 s45 s46 s47 s48 s49 s50 : Value} {w : World} (H : IvRr x y Z be r E oA np oc ge b0 c i k a2 a3 a4 L s7 s42 s43 s44 s45 s46 s47 s48 s49 s50 w) (hN : L.getD 5 true = false) (hall : ∀ j, j ∈ [1, 2, 3, 4] → L.getD j false = true) {w' : World} (hg : Below w.heap.size w w') {u : Value} (hR : RqT ge c w' u) : IvRr x y Z be r E oA np oc ge b0 c i k a2 a3 a4 (L.setIfInBounds 5 true) s7 s42 s43 s44 s45 s46 u s48 s49 s50 w' where
  z := by rw [Array.size_setIfInBounds]; exact H.z
  bel := fun n => bel2 (H.bel (by rwa [getD_set_ne _ (by decide)] at n)) hg
  c0 := fun h => H.c0 (by rwa [getD_set_ne _ (by decide)] at h)
  c1 := fun h => H.c1 (by rwa [getD_set_ne _ (by decide)] at h)
  c2 := fun h => H.c2 (by rwa [getD_set_ne _ (by decide)] at h)
  c3 := fun h n => (H.c3 (by rwa [getD_set_ne _ (by decide)] at h) (by rwa [getD_set_ne _ (by decide)] at n)).gr hg
  c4 := fun h => H.c4 (by rwa [getD_set_ne _ (by decide)] at h)
  c5 := fun h n => hR
  c6 := fun h n => (H.c6 (by rwa [getD_set_ne _ (by decide)] at h) (by rwa [getD_set_ne _ (by decide)] at n)).gr hg
  c7 := fun h n => (H.c7 (by rwa [getD_set_ne _ (by decide)] at h) (by rwa [getD_set_ne _ (by decide)] at n)).gr hg
  c8 := fun h => (H.c8 (by rwa [getD_set_ne _ (by decide)] at h)).gr hg
  c9 := fun h => (H.c9 (by rwa [getD_set_ne _ (by decide)] at h)).gr hg
  g3 := fun h j hj => by
    by_cases e : j = 5
    · subst e; exact getD_set_same H.z (by decide)
    · rw [getD_set_ne _ (fun q => e q.symm)]; exact H.g3 (by rwa [getD_set_ne _ (by decide)] at h) j hj
  g5 := fun _ j hj => by rw [getD_set_ne _ (by rintro rfl; exact absurd hj (by decide))]; exact hall j hj
  g6 := fun h j hj => by
    by_cases e : j = 5
    · subst e; exact getD_set_same H.z (by decide)
    · rw [getD_set_ne _ (fun q => e q.symm)]; exact H.g6 (by rwa [getD_set_ne _ (by decide)] at h) j hj
  g7 := fun h j hj => by
    by_cases e : j = 5
    · subst e; exact getD_set_same H.z (by decide)
    · rw [getD_set_ne _ (fun q => e q.symm)]; exact H.g7 (by rwa [getD_set_ne _ (by decide)] at h) j hj
  g8 := fun h j hj => by
    by_cases e : j = 5
    · subst e; exact getD_set_same H.z (by decide)
    · rw [getD_set_ne _ (fun q => e q.symm)]; exact H.g8 (by rwa [getD_set_ne _ (by decide)] at h) j hj
  g9 := fun h j hj => by
    by_cases e : j = 5
    · subst e; exact getD_set_same H.z (by decide)
    · rw [getD_set_ne _ (fun q => e q.symm)]; exact H.g9 (by rwa [getD_set_ne _ (by decide)] at h) j hj
  i7 := fun n => H.i7 (by rwa [getD_set_ne _ (by decide)] at n)
theorem IvRr.o6 {x : World} {y : World} {Z : LLI} {be : Nat} {r : Value} {E : LEN} {oA : Option Addr} {np oc ge b0 c i k : Nat} {a2 a3 a4 : Int} {L : Array Bool} {s7 s42 s43 s44 s45 s46 s47 s48 s49 s50 : Value} {w : World} (H : IvRr x y Z be r E oA np oc ge b0 c i k a2 a3 a4 L s7 s42 s43 s44 s45 s46 s47 s48 s49 s50 w) (hN : L.getD 6 true = false) (hall : ∀ j, j ∈ [1, 2, 3, 4, 5] → L.getD j false = true) {w' : World} (hg : Below w.heap.size w w') {u : Value} (hR : RqI b0 [(i : Int), (k : Int), (c : Int), a2, a3, a4] w' u) : IvRr x y Z be r E oA np oc ge b0 c i k a2 a3 a4 (L.setIfInBounds 6 true) s7 s42 s43 s44 s45 s46 s47 u s49 s50 w' where
  z := by rw [Array.size_setIfInBounds]; exact H.z
  bel := fun n => bel2 (H.bel (by rwa [getD_set_ne _ (by decide)] at n)) hg
  c0 := fun h => H.c0 (by rwa [getD_set_ne _ (by decide)] at h)
  c1 := fun h => H.c1 (by rwa [getD_set_ne _ (by decide)] at h)
  c2 := fun h => H.c2 (by rwa [getD_set_ne _ (by decide)] at h)
  c3 := fun h n => (H.c3 (by rwa [getD_set_ne _ (by decide)] at h) (by rwa [getD_set_ne _ (by decide)] at n)).gr hg
  c4 := fun h => H.c4 (by rwa [getD_set_ne _ (by decide)] at h)
  c5 := fun h n => (H.c5 (by rwa [getD_set_ne _ (by decide)] at h) (by rwa [getD_set_ne _ (by decide)] at n)).gr hg
  c6 := fun h n => hR
  c7 := fun h n => (H.c7 (by rwa [getD_set_ne _ (by decide)] at h) (by rwa [getD_set_ne _ (by decide)] at n)).gr hg
  c8 := fun h => (H.c8 (by rwa [getD_set_ne _ (by decide)] at h)).gr hg
  c9 := fun h => (H.c9 (by rwa [getD_set_ne _ (by decide)] at h)).gr hg
  g3 := fun h j hj => by
    by_cases e : j = 6
    · subst e; exact getD_set_same H.z (by decide)
    · rw [getD_set_ne _ (fun q => e q.symm)]; exact H.g3 (by rwa [getD_set_ne _ (by decide)] at h) j hj
  g5 := fun h j hj => by
    by_cases e : j = 6
    · subst e; exact getD_set_same H.z (by decide)
    · rw [getD_set_ne _ (fun q => e q.symm)]; exact H.g5 (by rwa [getD_set_ne _ (by decide)] at h) j hj
  g6 := fun _ j hj => by rw [getD_set_ne _ (by rintro rfl; exact absurd hj (by decide))]; exact hall j hj
  g7 := fun h j hj => by
    by_cases e : j = 6
    · subst e; exact getD_set_same H.z (by decide)
    · rw [getD_set_ne _ (fun q => e q.symm)]; exact H.g7 (by rwa [getD_set_ne _ (by decide)] at h) j hj
  g8 := fun h j hj => by
    by_cases e : j = 6
    · subst e; exact getD_set_same H.z (by decide)
    · rw [getD_set_ne _ (fun q => e q.symm)]; exact H.g8 (by rwa [getD_set_ne _ (by decide)] at h) j hj
  g9 := fun h j hj => by
    by_cases e : j = 6
    · subst e; exact getD_set_same H.z (by decide)
    · rw [getD_set_ne _ (fun q => e q.symm)]; exact H.g9 (by rwa [getD_set_ne _ (by decide)] at h) j hj
  i7 := fun n => H.i7 (by rwa [getD_set_ne _ (by decide)] at n)
theorem IvRr.o7 {x : World} {y : World} {Z : LLI} {be : Nat} {r : Value} {E : LEN} {oA : Option Addr} {np oc ge b0 c i k : Nat} {a2 a3 a4 : Int} {L : Array Bool} {s7 s42 s43 s44 s45 s46 s47 s48 s49 s50 : Value} {w : World} (H : IvRr x y Z be r E oA np oc ge b0 c i k a2 a3 a4 L s7 s42 s43 s44 s45 s46 s47 s48 s49 s50 w) (hN : L.getD 7 true = false) (hall : ∀ j, j ∈ [1, 2, 3, 4, 5, 6] → L.getD j false = true) {w' : World} (hg : Below w.heap.size w w') {u : Value} (hR : RqS b0 [(i : Int), (k : Int), (c : Int), a2, a3, a4] w' u) : IvRr x y Z be r E oA np oc ge b0 c i k a2 a3 a4 (L.setIfInBounds 7 true) s7 s42 s43 s44 s45 s46 s47 s48 u s50 w' where
  z := by rw [Array.size_setIfInBounds]; exact H.z
  bel := fun n => bel2 (H.bel (by rwa [getD_set_ne _ (by decide)] at n)) hg
  c0 := fun h => H.c0 (by rwa [getD_set_ne _ (by decide)] at h)
  c1 := fun h => H.c1 (by rwa [getD_set_ne _ (by decide)] at h)
  c2 := fun h => H.c2 (by rwa [getD_set_ne _ (by decide)] at h)
  c3 := fun h n => (H.c3 (by rwa [getD_set_ne _ (by decide)] at h) (by rwa [getD_set_ne _ (by decide)] at n)).gr hg
  c4 := fun h => H.c4 (by rwa [getD_set_ne _ (by decide)] at h)
  c5 := fun h n => (H.c5 (by rwa [getD_set_ne _ (by decide)] at h) (by rwa [getD_set_ne _ (by decide)] at n)).gr hg
  c6 := fun h n => (H.c6 (by rwa [getD_set_ne _ (by decide)] at h) (by rwa [getD_set_ne _ (by decide)] at n)).gr hg
  c7 := fun h n => hR
  c8 := fun h => (H.c8 (by rwa [getD_set_ne _ (by decide)] at h)).gr hg
  c9 := fun h => (H.c9 (by rwa [getD_set_ne _ (by decide)] at h)).gr hg
  g3 := fun h j hj => by
    by_cases e : j = 7
    · subst e; exact getD_set_same H.z (by decide)
    · rw [getD_set_ne _ (fun q => e q.symm)]; exact H.g3 (by rwa [getD_set_ne _ (by decide)] at h) j hj
  g5 := fun h j hj => by
    by_cases e : j = 7
    · subst e; exact getD_set_same H.z (by decide)
    · rw [getD_set_ne _ (fun q => e q.symm)]; exact H.g5 (by rwa [getD_set_ne _ (by decide)] at h) j hj
  g6 := fun h j hj => by
    by_cases e : j = 7
    · subst e; exact getD_set_same H.z (by decide)
    · rw [getD_set_ne _ (fun q => e q.symm)]; exact H.g6 (by rwa [getD_set_ne _ (by decide)] at h) j hj
  g7 := fun _ j hj => by rw [getD_set_ne _ (by rintro rfl; exact absurd hj (by decide))]; exact hall j hj
  g8 := fun h j hj => by
    by_cases e : j = 7
    · subst e; exact getD_set_same H.z (by decide)
    · rw [getD_set_ne _ (fun q => e q.symm)]; exact H.g8 (by rwa [getD_set_ne _ (by decide)] at h) j hj
  g9 := fun h j hj => by
    by_cases e : j = 7
    · subst e; exact getD_set_same H.z (by decide)
    · rw [getD_set_ne _ (fun q => e q.symm)]; exact H.g9 (by rwa [getD_set_ne _ (by decide)] at h) j hj
  i7 := fun n => H.i7 (by rwa [getD_set_ne _ (by decide)] at n)
theorem IvRr.o8 {x : World} {y : World} {Z : LLI} {be : Nat} {r : Value} {E : LEN} {oA : Option Addr} {np oc ge b0 c i k : Nat} {a2 a3 a4 : Int} {L : Array Bool} {s7 s42 s43 s44 s45 s46 s47 s48 s49 s50 : Value} {w : World} (H : IvRr x y Z be r E oA np oc ge b0 c i k a2 a3 a4 L s7 s42 s43 s44 s45 s46 s47 s48 s49 s50 w) (hN : L.getD 8 true = false) (hall : ∀ j, j ∈ [0, 1, 2, 3, 4, 5, 6, 7] → L.getD j false = true) {w' : World} {u : Value} (hR : RqB y Z be r E w' u) : IvRr x y Z be r E oA np oc ge b0 c i k a2 a3 a4 (L.setIfInBounds 8 true) s7 s42 s43 s44 s45 s46 s47 s48 s49 u w' where
  z := by rw [Array.size_setIfInBounds]; exact H.z
  bel := fun n => (by have e := getD_set_same (L := L) H.z (show 8 < 10 by decide); rw [n] at e; cases e)
  c0 := fun h => H.c0 (by rwa [getD_set_ne _ (by decide)] at h)
  c1 := fun h => H.c1 (by rwa [getD_set_ne _ (by decide)] at h)
  c2 := fun h => H.c2 (by rwa [getD_set_ne _ (by decide)] at h)
  c3 := fun h n => (by have e := getD_set_same (L := L) H.z (show 8 < 10 by decide); rw [n] at e; cases e)
  c4 := fun h => H.c4 (by rwa [getD_set_ne _ (by decide)] at h)
  c5 := fun h n => (by have e := getD_set_same (L := L) H.z (show 8 < 10 by decide); rw [n] at e; cases e)
  c6 := fun h n => (by have e := getD_set_same (L := L) H.z (show 8 < 10 by decide); rw [n] at e; cases e)
  c7 := fun h n => (by have e := getD_set_same (L := L) H.z (show 8 < 10 by decide); rw [n] at e; cases e)
  c8 := fun h => hR
  c9 := fun h => (notl hN (H.g9 (by rwa [getD_set_ne _ (by decide)] at h) 8 (by decide))).elim
  g3 := fun h j hj => by
    by_cases e : j = 8
    · subst e; exact getD_set_same H.z (by decide)
    · rw [getD_set_ne _ (fun q => e q.symm)]; exact H.g3 (by rwa [getD_set_ne _ (by decide)] at h) j hj
  g5 := fun h j hj => by
    by_cases e : j = 8
    · subst e; exact getD_set_same H.z (by decide)
    · rw [getD_set_ne _ (fun q => e q.symm)]; exact H.g5 (by rwa [getD_set_ne _ (by decide)] at h) j hj
  g6 := fun h j hj => by
    by_cases e : j = 8
    · subst e; exact getD_set_same H.z (by decide)
    · rw [getD_set_ne _ (fun q => e q.symm)]; exact H.g6 (by rwa [getD_set_ne _ (by decide)] at h) j hj
  g7 := fun h j hj => by
    by_cases e : j = 8
    · subst e; exact getD_set_same H.z (by decide)
    · rw [getD_set_ne _ (fun q => e q.symm)]; exact H.g7 (by rwa [getD_set_ne _ (by decide)] at h) j hj
  g8 := fun _ j hj => by rw [getD_set_ne _ (by rintro rfl; exact absurd hj (by decide))]; exact hall j hj
  g9 := fun h j hj => by
    by_cases e : j = 8
    · subst e; exact getD_set_same H.z (by decide)
    · rw [getD_set_ne _ (fun q => e q.symm)]; exact H.g9 (by rwa [getD_set_ne _ (by decide)] at h) j hj
  i7 := fun n => H.i7 (by rwa [getD_set_ne _ (by decide)] at n)
theorem IvRr.o9 {x : World} {y : World} {Z : LLI} {be : Nat} {r : Value} {E : LEN} {oA : Option Addr} {np oc ge b0 c i k : Nat} {a2 a3 a4 : Int} {L : Array Bool} {s7 s42 s43 s44 s45 s46 s47 s48 s49 s50 : Value} {w : World} (H : IvRr x y Z be r E oA np oc ge b0 c i k a2 a3 a4 L s7 s42 s43 s44 s45 s46 s47 s48 s49 s50 w) (hN : L.getD 9 true = false) (hall : ∀ j, j ∈ [0, 1, 2, 3, 4, 5, 6, 7, 8] → L.getD j false = true) {u : Value} (hR : RqB y Z be r E w u) : IvRr x y Z be r E oA np oc ge b0 c i k a2 a3 a4 (L.setIfInBounds 9 true) u s42 s43 s44 s45 s46 s47 s48 s49 s50 w where
  z := by rw [Array.size_setIfInBounds]; exact H.z
  bel := fun n => (H.bel (by rwa [getD_set_ne _ (by decide)] at n))
  c0 := fun h => H.c0 (by rwa [getD_set_ne _ (by decide)] at h)
  c1 := fun h => H.c1 (by rwa [getD_set_ne _ (by decide)] at h)
  c2 := fun h => H.c2 (by rwa [getD_set_ne _ (by decide)] at h)
  c3 := fun h n => H.c3 (by rwa [getD_set_ne _ (by decide)] at h) (by rwa [getD_set_ne _ (by decide)] at n)
  c4 := fun h => H.c4 (by rwa [getD_set_ne _ (by decide)] at h)
  c5 := fun h n => H.c5 (by rwa [getD_set_ne _ (by decide)] at h) (by rwa [getD_set_ne _ (by decide)] at n)
  c6 := fun h n => H.c6 (by rwa [getD_set_ne _ (by decide)] at h) (by rwa [getD_set_ne _ (by decide)] at n)
  c7 := fun h n => H.c7 (by rwa [getD_set_ne _ (by decide)] at h) (by rwa [getD_set_ne _ (by decide)] at n)
  c8 := fun h => H.c8 (by rwa [getD_set_ne _ (by decide)] at h)
  c9 := fun h => hR
  g3 := fun h j hj => by
    by_cases e : j = 9
    · subst e; exact getD_set_same H.z (by decide)
    · rw [getD_set_ne _ (fun q => e q.symm)]; exact H.g3 (by rwa [getD_set_ne _ (by decide)] at h) j hj
  g5 := fun h j hj => by
    by_cases e : j = 9
    · subst e; exact getD_set_same H.z (by decide)
    · rw [getD_set_ne _ (fun q => e q.symm)]; exact H.g5 (by rwa [getD_set_ne _ (by decide)] at h) j hj
  g6 := fun h j hj => by
    by_cases e : j = 9
    · subst e; exact getD_set_same H.z (by decide)
    · rw [getD_set_ne _ (fun q => e q.symm)]; exact H.g6 (by rwa [getD_set_ne _ (by decide)] at h) j hj
  g7 := fun h j hj => by
    by_cases e : j = 9
    · subst e; exact getD_set_same H.z (by decide)
    · rw [getD_set_ne _ (fun q => e q.symm)]; exact H.g7 (by rwa [getD_set_ne _ (by decide)] at h) j hj
  g8 := fun h j hj => by
    by_cases e : j = 9
    · subst e; exact getD_set_same H.z (by decide)
    · rw [getD_set_ne _ (fun q => e q.symm)]; exact H.g8 (by rwa [getD_set_ne _ (by decide)] at h) j hj
  g9 := fun _ j hj => by rw [getD_set_ne _ (by rintro rfl; exact absurd hj (by decide))]; exact hall j hj
  i7 := fun n => (by have e := getD_set_same (L := L) H.z (show 9 < 10 by decide); rw [n] at e; cases e)
set_option maxHeartbeats 4000000 in
set_option maxRecDepth 100000 in
theorem implRaysOfCurve_any (w : World) (B : Nat) (v : Value) (l : List Tm) (h : TmS w B v l) : Calls Tryz.prog 7 #[v] w fun e w' => GivesLB (plB l) (ryR l) w e w' := by
  cases hl : plB l
  · have HL := Lib.hid hl
    go_enter Tryz.func7, Tryz.ntmps7
    go_wp2_with fail
    refine (implCellsOf_any _ B _ l h).mono ?_
    rintro e w1 ⟨r, P, rfl, hLS, hP, b1⟩
    rw [HL.out]
    clear hLS hP hl
    go_wp2
    go_ret2
    exact givesLB_nil rfl (ryR_no HL.out) b1
  · have HL := Lib.hid hl
    have H12 := Lib.hid (plB_le hl).2
    go_enter Tryz.func7, Tryz.ntmps7
    go_wp2_with fail
    refine (implCellsOf_any _ B _ l h).mono ?_
    rintro e w1 ⟨rs, C, rfl, hC, eC, b1⟩
    rw [ceR_yes hl] at eC
    rw [HL.out]
    obtain ⟨A, cap, rfl, -, hp⟩ := hC.parts
    have HP := Lib.hid hp
    have HV := Lib.hid hC.2
    have HEC := Lib.hid eC
    have hle := ceL_len H12.out
    obtain ⟨n, hn⟩ : ∃ n, n = C.length := ⟨_, rfl⟩
    have hnc : n = (ceL l).length := by rw [hn, ← eC, lls_len]
    rw [← hnc] at hle
    have HN := Lib.hid hn
    have HNC := Lib.hid hnc
    rw [← hn]
    have h1 := FS.below h b1
    obtain ⟨At, capt, rfl, -, -⟩ := TmS.parts h
    clear h hC eC hp hn hnc hl
    go_wp2_with fail
    refine (cellsAtEdges_any w1 B _ l h1 HL.out).mono ?_
    rintro e w2 ⟨b, nn, lo, hi0, rfl, hwb, -, hE, b2⟩
    have HE := Lib.hid hE
    have HT2 := Lib.hid (FS.below h1 b2)
    have HB12 := Lib.hid b2
    have HB2 := Lib.hid (bel2 b1 b2)
    clear hE b1 b2 h1
    go_wp2
    go_loopw [7, 23] (fun o i wr => ∃ (c : Nat) (P : VL), c ≤ n ∧ i = .int .i64 c ∧ Hid (LS wr w2.heap.size o P ∧ lls P = rpA l c) ∧ Below w2.heap.size w2 wr) (fun _ i _ => n - (intOf i).toNat)
    case atStart => exact ⟨0, [], by omega, rfl, Lib.hid ⟨LS.nil_ _ _, by rw [rpA_zero]; rfl⟩, Below.refl _ _⟩
    case round =>
      obtain ⟨c, P, hc, rfl, hst, hb⟩ := hrel
      by_cases hlt : c < n
      · obtain ⟨wO, hwO⟩ : ∃ wO, wO = wr := ⟨_, rfl⟩
        rw [← hwO] at hst hb ⊢
        clear hwO wr
        have hcc : c < C.length := by rw [← HN.out]; exact hlt
        have hcl : c < (ceL l).length := by rw [← HNC.out]; exact hlt
        obtain ⟨gC, rfl, hc0⟩ := HP.out c hcc
        have hb1 := bel2 HB12.out hb
        have hc1 := X3.below.box_old3 hc0 hb1
        have his := (HV.out.at hcc).below hb1
        rw [pll_get HEC.out hcc] at his
        have hxm := ceL_at hcl
        obtain ⟨cv, hcv⟩ : ∃ cv, cv = pvl C c := ⟨_, rfl⟩
        rw [← hcv] at hc1 his
        have HB := Lib.hid hb
        have HST := Lib.hid hst.out
        have HFEW := Lib.hid (enL_few HL.out hxm)
        have HCL := Lib.hid hcl
        clear hc0 hcv hst
        go_wp2_with fail
        refine (endsOfCell_any wO B _ _ _ l _ (FS.below HT2.out hb) his HL.out hxm).mono ?_
        rintro e w3 ⟨r3, E, rfl, hE3, eE, b3⟩
        have HEE := Lib.hid eE
        have hm12 : E.length ≤ 12 := by rw [← List.length_map (f := l5), eE]; exact HFEW.out.1
        obtain ⟨A3, cap3, rfl, -, -⟩ := FS.parts hE3
        have HE3 := Lib.hid hE3
        obtain ⟨m, hm⟩ : ∃ m, m = E.length := ⟨_, rfl⟩
        have HM := Lib.hid hm
        rw [← hm] at hm12 HE3 ⊢
        have hLS3 := HST.out.1.below b3
        obtain ⟨Ao, capo, rfl, -, -⟩ := hLS3.parts
        have HS3 := Lib.hid (And.intro hLS3 (show lls P = rpA l c ++ rpT l c 0 by rw [rpT_zero, List.append_nil]; exact HST.out.2))
        have HB3 := Lib.hid (bel2 hb b3)
        clear hb hb1 his hc1 hE3 eE b3 hm hLS3 hxm HST HB
        go_wp2
        go_loopw [7, 32] (fun o i wr => ∃ (jj : Nat) (Q : VL), jj ≤ m ∧ i = .int .i64 jj ∧ Hid (LS wr w2.heap.size o Q ∧ lls Q = rpA l c ++ rpT l c jj) ∧ Hid (EnS wr wO.heap.size (.slice A3 m cap3) E) ∧ Below w2.heap.size w2 wr) (fun _ i _ => m - (intOf i).toNat)
        case atStart => exact ⟨0, P, by omega, rfl, HS3, HE3, HB3.out⟩
        case round =>
          clear HS3 HE3 HB3
          obtain ⟨jj, Q, hjj, rfl, hst, hen, hb⟩ := hrel
          by_cases hltj : jj < m
          · have hje : jj < E.length := by rw [← HM.out]; exact hltj
            obtain ⟨A', cap', he, -, hp⟩ := FS.parts hen.out
            rw [← HM.out] at he hp
            simp only [Value.slice.injEq] at he
            obtain ⟨rfl, -, rfl⟩ := he
            have hc : ∀ t, t < 5 → ∃ g, A3 = some ⟨g, 0, none⟩ ∧ wr.cell? ⟨g, jj * 5 + t, none⟩ = some (.int .i64 (gd (l5 (ped E jj)) t)) := fun t ht => by
              obtain ⟨g, hg, hc0⟩ := hp (jj * 5 + t) (by omega)
              exact ⟨g, hg, by rw [← flatE_gd hje ht]; exact hc0⟩
            obtain ⟨g, hg, c0⟩ := hc 0 (by omega)
            obtain ⟨g', hg', c1⟩ := hc 1 (by omega)
            rw [hg] at hg'; cases hg'
            obtain ⟨g', hg', c2⟩ := hc 2 (by omega)
            rw [hg] at hg'; cases hg'
            obtain ⟨g', hg', c3⟩ := hc 3 (by omega)
            rw [hg] at hg'; cases hg'
            obtain ⟨g', hg', c4⟩ := hc 4 (by omega)
            rw [hg] at hg'; cases hg'
            subst hg
            have lg : g < wr.heap.size := cell_lt c0
            have hte : (enL l ((ceL l).getD c []))[jj]? = some (l5 (ped E jj)) := by
              rw [← HEE.out, List.getElem?_map, List.getElem?_eq_getElem hje, ped_eq E jj hje]; rfl
            obtain ⟨hjl, hge⟩ := List.getElem?_eq_some_iff.1 hte
            have hmem : l5 (ped E jj) ∈ enL l ((ceL l).getD c []) := by rw [← hge]; exact List.getElem_mem _
            have hnx := rpT_next hjl hge
            obtain ⟨i, k, hi12, hk12, hik⟩ := en_at HL.out HCL.out hmem
            obtain ⟨t, ht⟩ : ∃ t, t = ped E jj := ⟨_, rfl⟩
            rw [← ht] at c0 c1 c2 c3 c4 hnx hik
            obtain ⟨a0, a1, a2, a3, a4⟩ := t
            have hi0 : a0 = (i : Int) := by have := congrArg (fun z => gd z 0) hik; exact this
            have hk0 : a1 = (k : Int) := by have := congrArg (fun z => gd z 1) hik; exact this
            subst hi0
            subst hk0
            have d0 : wr.cell? ⟨g, jj * 5, none⟩ = some (.int .i64 (i : Int)) := c0
            have d1 : wr.cell? ⟨g, jj * 5 + 1, none⟩ = some (.int .i64 (k : Int)) := c1
            have d2 : wr.cell? ⟨g, jj * 5 + 2, none⟩ = some (.int .i64 a2) := c2
            have d3 : wr.cell? ⟨g, jj * 5 + 3, none⟩ = some (.int .i64 a3) := c3
            have d4 : wr.cell? ⟨g, jj * 5 + 4, none⟩ = some (.int .i64 a4) := c4
            have HNX := Lib.hid (show rpT l c (jj + 1) = rpT l c jj ++ if isRy l [(i : Int), (k : Int)] = true then [[(i : Int), (k : Int), (c : Int), a2, a3, a4]] else [] from hnx)
            have hV := E5.new wr (i : Int) (k : Int) a2 a3 a4
            have bV : Below wr.heap.size wr (wr.alloc (.cells #[.int .i64 (i : Int), .int .i64 (k : Int), .int .i64 a2, .int .i64 a3, .int .i64 a4] 50)) := (Below.refl _ _).alloc (Nat.le_refl _) _
            have HEV := Lib.hid hV
            have HBV := Lib.hid bV
            have hlV : wr.heap.size < (wr.alloc (.cells #[.int .i64 (i : Int), .int .i64 (k : Int), .int .i64 a2, .int .i64 a3, .int .i64 a4] 50)).heap.size := by simp
            obtain ⟨⟨v0, v1, v2, v3, v4⟩, -⟩ := hV.cells
            have HB := Lib.hid hb
            have HST := Lib.hid hst.out
            have HEN := Lib.hid hen.out
            clear hc c0 c1 c2 c3 c4 ht hV bV hb hst hen hp hte hge hmem hnx hik hjl
            go_wp2_with fail
            refine (endSide_any _ _ _ _ _ _).mono ?_
            rintro e w5 ⟨rfl, b5⟩
            have hE5 := HEV.out.below b5
            have hb5 := bel2 HBV.out b5
            have hbW := bel2 HB.out hb5
            obtain ⟨vv, hlook, hvv⟩ := ed_get H12.out (HE.out.other (grown_bel (World.grownBy.refl w2 none) hbW) (fun q hq => by cases hq)) (wf_i64 (a := (i : Int)) (by omega)) (wf_i64 (a := (k : Int)) (by omega))
            obtain ⟨Av, capv, rfl, -, -⟩ := hvv.parts
            obtain ⟨nv, hnv⟩ : ∃ nv, nv = (clL l (ceL l).length [(i : Int), (k : Int)]).length := ⟨_, rfl⟩
            have hnv2 : nv ≤ 2 := by rw [hnv]; exact clL_two HL.out _
            rw [← hnv] at hlook
            have HM5 := Lib.hid (show isRy l [(i : Int), (k : Int)] = decide (nv = 1) by rw [hnv]; rfl)
            have HE5 := Lib.hid hE5
            have hLS5 := HST.out.1.below hb5
            obtain ⟨Aq, capq, rfl, -, -⟩ := hLS5.parts
            obtain ⟨nq, hnq⟩ : ∃ nq, nq = Q.length := ⟨_, rfl⟩
            have HNQ := Lib.hid hnq
            have hnq2 : nq ≤ 21000 := by
              have q1 := rpA_len HL.out c (Nat.le_of_lt HCL.out)
              have q2 := rpT_len HL.out HCL.out jj
              rw [hnq, ← lls_len, HST.out.2, List.length_append]; omega
            have HS5 := Lib.hid (And.intro hLS5 HST.out.2)
            rw [← hnq]
            have HEN5 := Lib.hid (FS.below HEN.out hb5)
            have HBW := Lib.hid hbW
            clear b5 hvv hnv hE5 hb5 hbW hLS5 hnq HST HEN HEV HBV HB v0 v1 v2 v3 v4 d0 d1 d2 d3 d4 hlV
            by_cases h1 : nv = 1
            · subst h1
              have hry : isRy l [(i : Int), (k : Int)] = true := HM5.out
              have HZ := Lib.hid (show rpA l c ++ rpT l c (jj + 1) = (rpA l c ++ rpT l c jj) ++ [[(i : Int), (k : Int), (c : Int), a2, a3, a4]] by rw [HNX.out, hry, if_pos rfl, List.append_assoc])
              clear hry HM5 HNX
              go_upto_region 13 with fail
              obtain ⟨j0, hj0, hy0, hy1, hy2⟩ := info_parts infoSl
              refine wp_region_inv (by kernel_rfl) (fun L a' w' => ∃ s7 s42 s43 s44 s45 s46 s47 s48 s49 s50, a' = actRr (Value.slice At l.length capt) undef (Value.slice none 0 0) (Value.bool false) (Value.slice (some ⟨gC, 0, none⟩) n cap) (Value.bool true) (Value.map (some b)) (Value.int IntKind.i64 ↑c) cv undef (Value.pointer (some ⟨wr.heap.size, 0, none⟩)) (Value.tuple #[Value.slice (some ⟨gC, 0, none⟩) n cap, Value.bool true]) (Value.slice At l.length capt) (Value.tuple #[Value.slice (some ⟨gC, 0, none⟩) n cap, Value.bool true]) (Value.slice (some ⟨gC, 0, none⟩) n cap) (Value.bool true) (Value.bool true) (Value.bool false) (Value.slice At l.length capt) (Value.map (some b)) (Value.slice (some ⟨gC, 0, none⟩) n cap) (Value.int IntKind.i64 ↑n) (Value.int IntKind.i64 ↑c) (Value.bool true) (Value.int IntKind.i64 ↑c) (Value.pointer (some ⟨gC, c, none⟩)) cv (Value.slice At l.length capt) cv (Value.slice (some ⟨g, 0, none⟩) m cap3) (Value.int IntKind.i64 ↑m) (Value.int IntKind.i64 ↑jj) (Value.bool true) (Value.pointer (some ⟨g, jj * 5, none⟩)) (Value.agg #[Value.int IntKind.i64 (i : Int), Value.int IntKind.i64 (k : Int), Value.int IntKind.i64 a2, Value.int IntKind.i64 a3, Value.int IntKind.i64 a4]) (Value.map (some b)) (Value.agg #[Value.int IntKind.i64 (i : Int), Value.int IntKind.i64 (k : Int), Value.int IntKind.i64 a2, Value.int IntKind.i64 a3, Value.int IntKind.i64 a4]) (Value.agg #[Value.int IntKind.i64 (i : Int), Value.int IntKind.i64 (k : Int)]) (Value.slice Av 1 capv) (Value.int IntKind.i64 1) (Value.bool true) u51 u52 undef undef undef s7 s42 s43 s44 s45 s46 s47 s48 s49 s50 ∧ IvRr w5 w2 (rpA l c ++ rpT l c (jj + 1)) wO.heap.size (.slice (some ⟨g, 0, none⟩) m cap3) E Aq nq capq wr.heap.size w5.heap.size c i k a2 a3 a4 L s7 s42 s43 s44 s45 s46 s47 s48 s49 s50 w') ?_ ?_ ?_
              · exact ⟨_, _, _, _, _, _, _, _, _, _, rfl, IvRr.start w5 w2 (rpA l c ++ rpT l c (jj + 1)) wO.heap.size (.slice (some ⟨g, 0, none⟩) m cap3) E Aq nq capq wr.heap.size w5.heap.size c i k a2 a3 a4 _ _ _ _ _ _ _ _ _ ⟩
              · rintro L a' w' i ⟨s7, s42, s43, s44, s45, s46, s47, s48, s49, s50, rfl, H⟩ hi
                obtain ⟨hL, o, ho, haf⟩ := mem_ready.1 hi
                have hiN : i < 10 := (Array.getElem?_eq_some_iff.1 ho).1
                clear hi
                have hcs : i = 0 ∨ i = 1 ∨ i = 2 ∨ i = 3 ∨ i = 4 ∨ i = 5 ∨ i = 6 ∨ i = 7 ∨ i = 8 ∨ i = 9 := by omega
                rcases hcs with rfl | rfl | rfl | rfl | rfl | rfl | rfl | rfl | rfl | rfl
                · cases ho
                  have n8 : L.getD 8 false = false := by
                    cases hx : L.getD 8 false
                    · rfl
                    · exact (notl hL (H.g8 hx 0 (by decide))).elim
                  have n9 : L.getD 9 false = false := by
                    cases hx : L.getD 9 false
                    · rfl
                    · exact (notl hL (H.g9 hx 0 (by decide))).elim
                  have hbel := H.bel n8
                  have ei7 := H.i7 n9
                  subst ei7
                  refine wpOp_step rfl fun K' hK => ?_
                  rw [if_pos (by rfl)]
                  go_simp
                  exact hK _ _ ⟨_, _, _, _, _, _, _, _, _, _, rfl, H.o0 hL⟩
                · cases ho
                  have n8 : L.getD 8 false = false := by
                    cases hx : L.getD 8 false
                    · rfl
                    · exact (notl hL (H.g8 hx 1 (by decide))).elim
                  have hbel := H.bel n8
                  refine wpOp_step rfl fun K' hK => ?_
                  rw [if_pos (by rfl)]
                  go_simp
                  exact hK _ _ ⟨_, _, _, _, _, _, _, _, _, _, rfl, H.o1 hL⟩
                · cases ho
                  have n8 : L.getD 8 false = false := by
                    cases hx : L.getD 8 false
                    · rfl
                    · exact (notl hL (H.g8 hx 2 (by decide))).elim
                  have hbel := H.bel n8
                  refine wpOp_step rfl fun K' hK => ?_
                  rw [if_pos (by rfl)]
                  go_simp
                  exact hK _ _ ⟨_, _, _, _, _, _, _, _, _, _, rfl, H.o2 hL⟩
                · cases ho
                  have hall : ∀ j, j ∈ [2] → L.getD j false = true := by
                    intro j hj
                    simp only [List.mem_cons, List.not_mem_nil, or_false] at hj
                    subst hj
                    · exact (haf_of haf 2 (by kernel_rfl))
                  have n8 : L.getD 8 false = false := by
                    cases hx : L.getD 8 false
                    · rfl
                    · exact (notl hL (H.g8 hx 3 (by decide))).elim
                  have hbel := H.bel n8
                  have e2 := H.c2 (haf_of haf 2 (by kernel_rfl))
                  subst e2
                  have hg : Below w'.heap.size w' (w'.alloc (.cells #[.int .i64 (c : Int)] 3)) := (Below.refl _ _).alloc (Nat.le_refl _) _
                  have hR : RqO c (w'.alloc (.cells #[.int .i64 (c : Int)] 3)) (.slice (some ⟨w'.heap.size, 0, none⟩) 1 1) := ⟨_, rfl, one_at w' _ _ rfl⟩
                  refine wpOp_step rfl fun K' hK => ?_
                  rw [if_pos (by rfl)]
                  go_simp
                  exact hK _ _ ⟨_, _, _, _, _, _, _, _, _, _, rfl, H.o3 hL hall hg hR⟩
                · cases ho
                  have n8 : L.getD 8 false = false := by
                    cases hx : L.getD 8 false
                    · rfl
                    · exact (notl hL (H.g8 hx 4 (by decide))).elim
                  have hbel := H.bel n8
                  refine wpOp_step rfl fun K' hK => ?_
                  rw [if_pos (by rfl)]
                  go_simp
                  exact hK _ _ ⟨_, _, _, _, _, _, _, _, _, _, rfl, H.o4 hL⟩
                · cases ho
                  have hall : ∀ j, j ∈ [1, 2, 3, 4] → L.getD j false = true := by
                    intro j hj
                    simp only [List.mem_cons, List.not_mem_nil, or_false] at hj
                    rcases hj with rfl | rfl | rfl | rfl
                    · exact (haf_of haf 1 (by kernel_rfl))
                    · exact H.g3 (haf_of haf 3 (by kernel_rfl)) 2 (by decide)
                    · exact (haf_of haf 3 (by kernel_rfl))
                    · exact (haf_of haf 4 (by kernel_rfl))
                  have n8 : L.getD 8 false = false := by
                    cases hx : L.getD 8 false
                    · rfl
                    · exact (notl hL (H.g8 hx 5 (by decide))).elim
                  have hbel := H.bel n8
                  have e1 := H.c1 (haf_of haf 1 (by kernel_rfl))
                  subst e1
                  have e4 := H.c4 (haf_of haf 4 (by kernel_rfl))
                  subst e4
                  have x3 := H.c3 (haf_of haf 3 (by kernel_rfl)) n8
                  obtain ⟨g6, e6, hc6⟩ := x3
                  subst e6
                  have hg : Below w'.heap.size w' (w'.alloc (.cells #[.slice (some ⟨wr.heap.size, 0, none⟩) 2 5, .slice (some ⟨g6, 0, none⟩) 1 1, .slice (some ⟨wr.heap.size, 2, none⟩) 3 3] 36)) := (Below.refl _ _).alloc (Nat.le_refl _) _
                  have hR : RqT wr.heap.size c (w'.alloc (.cells #[.slice (some ⟨wr.heap.size, 0, none⟩) 2 5, .slice (some ⟨g6, 0, none⟩) 1 1, .slice (some ⟨wr.heap.size, 2, none⟩) 3 3] 36)) (.slice (some ⟨w'.heap.size, 0, none⟩) 3 3) := ⟨w'.heap.size, g6, rfl, ⟨cell_of_row _ w'.heap.size 0 #[.slice (some ⟨wr.heap.size, 0, none⟩) 2 5, .slice (some ⟨g6, 0, none⟩) 1 1, .slice (some ⟨wr.heap.size, 2, none⟩) 3 3] 36 (0, 0) (heap_alloc_new w' _), cell_of_row _ w'.heap.size 1 #[.slice (some ⟨wr.heap.size, 0, none⟩) 2 5, .slice (some ⟨g6, 0, none⟩) 1 1, .slice (some ⟨wr.heap.size, 2, none⟩) 3 3] 36 (0, 0) (heap_alloc_new w' _), cell_of_row _ w'.heap.size 2 #[.slice (some ⟨wr.heap.size, 0, none⟩) 2 5, .slice (some ⟨g6, 0, none⟩) 1 1, .slice (some ⟨wr.heap.size, 2, none⟩) 3 3] 36 (0, 0) (heap_alloc_new w' _)⟩, X3.below.box_old3 hc6 hg⟩
                  refine wpOp_step rfl fun K' hK => ?_
                  rw [if_pos (by rfl)]
                  go_simp
                  exact hK _ _ ⟨_, _, _, _, _, _, _, _, _, _, rfl, H.o5 hL hall hg hR⟩
                · cases ho
                  have hall : ∀ j, j ∈ [1, 2, 3, 4, 5] → L.getD j false = true := by
                    intro j hj
                    simp only [List.mem_cons, List.not_mem_nil, or_false] at hj
                    rcases hj with rfl | rfl | rfl | rfl | rfl
                    · exact H.g5 (haf_of haf 5 (by kernel_rfl)) 1 (by decide)
                    · exact H.g5 (haf_of haf 5 (by kernel_rfl)) 2 (by decide)
                    · exact H.g5 (haf_of haf 5 (by kernel_rfl)) 3 (by decide)
                    · exact H.g5 (haf_of haf 5 (by kernel_rfl)) 4 (by decide)
                    · exact (haf_of haf 5 (by kernel_rfl))
                  have n8 : L.getD 8 false = false := by
                    cases hx : L.getD 8 false
                    · rfl
                    · exact (notl hL (H.g8 hx 6 (by decide))).elim
                  have hbel := H.bel n8
                  have x5 := H.c5 (haf_of haf 5 (by kernel_rfl)) n8
                  obtain ⟨G, g6, e5, ⟨q0, q1, q2⟩, q3⟩ := x5
                  subst e5
                  obtain ⟨⟨v0, v1, v2, v3, v4⟩, -⟩ := (HE5.out.below hbel).cells
                  have hcat := concatR_any w' G 3 [((.slice (some ⟨wr.heap.size, 0, none⟩) 2 5 : Value), [(i : Int), (k : Int)]), (.slice (some ⟨g6, 0, none⟩) 1 1, [(c : Int)]), (.slice (some ⟨wr.heap.size, 2, none⟩) 3 3, [a2, a3, a4])] (fun q hq => by
                    have hq' : q = 0 ∨ q = 1 ∨ q = 2 := by simp at hq; omega
                    rcases hq' with rfl | rfl | rfl
                    · exact q0
                    · exact q1
                    · exact q2) (fun q hq => by
                    have hq' : q = 0 ∨ q = 1 ∨ q = 2 := by simp at hq; omega
                    rcases hq' with rfl | rfl | rfl
                    · exact rd_ints (o := 0) (zs := [(i : Int), (k : Int)]) rfl (fun j hj => by
                        have hj' : j = 0 ∨ j = 1 := by simp at hj; omega
                        rcases hj' with rfl | rfl
                        · exact v0
                        · exact v1)
                    · exact rd_ints (o := 0) (zs := [(c : Int)]) rfl (fun j hj => by
                        have hj' : j = 0 := by simp at hj; omega
                        subst hj'
                        exact q3)
                    · exact rd_ints (o := 2) (zs := [a2, a3, a4]) rfl (fun j hj => by
                        have hj' : j = 0 ∨ j = 1 ∨ j = 2 := by simp at hj; omega
                        rcases hj' with rfl | rfl | rfl
                        · exact v2
                        · exact v3
                        · exact v4)) (by simp) (fun q hq => by
                    have hq' : q = 0 ∨ q = 1 ∨ q = 2 := by simp at hq; omega
                    rcases hq' with rfl | rfl | rfl
                    · exact Nat.le_trans (show 2 ≤ 3 by omega) (by omega)
                    · exact Nat.le_trans (show 1 ≤ 3 by omega) (by omega)
                    · exact Nat.le_trans (show 3 ≤ 3 by omega) (by omega))
                  refine wpOp_step rfl fun K' hK => ?_
                  rw [if_pos (by rfl)]
                  go_simp
                  refine (hcat).mono ?_
                  rintro e w1 ⟨r, rfl, hr, hg⟩
                  have hR : RqI w5.heap.size [(i : Int), (k : Int), (c : Int), a2, a3, a4] w1 r := by
                    have e : flC [((.slice (some ⟨wr.heap.size, 0, none⟩) 2 5 : Value), [(i : Int), (k : Int)]), (.slice (some ⟨g6, 0, none⟩) 1 1, [(c : Int)]), (.slice (some ⟨wr.heap.size, 2, none⟩) 3 3, [a2, a3, a4])] 3 = [(i : Int), (k : Int), (c : Int), a2, a3, a4] := by simp [flC, lls]
                    have hr' : IS w1 w'.heap.size r (flC [((.slice (some ⟨wr.heap.size, 0, none⟩) 2 5 : Value), [(i : Int), (k : Int)]), (.slice (some ⟨g6, 0, none⟩) 1 1, [(c : Int)]), (.slice (some ⟨wr.heap.size, 2, none⟩) 3 3, [a2, a3, a4])] 3) := hr
                    rw [e] at hr'
                    exact hr'.base hbel.size
                  exact hK _ _ ⟨_, _, _, _, _, _, _, _, _, _, rfl, H.o6 hL hall hg hR⟩
                · cases ho
                  have hall : ∀ j, j ∈ [1, 2, 3, 4, 5, 6] → L.getD j false = true := by
                    intro j hj
                    simp only [List.mem_cons, List.not_mem_nil, or_false] at hj
                    rcases hj with rfl | rfl | rfl | rfl | rfl | rfl
                    · exact H.g6 (haf_of haf 6 (by kernel_rfl)) 1 (by decide)
                    · exact H.g6 (haf_of haf 6 (by kernel_rfl)) 2 (by decide)
                    · exact H.g6 (haf_of haf 6 (by kernel_rfl)) 3 (by decide)
                    · exact H.g6 (haf_of haf 6 (by kernel_rfl)) 4 (by decide)
                    · exact H.g6 (haf_of haf 6 (by kernel_rfl)) 5 (by decide)
                    · exact (haf_of haf 6 (by kernel_rfl))
                  have n8 : L.getD 8 false = false := by
                    cases hx : L.getD 8 false
                    · rfl
                    · exact (notl hL (H.g8 hx 7 (by decide))).elim
                  have hbel := H.bel n8
                  have x6 := H.c6 (haf_of haf 6 (by kernel_rfl)) n8
                  obtain ⟨A5, cap5, e5, -, -⟩ := (show IS w' w5.heap.size s48 [(i : Int), (k : Int), (c : Int), a2, a3, a4] from x6).parts
                  rw [show [(i : Int), (k : Int), (c : Int), a2, a3, a4].length = 6 from rfl] at e5
                  subst e5
                  have hg : Below w'.heap.size w' (w'.alloc (.cells #[.slice A5 6 cap5] 36)) := (Below.refl _ _).alloc (Nat.le_refl _) _
                  have hR : RqS w5.heap.size [(i : Int), (k : Int), (c : Int), a2, a3, a4] (w'.alloc (.cells #[.slice A5 6 cap5] 36)) (.slice (some ⟨w'.heap.size, 0, none⟩) 1 1) := ⟨_, _, rfl, litS_new w' _, IS.below x6 hg⟩
                  refine wpOp_step rfl fun K' hK => ?_
                  rw [if_pos (by rfl)]
                  go_simp
                  exact hK _ _ ⟨_, _, _, _, _, _, _, _, _, _, rfl, H.o7 hL hall hg hR⟩
                · cases ho
                  have hall : ∀ j, j ∈ [0, 1, 2, 3, 4, 5, 6, 7] → L.getD j false = true := by
                    intro j hj
                    simp only [List.mem_cons, List.not_mem_nil, or_false] at hj
                    rcases hj with rfl | rfl | rfl | rfl | rfl | rfl | rfl | rfl
                    · exact (haf_of haf 0 (by kernel_rfl))
                    · exact H.g7 (haf_of haf 7 (by kernel_rfl)) 1 (by decide)
                    · exact H.g7 (haf_of haf 7 (by kernel_rfl)) 2 (by decide)
                    · exact H.g7 (haf_of haf 7 (by kernel_rfl)) 3 (by decide)
                    · exact H.g7 (haf_of haf 7 (by kernel_rfl)) 4 (by decide)
                    · exact H.g7 (haf_of haf 7 (by kernel_rfl)) 5 (by decide)
                    · exact (haf_of haf 6 (by kernel_rfl))
                    · exact (haf_of haf 7 (by kernel_rfl))
                  have n8 : L.getD 8 false = false := nl5 hL
                  have hbel := H.bel n8
                  have e0 := H.c0 (haf_of haf 0 (by kernel_rfl))
                  subst e0
                  have x7 := H.c7 (haf_of haf 7 (by kernel_rfl)) n8
                  obtain ⟨g9, z9, e9, hc9, hz9⟩ := x7
                  subst e9
                  have hLS6 := HS5.out.1.below hbel
                  have hrow6 := hLS6.1
                  rw [← HNQ.out] at hrow6
                  refine wpOp_step rfl fun K' hK => ?_
                  refine step_append_own (by rfl) (.tmp 42) (.tmp 49) 24 (by rfl) w2.heap.size 36 j0 (.slice none 0 0) 1 24 Tryz.underlying24 hj0 hy0 hy1 hy2 rfl (by decide) _ nq _ (by rfl) hrow6 ⟨g9, 0, none⟩ 1 1 [z9] (by rfl) rfl (oneS_news hc9) (by simp [IS.one hz9]) (by unfold maxLen; omega) (by omega) (Nat.le_trans HBW.out.size hbel.size) ?_
                  intro v8 w8 hown8 hgrow8 hnil8
                  have hLS7 := ls_push HS5.out.1 hbel HBW.out.size hz9 (by rw [← HNQ.out]; exact hown8) (by rw [← HNQ.out]; exact hgrow8)
                  have hb7 : Below w2.heap.size w2 w8 := (bel2 HBW.out hbel).grown hgrow8 (bel2 HBW.out hbel).size (fun q hq => (World.ownsRow.lt HS5.out.1.1 q (by rw [← HNQ.out]; exact hq)).1)
                  have hen7 : EnS w8 wO.heap.size (.slice (some ⟨g, 0, none⟩) m cap3) E := FS.other (FS.below HEN5.out hbel) hgrow8 (en_other (FS.below HEN5.out hbel) hrow6)
                  have hR : RqB w2 (rpA l c ++ rpT l c (jj + 1)) wO.heap.size (.slice (some ⟨g, 0, none⟩) m cap3) E w8 v8 := ⟨_, hLS7, by rw [HZ.out, ← HS5.out.2]; simp [lls], hb7, hen7⟩
                  exact hK _ _ ⟨_, _, _, _, _, _, _, _, _, _, rfl, H.o8 hL hall hR⟩
                · cases ho
                  have hall : ∀ j, j ∈ [0, 1, 2, 3, 4, 5, 6, 7, 8] → L.getD j false = true := by
                    intro j hj
                    simp only [List.mem_cons, List.not_mem_nil, or_false] at hj
                    rcases hj with rfl | rfl | rfl | rfl | rfl | rfl | rfl | rfl | rfl
                    · exact (haf_of haf 0 (by kernel_rfl))
                    · exact (haf_of haf 1 (by kernel_rfl))
                    · exact (haf_of haf 2 (by kernel_rfl))
                    · exact (haf_of haf 3 (by kernel_rfl))
                    · exact (haf_of haf 4 (by kernel_rfl))
                    · exact (haf_of haf 5 (by kernel_rfl))
                    · exact (haf_of haf 6 (by kernel_rfl))
                    · exact (haf_of haf 7 (by kernel_rfl))
                    · exact (haf_of haf 8 (by kernel_rfl))
                  have x8 := H.c8 (haf_of haf 8 (by kernel_rfl))
                  have hR := x8
                  refine wpOp_step rfl fun K' hK => ?_
                  rw [if_pos (by rfl)]
                  go_simp
                  exact hK _ _ ⟨_, _, _, _, _, _, _, _, _, _, rfl, H.o9 hL hall hR⟩
              · rintro L9 a9 w9 ⟨s7, s42, s43, s44, s45, s46, s47, s48, s49, s50, rfl, H⟩ hr
                have hall := ready_nil H.z (by kernel_rfl) hr
                obtain ⟨P7, hLS7, hP7, hb7, hen7⟩ := H.c9 (hall 9 (by decide))
                clear H hall hr
                have HS7 := Lib.hid (And.intro hLS7 hP7)
                have HEN7 := Lib.hid hen7
                clear hLS7 hP7 hen7
                go_wp2
                go_roundw
                case rel => exact ⟨jj + 1, P7, by omega, by go_num, HS7, HEN7, hb7⟩
                case measure => simp [intOf]; omega
            · have hry : isRy l [(i : Int), (k : Int)] = false := by rw [HM5.out]; exact decide_eq_false h1
              have hL7 : lls Q = rpA l c ++ rpT l c (jj + 1) := by rw [HNX.out, hry, if_neg (by simp), List.append_nil]; exact HS5.out.2
              have HS7 := Lib.hid (And.intro HS5.out.1 hL7)
              rw [← HNQ.out] at HS7
              go_wp2
              go_roundw
              case rel => exact ⟨jj + 1, Q, by omega, by go_num, HS7, HEN5, HBW.out⟩
              case measure => simp [intOf]; omega
          · obtain rfl : jj = m := by omega
            have hL7 : lls Q = rpA l (c + 1) := by rw [hst.out.2, rpA_next, rpT_end (by rw [← HEE.out, List.length_map, ← HM.out]; exact Nat.le_refl _)]
            have HS7 := Lib.hid (And.intro hst.out.1 hL7)
            clear hst
            go_wp2
            go_roundw
            case rel => exact ⟨c + 1, Q, by omega, by go_num, HS7, hb⟩
            case measure => simp [intOf]; omega
      · obtain rfl : c = n := by omega
        have hlz : P.length ≤ 1000000 := by
          have q1 := rpA_len HL.out c (by rw [← HNC.out]; exact Nat.le_refl _)
          rw [← lls_len, hst.out.2]; omega
        go_wp2_with fail
        refine (sortFuncSl_any wr w2.heap.size _ P hst.out.1 hlz).mono ?_
        rintro e w7 ⟨rfl, hgr, P', hLS7, hperm, hpair⟩
        have HS7 := Lib.hid hLS7
        have HY := Lib.hid (rp_sorted HL.out (by rw [hst.out.2, HNC.out]) hperm hpair)
        have HB7 := Lib.hid ((bel2 HB2.out hb).grown hgr (bel2 HB2.out hb).size (fun q hq => by have := (World.ownsRow.lt hst.out.1.1 q hq).1; have := HB2.out.size; omega))
        clear hst hgr hLS7 hperm hpair
        go_wp2
        go_ret2
        exact givesLB_yes rfl (HS7.out.base HB2.out.size) (by rw [HY.out, ryR_yes HL.out]) HB7.out
end Go.Proofs.YtcfplfjllnojoaaGreat

/-
  Points as values and in rows; their tests, orders and turns in the program and in the model: what each call returns.
  Conditions: coordinates of turns are small.
-/
import Derived.Test.YtamejfeaniokfaaHullN
import Derived.Test.YtamejfeaniokfaaPt
import Derived.Test.YtamejfeaniokfaaCmp
import Derived.StillTailTactics
import Derived.Laws.StructEq
import Derived.Deep.RegionHeld3
import Derived.Deep.DeepCutAuto
namespace Go.Proofs.Ytamejfeaniokfaa
set_option linter.unusedSimpArgs false
set_option linter.unusedVariables false
open Go.ChangeShapes Go.WideShapes Go.ChangeAt Go.RowKit
open Go.Sort (grow)

theorem mul_bd {a b : Int} (M N : Nat) (ha : -(M : Int) ≤ a ∧ a ≤ M) (hb : -(N : Int) ≤ b ∧ b ≤ N) : -((M * N : Nat) : Int) ≤ a * b ∧ a * b ≤ ((M * N : Nat) : Int) := by
  have h1 : (a * b).natAbs = a.natAbs * b.natAbs := Int.natAbs_mul a b
  have h2 : a.natAbs * b.natAbs ≤ M * N := Nat.mul_le_mul (by omega) (by omega)
  rw [← h1] at h2
  omega
/-- A point whose coordinates are small. -/
def Sm (k : Nat) (p : Pt) : Prop := -(k : Int) ≤ p.1 ∧ p.1 ≤ k ∧ -(k : Int) ≤ p.2 ∧ p.2 ≤ k
theorem Sm.of {p : Pt} (h : ptG p = true) : Sm 100 p := by have := (ptG_iff p).1 h; unfold Sm; omega
theorem Sm.mono {k m : Nat} {p : Pt} (h : Sm k p) (hk : k ≤ m) : Sm m p := by unfold Sm at *; omega
theorem Sm.df {k : Nat} {a b : Pt} (ha : Sm k a) (hb : Sm k b) : Sm (2 * k) (dfP a b) := by unfold Sm dfP at *; simp only; omega
theorem Sm.ad {k : Nat} {a b : Pt} (ha : Sm k a) (hb : Sm k b) : Sm (2 * k) (adP a b) := by unfold Sm adP at *; simp only; omega
theorem trn_df (a b c : Pt) : trn a b c = crP (dfP a b) (dfP b c) := by unfold trn crP dfP; grind
theorem crP_bd {k m : Nat} {u v : Pt} (hu : Sm k u) (hv : Sm m v) : (-((k * m : Nat) : Int) ≤ u.1 * v.2 ∧ u.1 * v.2 ≤ ((k * m : Nat) : Int)) ∧ (-((k * m : Nat) : Int) ≤ u.2 * v.1 ∧ u.2 * v.1 ≤ ((k * m : Nat) : Int)) := by
  unfold Sm at *
  exact ⟨mul_bd k m (by omega) (by omega), mul_bd k m (by omega) (by omega)⟩
/-- A point's two cells in a row, from place i on. -/
abbrev X2 (w : World) (g i : Nat) (t : Pt) : Prop := w.cell? ⟨g, i, none⟩ = some (.int .i64 t.1) ∧ w.cell? ⟨g, i + 1, none⟩ = some (.int .i64 t.2)
/-- A point's block. -/
abbrev P2 (w : World) (g : Nat) (t : Pt) : Prop := w.cell? ⟨g, 0, none⟩ = some (.int .i64 t.1) ∧ w.cell? ⟨g, 1, none⟩ = some (.int .i64 t.2)
theorem X2.below {w w' : World} {g i : Nat} {t : Pt} (h : X2 w g i t) (hb : Below w.heap.size w w') : X2 w' g i t := ⟨box_o h.1 hb, box_o h.2 hb⟩
theorem P2.below {w w' : World} {g : Nat} {t : Pt} (h : P2 w g t) (hb : Below w.heap.size w w') : P2 w' g t := X2.below (i := 0) h hb
theorem X2.grown {w : World} {g i : Nat} {t : Pt} (h : X2 w g i t) : (∀ n os, (grow (w.drewN n) os).cell? ⟨g, i, none⟩ = some (.int .i64 t.1)) ∧ (∀ n os, (grow (w.drewN n) os).cell? ⟨g, i + 1, none⟩ = some (.int .i64 t.2)) :=
  ⟨cell_grown (cell_lt h.1) h.1, cell_grown (cell_lt h.2) h.2⟩
theorem P2.grown {w : World} {g : Nat} {t : Pt} (h : P2 w g t) : (∀ n os, (grow (w.drewN n) os).cell? ⟨g, 0, none⟩ = some (.int .i64 t.1)) ∧ (∀ n os, (grow (w.drewN n) os).cell? ⟨g, 1, none⟩ = some (.int .i64 t.2)) := X2.grown (i := 0) h
theorem P2.new (w : World) (t : Pt) (T : TypeId) : P2 (w.alloc (.cells #[.int .i64 t.1, .int .i64 t.2] T)) w.heap.size t := by
  refine ⟨?_, ?_⟩ <;> simp [go_sem]
theorem P2.alloc {w : World} {g : Nat} {t : Pt} (h : P2 w g t) (o : Obj) : P2 (w.alloc o) g t := h.below ((Below.refl _ _).alloc (Nat.le_refl _) o)
/-- Two and three points' blocks. -/
abbrev P4 (w : World) (g h : Nat) (s t : Pt) : Prop := w.cell? ⟨g, 0, none⟩ = some (.int .i64 s.1) ∧ w.cell? ⟨g, 1, none⟩ = some (.int .i64 s.2) ∧ w.cell? ⟨h, 0, none⟩ = some (.int .i64 t.1) ∧ w.cell? ⟨h, 1, none⟩ = some (.int .i64 t.2)
theorem P4.of {w : World} {g h : Nat} {s t : Pt} (a : P2 w g s) (b : P2 w h t) : P4 w g h s t := ⟨a.1, a.2, b.1, b.2⟩
theorem P4.below {w w' : World} {g h : Nat} {s t : Pt} (a : P4 w g h s t) (hb : Below w.heap.size w w') : P4 w' g h s t := P4.of (P2.below ⟨a.1, a.2.1⟩ hb) (P2.below ⟨a.2.2.1, a.2.2.2⟩ hb)
theorem P4.drew {w : World} {g h : Nat} {s t : Pt} (a : P4 w g h s t) : P4 w.drew g h s t := a
theorem P4.drewN {w : World} {g h : Nat} {s t : Pt} (a : P4 w g h s t) (n : Nat) : P4 (w.drewN n) g h s t := a
theorem P4.alloc {w : World} {g h : Nat} {s t : Pt} (a : P4 w g h s t) (o : Obj) : P4 (w.alloc o) g h s t := a.below ((Below.refl _ _).alloc (Nat.le_refl _) o)
theorem P4.new (w : World) (s t : Pt) (T U : TypeId) : P4 ((w.alloc (.cells #[.int .i64 s.1, .int .i64 s.2] T)).alloc (.cells #[.int .i64 t.1, .int .i64 t.2] U)) w.heap.size (w.heap.size + 1) s t := by
  refine P4.of ((P2.new w s T).alloc _) ?_
  have := P2.new (w.alloc (.cells #[.int .i64 s.1, .int .i64 s.2] T)) t U
  rwa [World.size_alloc] at this
theorem PtS.parts {w : World} {B : Nat} {v : Value} {l : List Pt} (h : PtS w B v l) : ∃ A cap, v = .slice A l.length cap ∧ l.length ≤ maxLen ∧ ∀ k, k < l.length → ∃ g, A = some ⟨g, 0, none⟩ ∧ X2 w g (k * 2) (pd l k) := by
  obtain ⟨A, cap, rfl, hm, hp⟩ := FS.parts h
  refine ⟨A, cap, rfl, hm, fun k hk => ?_⟩
  obtain ⟨g, rfl, c0⟩ := hp (k * 2) (by omega)
  obtain ⟨g', hg, c1⟩ := hp (k * 2 + 1) (by omega)
  cases hg
  obtain ⟨e0, e1⟩ := flatP_gd hk
  rw [e0] at c0
  rw [e1] at c1
  exact ⟨g, rfl, c0, c1⟩
theorem P2.load {w : World} {g : Nat} {t : Pt} (h : P2 w g t) : (loadVar 35 ⟨g, 0, none⟩).run Try.prog w = .ok (ptV t) w := by
  obtain ⟨h1, h2⟩ := h
  simp [loadVar, go_sem, h1, h2]
theorem P2.result {w : World} {g : Nat} {t : Pt} (h : P2 w g t) {fn : Func} {p : Tmp} {ts : Array Value} (hr : fn.results = #[.cell p 35]) (hp : ts.getD p undef = .pointer (some ⟨g, 0, none⟩)) : (Go.results fn ts).run Try.prog w = Result.ok (ptV t) w := by
  have hp' : ts[p]?.getD undef = .pointer (some ⟨g, 0, none⟩) := by simpa using hp
  have ha : (asAddr (Value.pointer (some ⟨g, 0, none⟩))).run Try.prog w = .ok ⟨g, 0, none⟩ w := rfl
  simp only [Go.results, hr]
  simp [Sem.run_bind, Result.andThen, hp', ha, h.load]
/-- Two stores into a block: it holds the new point. -/
theorem P2.stores {w : World} {g : Nat} {s : Pt} (h : P2 w g s) (t : Pt) : P2 ((w.setCell ⟨g, 0, none⟩ (.int .i64 t.1)).setCell ⟨g, 1, none⟩ (.int .i64 t.2)) g t := by
  obtain ⟨h1, h2⟩ := h
  have a1 := World.cell?_setCell_same w ⟨g, 0, none⟩ (.int .i64 t.1) h1
  have a2 : (w.setCell ⟨g, 0, none⟩ (.int .i64 t.1)).cell? ⟨g, 1, none⟩ = some (.int .i64 s.2) := (World.cell?_setCell_other _ _ _ _ (by simp)).trans h2
  exact ⟨(World.cell?_setCell_other _ _ _ _ (by simp)).trans a1, World.cell?_setCell_same _ _ _ a2⟩
theorem eqPt : ∀ (s t : Pt) (w : World), Sem.run Try.prog (binOp .eql 35 (ptV s) (ptV t)) w = .ok (.bool (s.1 == t.1 && s.2 == t.2)) w := by
  intro x y w
  have u3 := Try.underlying3
  have a3 := Try.isAgg3
  have z3 := Try.sizeOf3
  have hS : Try.prog.underlying 35 = some (.struct (Try.prog.fieldsOf 35)) := by kernel_rfl
  have hp : Try.prog.stoodInHeld 35 = false := by kernel_rfl
  rw [run_eql_struct, show (10000 : Nat) = 9999 + 1 from rfl, run_equalIn_agg w 9999 35 _ _ hS hp]
  simp only [Program.fieldsOf, Try.underlying35]
  go_simp
  by_cases h1 : x.1 = y.1 <;> by_cases h2 : x.2 = y.2 <;> simp [h1, h2]
theorem implIsPoint_any (p : Pt) (w : World) : Calls Try.prog 37 #[ptV p] w fun e w' => e = .returned (.bool (ptG p)) ∧ Gr w w' := by
  obtain ⟨a, b⟩ := p
  by_cases h1 : -100 ≤ a
  · by_cases h2 : a ≤ 100
    · by_cases h3 : -100 ≤ b
      · by_cases h4 : b ≤ 100
        · go_enter Try.func37, Try.ntmps37
          go_wp2
          go_ret
          exact ⟨ret_bool (by simp [ptG, h1, h2, h3, h4]), gr1 _ _⟩
        · go_enter Try.func37, Try.ntmps37
          go_wp2
          go_ret
          exact ⟨ret_bool (by simp [ptG, h1, h2, h3, h4]), gr1 _ _⟩
      · go_enter Try.func37, Try.ntmps37
        go_wp2
        go_ret
        exact ⟨ret_bool (by symm; rw [← Bool.not_eq_true]; intro h; have := (ptG_iff _).1 h; simp at this; omega), gr1 _ _⟩
    · go_enter Try.func37, Try.ntmps37
      go_wp2
      go_ret
      exact ⟨ret_bool (by symm; rw [← Bool.not_eq_true]; intro h; have := (ptG_iff _).1 h; simp at this; omega), gr1 _ _⟩
  · go_enter Try.func37, Try.ntmps37
    go_wp2
    go_ret
    exact ⟨ret_bool (by symm; rw [← Bool.not_eq_true]; intro h; have := (ptG_iff _).1 h; simp at this; omega), gr1 _ _⟩
theorem ptG_in (p : Pt) : ptG p = (inB p.1 (-100) 100 && inB p.2 (-100) 100) := by unfold ptG inB; simp [Bool.and_assoc]
theorem pyOne_any (p : Pt) (w : World) : Calls Try.prog 40 #[ptV p] w fun e w' => e = .returned (.bool (ptG p)) ∧ Gr w w' := by
  obtain ⟨a, b⟩ := p
  rw [ptG_in]
  cases h1 : inB a (-100) 100
  · have H1 := Lib.hid h1
    go_enter Try.func40, Try.ntmps40
    go_wp2_with (go_at_call 62; refine (l1In_any _ _ _ _).mono ?_; rintro e w' ⟨rfl, rfl⟩)
    go_ret
    exact ⟨ret_bool (by simp), gr1 _ _⟩
  · have H1 := Lib.hid h1
    go_enter Try.func40, Try.ntmps40
    go_wp2_with (go_at_call 62; refine (l1In_any _ _ _ _).mono ?_; rintro e w' ⟨rfl, rfl⟩)
    go_ret
    exact ⟨ret_bool (by simp), gr1 _ _⟩
set_option maxHeartbeats 400000 in
theorem pyTurn_any (a b p : Pt) (w : World) (ha : Sm 1000 a) (hb : Sm 1000 b) (hp : Sm 1000 p) : Calls Try.prog 87 #[ptV a, ptV b, ptV p] w fun e w' => e = .returned (.int .i64 (trn a b p)) ∧ Gr w w' := by
  obtain ⟨a1, a2⟩ := a
  obtain ⟨b1, b2⟩ := b
  obtain ⟨p1, p2⟩ := p
  have HT := Lib.hid (show trn (a1, a2) (b1, b2) (p1, p2) = (b1 - a1) * (p2 - a2) - (b2 - a2) * (p1 - a1) from rfl)
  unfold Sm at ha hb hp
  simp only at ha hb hp
  have q1 : IntKind.i64.wrap (b1 - a1) = b1 - a1 := IntWalk.i64_in _ (by omega)
  have q2 : IntKind.i64.wrap (p2 - a2) = p2 - a2 := IntWalk.i64_in _ (by omega)
  have q3 : IntKind.i64.wrap (b2 - a2) = b2 - a2 := IntWalk.i64_in _ (by omega)
  have q4 : IntKind.i64.wrap (p1 - a1) = p1 - a1 := IntWalk.i64_in _ (by omega)
  have m1 := mul_bd (a := b1 - a1) (b := p2 - a2) 2000 2000 (by omega) (by omega)
  have m2 := mul_bd (a := b2 - a2) (b := p1 - a1) 2000 2000 (by omega) (by omega)
  have q5 : IntKind.i64.wrap ((b1 - a1) * (p2 - a2)) = (b1 - a1) * (p2 - a2) := IntWalk.i64_in _ (by omega)
  have q6 : IntKind.i64.wrap ((b2 - a2) * (p1 - a1)) = (b2 - a2) * (p1 - a1) := IntWalk.i64_in _ (by omega)
  have q7 : IntKind.i64.wrap ((b1 - a1) * (p2 - a2) - (b2 - a2) * (p1 - a1)) = (b1 - a1) * (p2 - a2) - (b2 - a2) * (p1 - a1) := IntWalk.i64_in _ (by omega)
  rw [HT.out]
  clear m1 m2 ha hb hp
  go_enter Try.func87, Try.ntmps87
  go_wp2
  go_ret
  exact ⟨rfl, gr3 _ _ _ _⟩
theorem pyBefore_any (s t : Pt) (w : World) : Calls Try.prog 86 #[ptV s, ptV t] w fun e w' => e = .returned (.bool (bfB s t)) ∧ Gr w w' := by
  obtain ⟨a, b⟩ := s
  obtain ⟨a', b'⟩ := t
  by_cases h1 : a < a'
  · go_enter Try.func86, Try.ntmps86
    go_wp2
    go_ret
    exact ⟨ret_bool (by simp [bfB, h1]), gr2 _ _ _⟩
  · by_cases h2 : a = a'
    · subst h2
      by_cases h3 : b < b'
      · go_enter Try.func86, Try.ntmps86
        go_wp2
        go_ret
        exact ⟨ret_bool (by simp [bfB, h3]), gr2 _ _ _⟩
      · go_enter Try.func86, Try.ntmps86
        go_wp2
        go_ret
        exact ⟨ret_bool (by simp [bfB, h3]), gr2 _ _ _⟩
    · go_enter Try.func86, Try.ntmps86
      go_wp2
      go_ret
      exact ⟨ret_bool (by simp [bfB, h1, h2]), gr2 _ _ _⟩
theorem stepTo_any (a b : Pt) (w : World) (ha : Sm 1000 a) (hb : Sm 1000 b) : Calls Try.prog 53 #[ptV a, ptV b] w fun e w' => e = .returned (ptV (dfP a b)) ∧ Gr w w' := by
  obtain ⟨a1, a2⟩ := a
  obtain ⟨b1, b2⟩ := b
  unfold Sm at ha hb
  simp only at ha hb
  have q1 : IntKind.i64.wrap (b1 - a1) = b1 - a1 := IntWalk.i64_in _ (by omega)
  have q2 : IntKind.i64.wrap (b2 - a2) = b2 - a2 := IntWalk.i64_in _ (by omega)
  clear ha hb
  go_enter Try.func53, Try.ntmps53
  go_wp2
  refine bodyPost_ret (P2.result (t := (b1 - a1, b2 - a2)) (g := w.heap.size + 2) ?_ rfl rfl) rfl ⟨rfl, gr3 _ _ _ _⟩
  have := P2.new ((w.alloc (.cells #[.int .i64 a1, .int .i64 a2] 35)).alloc (.cells #[.int .i64 b1, .int .i64 b2] 35)) (b1 - a1, b2 - a2) 35
  rwa [World.size_alloc, World.size_alloc] at this
theorem cross_any (u v : Pt) (w : World) (hu : Sm 2000 u) (hv : Sm 2000 v) : Calls Try.prog 44 #[ptV u, ptV v] w fun e w' => e = .returned (.int .i64 (crP u v)) ∧ Gr w w' := by
  have hb := crP_bd hu hv
  obtain ⟨u1, u2⟩ := u
  obtain ⟨v1, v2⟩ := v
  have HT := Lib.hid (show crP (u1, u2) (v1, v2) = u1 * v2 - u2 * v1 from rfl)
  simp only at hb
  have q1 : IntKind.i64.wrap (u1 * v2) = u1 * v2 := IntWalk.i64_in _ (by omega)
  have q2 : IntKind.i64.wrap (u2 * v1) = u2 * v1 := IntWalk.i64_in _ (by omega)
  have q3 : IntKind.i64.wrap (u1 * v2 - u2 * v1) = u1 * v2 - u2 * v1 := IntWalk.i64_in _ (by omega)
  rw [HT.out]
  clear hb hu hv
  go_enter Try.func44, Try.ntmps44
  go_wp2
  go_ret
  exact ⟨rfl, gr2 _ _ _⟩
set_option maxHeartbeats 1000000 in
set_option maxRecDepth 100000 in
theorem taken_any (s : Int) (hs : s = 1 ∨ s = -1) (a b c : Pt) (w : World) (ha : Sm 1000 a) (hb : Sm 1000 b) (hc : Sm 1000 c) : Calls Try.prog 49 #[.int .i64 s, ptV a, ptV b, ptV c] w fun e w' => e = .returned (.bool (decide (0 < s * trn a b c))) ∧ Gr w w' := by
  have H1 := Lib.hid (fun p q W (hp : Sm 1000 p) (hq : Sm 1000 q) => stepTo_any p q W hp hq)
  have H3 := Lib.hid (fun u v W (hu : Sm 2000 u) (hv : Sm 2000 v) => cross_any u v W hu hv)
  have hx := crP_bd (ha.df hb) (hb.df hc)
  have hab := ha.df hb
  have hbc := hb.df hc
  have HG := Lib.hid (gr3 w (.cells #[.int .i64 a.1, .int .i64 a.2] 35) (.cells #[.int .i64 b.1, .int .i64 b.2] 35) (.cells #[.int .i64 c.1, .int .i64 c.2] 35))
  have hP := P4.new w a b 35 35
  have hA := P2.alloc ⟨hP.1, hP.2.1⟩ (.cells #[.int .i64 c.1, .int .i64 c.2] 35)
  have hB := P2.alloc ⟨hP.2.2.1, hP.2.2.2⟩ (.cells #[.int .i64 c.1, .int .i64 c.2] 35)
  have hC := P2.new ((w.alloc (.cells #[.int .i64 a.1, .int .i64 a.2] 35)).alloc (.cells #[.int .i64 b.1, .int .i64 b.2] 35)) c 35
  rw [World.size_alloc, World.size_alloc] at hC
  rw [trn_df]
  have hxb : -8000000 ≤ crP (dfP a b) (dfP b c) ∧ crP (dfP a b) (dfP b c) ≤ 8000000 := by unfold crP; omega
  have q1 : IntKind.i64.wrap (s * crP (dfP a b) (dfP b c)) = s * crP (dfP a b) (dfP b c) := by rcases hs with rfl | rfl <;> exact IntWalk.i64_in _ (by omega)
  obtain ⟨g0, g1⟩ := P2.grown hA
  obtain ⟨e0, e1⟩ := P2.grown hB
  obtain ⟨f0, f1⟩ := P2.grown hC
  clear hx hs hP hA hB hC hxb
  go_enter Try.func49, Try.ntmps49
  go_wp2
  refine wp_region_quiet_grown (by kernel_rfl) (by kernel_rfl) ?_
  repeat (go_big_quiet_step (first | (go_at_call 53; refine Calls.grown_of (H1.out _ _ _ (by assumption) (by assumption))) | (go_at_call 44; refine Calls.grown_of (H3.out _ _ _ (by assumption) (by assumption)))))
  refine wpQuiet_nil ?_
  intro _ hw'
  obtain ⟨⟨nq, osq⟩, hw''⟩ := hw'
  subst hw''
  go_wp2
  go_ret
  exact ⟨ret_bool rfl, HG.out.trans ⟨_, _, rfl⟩⟩
/-- How points are compared. -/
def cmpP (s t : Pt) : Int := orL [cmI s.1 t.1, cmI s.2 t.2]
theorem cmpP_lt (s t : Pt) : cmpP s t < 0 ↔ Bf s t := by
  unfold cmpP cmI Bf
  simp only [orL]
  by_cases h1 : s.1 < t.1 <;> by_cases h2 : t.1 < s.1 <;> by_cases h3 : s.2 < t.2 <;> by_cases h4 : t.2 < s.2 <;> simp only [h1, h2, h3, h4, if_true, if_false] <;> simp <;> omega
theorem IS.drewP {w : World} {B : Nat} {v : Value} {zs : List Int} (h : IS w B v zs) : IS w.drew B v zs := h
theorem IS.lit2 (w : World) (x y : Int) : IS (w.alloc (.cells #[.int .i64 x, .int .i64 y] 3)) w.heap.size (.slice (some ⟨w.heap.size, 0, none⟩) 2 2) [x, y] :=
  World.ownsRow_lit w #[.int .i64 x, .int .i64 y] 2 (Nat.le_refl _) (by decide) rfl
set_option maxHeartbeats 1000000 in
set_option maxRecDepth 100000 in
theorem comparePoints_any (s t : Pt) (w : World) : Calls Try.prog 46 #[ptV s, ptV t] w fun e w' => e = .returned (.int .i64 (cmpP s t)) ∧ Gr w w' := by
  have hS := P4.new w s t 35 35
  obtain ⟨a, b⟩ := s
  obtain ⟨a', b'⟩ := t
  have H := fun (W : World) (n : Nat) (hn : n = W.heap.size) => show Calls Try.prog 65 #[.slice (some ⟨n, 0, none⟩) 2 2] (W.alloc (.cells #[.int .i64 (cmI a a'), .int .i64 (cmI b b')] 3)).drew fun e w' => e = .returned (.int .i64 (orL [cmI a a', cmI b b'])) ∧ (W.alloc (.cells #[.int .i64 (cmI a a'), .int .i64 (cmI b b')] 3)).drew = w' by
    subst hn
    exact or_any _ _ _ _ (IS.drewP (IS.lit2 W _ _))
  have HE := Lib.hid (show cmpP (a, b) (a', b') = orL [cmI a a', cmI b b'] from rfl)
  have HC := Lib.hid (fun a b W => compare_any a b W)
  rw [HE.out]
  obtain ⟨o, ho⟩ : ∃ o, o = orL [cmI a a', cmI b b'] := ⟨_, rfl⟩
  rw [← ho] at H ⊢
  have HO := Lib.hid (H ((w.alloc (.cells #[.int .i64 a, .int .i64 b] 35)).alloc (.cells #[.int .i64 a', .int .i64 b'] 35)) (w.heap.size + 1 + 1) (by rw [World.size_alloc, World.size_alloc]))
  clear ho H HE
  go_enter Try.func46, Try.ntmps46
  go_wp2
  go_region_held3 (fun w' => P4 w' w.heap.size (w.heap.size + 1) (a, b) (a', b')) (repeat' (first | with_reducible assumption | with_reducible refine P4.drew ?_ | with_reducible refine P4.drewN ?_ _ | with_reducible refine P4.alloc ?_ _)) (first | (go_at_call 66; refine (HC.out _ _ _).mono ?_; rintro e w' ⟨rfl, rfl⟩) | (go_at_call 65; refine HO.out.mono ?_; rintro e w' ⟨rfl, rfl⟩))
  go_wp2
  go_ret
  exact ⟨rfl, 1, _, by rw [Sort.alloc_eq_grow, Sort.alloc_eq_grow, Sort.alloc_eq_grow, Sort.grow_grow, Sort.grow_grow]; rfl⟩
end Go.Proofs.Ytamejfeaniokfaa

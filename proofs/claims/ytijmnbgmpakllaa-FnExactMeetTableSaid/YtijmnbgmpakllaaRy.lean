/-
  Rays, as values and in rows; their tests and orders, and what a star is, in the program and in the model: what each call returns.
  Conditions: the slice reads as the list that is named.
-/
import Derived.Test.YtijmnbgmpakllaaT3
import Derived.Test.YtijmnbgmpakllaaStM
import Derived.Test.YtijmnbgmpakllaaGcd
namespace Go.Proofs.Ytijmnbgmpakllaa
set_option linter.unusedSimpArgs false
set_option linter.unusedVariables false
open Go.ChangeShapes Go.WideShapes Go.ChangeAt Go.RowKit
open Go.Sort (grow)

theorem infoRay : (Try.prog.info? 26).map (fun i => (i.zero, i.size, i.bytes)) = some (some (.agg #[.int .i64 0, .int .i64 0, .int .i64 0]), 3, 24) := by kernel_rfl
/-- The slice value v is of this call's own and reads as a list of terms. -/
abbrev RyS (w : World) (B : Nat) (v : Value) (l : List Tm) : Prop := FS 26 3 w B v l.length (flatT l)
def GivesRy (l : List Tm) (w : World) (e : Ending) (w' : World) : Prop := ∃ r, e = .returned r ∧ RyS w' w.heap.size r l ∧ Below w.heap.size w w'
def GivesRyB (ok : Bool) (l : List Tm) (w : World) (e : Ending) (w' : World) : Prop := ∃ r, e = .returned (.tuple #[r, .bool ok]) ∧ RyS w' w.heap.size r l ∧ Below w.heap.size w w'
theorem givesRyB_nil {ok : Bool} {l : List Tm} {w w' : World} (h1 : ok = false) (h2 : l = []) (hb : Below w.heap.size w w') : GivesRyB ok l w (.returned (.tuple #[.slice none 0 0, .bool false])) w' := by
  subst h1; subst h2; exact ⟨_, rfl, FS.nil_ _ _ _ _, hb⟩
theorem givesRyB_yes {ok : Bool} {l : List Tm} {r : Value} {w w' : World} (h1 : ok = true) (h2 : RyS w' w.heap.size r l) (hb : Below w.heap.size w w') : GivesRyB ok l w (.returned (.tuple #[r, .bool true])) w' := by
  subst h1; exact ⟨_, rfl, h2, hb⟩
theorem RyS.parts {w : World} {B : Nat} {v : Value} {l : List Tm} (h : RyS w B v l) : ∃ A cap, v = .slice A l.length cap ∧ l.length ≤ maxLen ∧ ∀ k, k < l.length → ∃ g, A = some ⟨g, 0, none⟩ ∧ X3 w g (k * 3) (td l k) := by
  obtain ⟨A, cap, rfl, hm, hp⟩ := FS.parts h
  refine ⟨A, cap, rfl, hm, fun k hk => ?_⟩
  obtain ⟨g, rfl, c0⟩ := hp (k * 3) (by omega)
  obtain ⟨g', hg, c1⟩ := hp (k * 3 + 1) (by omega)
  cases hg
  obtain ⟨g', hg, c2⟩ := hp (k * 3 + 2) (by omega)
  cases hg
  obtain ⟨e0, e1, e2⟩ := flatT_gd hk
  rw [e0] at c0
  rw [e1] at c1
  rw [e2] at c2
  exact ⟨g, rfl, c0, c1, c2⟩
theorem T3.loadR {w : World} {g : Nat} {t : Tm} (h : T3 w g t) : (loadVar 26 ⟨g, 0, none⟩).run Try.prog w = .ok (tmV t) w := by
  obtain ⟨h1, h2, h3⟩ := h
  simp [loadVar, go_sem, h1, h2, h3]
theorem T3.resultR {w : World} {g : Nat} {t : Tm} (h : T3 w g t) {fn : Func} {p : Tmp} {ts : Array Value} (hr : fn.results = #[.cell p 26]) (hp : ts.getD p undef = .pointer (some ⟨g, 0, none⟩)) : (Go.results fn ts).run Try.prog w = Result.ok (tmV t) w := by
  have hp' : ts[p]?.getD undef = .pointer (some ⟨g, 0, none⟩) := by simpa using hp
  have ha : (asAddr (Value.pointer (some ⟨g, 0, none⟩))).run Try.prog w = .ok ⟨g, 0, none⟩ w := rfl
  simp only [Go.results, hr]
  simp [Sem.run_bind, Result.andThen, hp', ha, h.loadR]
theorem stBefore_any (s t : Tm) (w : World) : Calls Try.prog 89 #[tmV s, tmV t] w fun e w' => e = .returned (.bool (plLt s t)) ∧ Gr w w' := by
  obtain ⟨a, b, c⟩ := s
  obtain ⟨a', b', c'⟩ := t
  by_cases h1 : a < a'
  · go_enter Try.func89, Try.ntmps89
    go_wp2
    go_ret
    exact ⟨ret_bool (by simp [plLt, h1]), gr2 _ _ _⟩
  · by_cases h2 : a = a'
    · subst h2
      by_cases h3 : b < b'
      · go_enter Try.func89, Try.ntmps89
        go_wp2
        go_ret
        exact ⟨ret_bool (by simp [plLt, h3]), gr2 _ _ _⟩
      · go_enter Try.func89, Try.ntmps89
        go_wp2
        go_ret
        exact ⟨ret_bool (by simp [plLt, h3]), gr2 _ _ _⟩
    · go_enter Try.func89, Try.ntmps89
      go_wp2
      go_ret
      exact ⟨ret_bool (by simp [plLt, h1, h2]), gr2 _ _ _⟩
set_option maxHeartbeats 1000000 in
set_option maxRecDepth 100000 in
theorem stRay_any (t : Tm) (w : World) : Calls Try.prog 48 #[tmV t] w fun e w' => e = .returned (.bool (ryT t)) ∧ Gr w w' := by
  obtain ⟨W0, hW0⟩ : ∃ W0, W0 = w.alloc (.cells #[.int .i64 t.1, .int .i64 t.2.1, .int .i64 t.2.2] 26) := ⟨_, rfl⟩
  have hS : T3 W0 w.heap.size t := by rw [hW0]; exact T3.new w t 26
  have HG := Lib.hid (show Gr w W0 by rw [hW0]; exact gr1 w _)
  have HX := Lib.hid (fun k' => show Calls Try.prog 73 #[.int .i64 t.1, .int .i64 (-20), .int .i64 20] (W0.drewN k') fun e w' => e = .returned (.bool (inB t.1 (-20) 20)) ∧ w' = W0.drewN k' from (l1In_any t.1 (-20) 20 (W0.drewN k')).mono fun e w' h => ⟨h.1, h.2.symm⟩)
  have HY := Lib.hid (fun k' => show Calls Try.prog 73 #[.int .i64 t.2.1, .int .i64 (-20), .int .i64 20] (W0.drewN k') fun e w' => e = .returned (.bool (inB t.2.1 (-20) 20)) ∧ w' = W0.drewN k' from (l1In_any t.2.1 (-20) 20 (W0.drewN k')).mono fun e w' h => ⟨h.1, h.2.symm⟩)
  have HW := Lib.hid (fun k' => show Calls Try.prog 73 #[.int .i64 t.2.2, .int .i64 1, .int .i64 20] (W0.drewN k') fun e w' => e = .returned (.bool (inB t.2.2 1 20)) ∧ w' = W0.drewN k' from (l1In_any t.2.2 1 20 (W0.drewN k')).mono fun e w' h => ⟨h.1, h.2.symm⟩)
  have HR := Lib.hid (show ryT t = (inB t.1 (-20) 20 && (inB t.2.1 (-20) 20 && (decide (gI t.1 t.2.1 = 1) && inB t.2.2 1 20))) from rfl)
  rw [HR.out]
  have hp1 : inB t.1 (-20) 20 = true → -20 ≤ t.1 ∧ t.1 ≤ 20 := (inB_iff _ _ _).1
  have hq1 : inB t.2.1 (-20) 20 = true → -20 ≤ t.2.1 ∧ t.2.1 ≤ 20 := (inB_iff _ _ _).1
  obtain ⟨c0, c1, c2⟩ := hS
  have hlt := cell_lt c0
  generalize inB t.1 (-20) 20 = p at HX hp1 ⊢
  generalize inB t.2.1 (-20) 20 = q at HY hq1 ⊢
  generalize inB t.2.2 1 20 = r at HW ⊢
  clear HR
  cases p
  · clear hp1 hq1
    go_enter Try.func48, Try.ntmps48
    go_upto_region 1 with fail
    rw [← hW0]
    clear hW0
    go_wp2
    go_quiet (first | (with_reducible exact Calls.quiet_of_same (HX.out _)) | (with_reducible exact Calls.quiet_of_same (HY.out _)) | (with_reducible exact Calls.quiet_of_same (HW.out _)))
    go_wp2
    go_ret
    exact ⟨rfl, HG.out.trans ⟨nq, #[], by rw [Sort.grow_empty]⟩⟩
  · cases q
    · clear hp1 hq1
      go_enter Try.func48, Try.ntmps48
      go_upto_region 1 with fail
      rw [← hW0]
      clear hW0
      go_wp2
      go_quiet (first | (with_reducible exact Calls.quiet_of_same (HX.out _)) | (with_reducible exact Calls.quiet_of_same (HY.out _)) | (with_reducible exact Calls.quiet_of_same (HW.out _)))
      go_wp2
      go_ret
      exact ⟨rfl, HG.out.trans ⟨nq, #[], by rw [Sort.grow_empty]⟩⟩
    · have ha := hp1 rfl
      have hb := hq1 rfl
      have HA := Lib.hid (fun k' => show Calls Try.prog 75 #[.int .i64 t.1] (W0.drewN k') fun e w' => e = .returned (.int .i64 (t.1.natAbs : Int)) ∧ w' = W0.drewN k' from (l1Abs_any t.1 (W0.drewN k') (by unfold wide; omega)).mono fun e w' h => ⟨h.1, h.2.symm⟩)
      have HB := Lib.hid (fun k' => show Calls Try.prog 75 #[.int .i64 t.2.1] (W0.drewN k') fun e w' => e = .returned (.int .i64 (t.2.1.natAbs : Int)) ∧ w' = W0.drewN k' from (l1Abs_any t.2.1 (W0.drewN k') (by unfold wide; omega)).mono fun e w' h => ⟨h.1, h.2.symm⟩)
      have HC := Lib.hid (fun k' => show Calls Try.prog 74 #[.int .i64 (t.1.natAbs : Int), .int .i64 (t.2.1.natAbs : Int)] (W0.drewN k') fun e w' => e = .returned (.int .i64 (gI t.1 t.2.1)) ∧ w' = W0.drewN k' from (stCommon_any t.1.natAbs t.2.1.natAbs (by omega) (by omega) (W0.drewN k')).mono fun e w' h => ⟨h.1, h.2.symm⟩)
      obtain ⟨g, hg⟩ : ∃ g, g = gI t.1 t.2.1 := ⟨_, rfl⟩
      rw [← hg] at HC ⊢
      clear hg hp1 hq1 ha hb
      by_cases hq : g = 1
      · subst hq
        go_enter Try.func48, Try.ntmps48
        go_upto_region 1 with fail
        rw [← hW0]
        clear hW0
        go_wp2
        go_quiet (first | (with_reducible exact Calls.quiet_of_same (HX.out _)) | (with_reducible exact Calls.quiet_of_same (HY.out _)) | (with_reducible exact Calls.quiet_of_same (HW.out _)) | (with_reducible exact Calls.quiet_of_same (HA.out _)) | (with_reducible exact Calls.quiet_of_same (HB.out _)) | (with_reducible exact Calls.quiet_of_same (HC.out _)))
        go_wp2
        go_ret
        exact ⟨ret_bool (by simp), HG.out.trans ⟨nq, #[], by rw [Sort.grow_empty]⟩⟩
      · have hq0 : (g == 1) = false := by simpa using hq
        go_enter Try.func48, Try.ntmps48
        go_upto_region 1 with fail
        rw [← hW0]
        clear hW0
        go_wp2
        go_quiet (first | (with_reducible exact Calls.quiet_of_same (HX.out _)) | (with_reducible exact Calls.quiet_of_same (HY.out _)) | (with_reducible exact Calls.quiet_of_same (HW.out _)) | (with_reducible exact Calls.quiet_of_same (HA.out _)) | (with_reducible exact Calls.quiet_of_same (HB.out _)) | (with_reducible exact Calls.quiet_of_same (HC.out _)))
        go_wp2
        go_ret
        exact ⟨ret_bool (by simp [hq]), HG.out.trans ⟨nq, #[], by rw [Sort.grow_empty]⟩⟩
theorem isWithin_any (n g : Int) (h0 : 0 ≤ g ∧ g ≤ 1000000) (w : World) : Calls Try.prog 81 #[.int .i64 n, .int .i64 g] w fun e w' => e = .returned (.bool (inB n (-g) g)) ∧ w = w' := by
  have q : IntKind.i64.wrap (-g) = -g := IntWalk.i64_in _ (by omega)
  have HB := Lib.hid (show inB n (-g) g = (decide (-g ≤ n) && decide (n ≤ g)) from rfl)
  rw [HB.out]
  by_cases h1 : -g ≤ n
  · go_enter Try.func81, Try.ntmps81
    go_wp2
    go_ret
    exact ⟨ret_bool (by simp [h1]), rfl⟩
  · go_enter Try.func81, Try.ntmps81
    go_wp2
    go_ret
    exact ⟨ret_bool (by rw [decide_eq_false (show ¬ -g ≤ n by omega)]; rfl), rfl⟩
set_option maxHeartbeats 2000000 in
set_option maxRecDepth 100000 in
theorem areSteps_any (x y : Int) (w : World) : Calls Try.prog 76 #[.int .i64 x, .int .i64 y] w fun e w' => e = .returned (.bool (okS x y)) ∧ w = w' := by
  have HX := Lib.hid (fun W => isWithin_any x 20 (by omega) W)
  have HY := Lib.hid (fun W => isWithin_any y 20 (by omega) W)
  have HB := Lib.hid (show okS x y = (inB x (-20) 20 && (inB y (-20) 20 && (decide (x ≠ 0) || decide (y ≠ 0)))) from rfl)
  rw [HB.out]
  generalize inB x (-20) 20 = p at HX
  generalize inB y (-20) 20 = q at HY
  cases p
  · go_enter Try.func76, Try.ntmps76
    go_wp2_with (go_at_call 81; refine (HX.out _).mono ?_; rintro e w' ⟨rfl, rfl⟩)
    go_ret
    exact ⟨rfl, rfl⟩
  · cases q
    · go_enter Try.func76, Try.ntmps76
      go_wp2_with fail
      refine (HX.out _).mono ?_
      rintro e w' ⟨rfl, rfl⟩
      go_wp2_with fail
      refine (HY.out _).mono ?_
      rintro e w' ⟨rfl, rfl⟩
      go_wp2
      go_ret
      exact ⟨rfl, rfl⟩
    · by_cases h1 : x = 0
      · by_cases h2 : y = 0
        · subst h1; subst h2
          go_enter Try.func76, Try.ntmps76
          go_wp2_with fail
          refine (HX.out _).mono ?_
          rintro e w' ⟨rfl, rfl⟩
          go_wp2_with fail
          refine (HY.out _).mono ?_
          rintro e w' ⟨rfl, rfl⟩
          go_wp2
          go_ret
          exact ⟨rfl, rfl⟩
        · subst h1
          go_enter Try.func76, Try.ntmps76
          go_wp2_with fail
          refine (HX.out _).mono ?_
          rintro e w' ⟨rfl, rfl⟩
          go_wp2_with fail
          refine (HY.out _).mono ?_
          rintro e w' ⟨rfl, rfl⟩
          go_wp2
          go_ret
          exact ⟨ret_bool (by simp [h2]), rfl⟩
      · go_enter Try.func76, Try.ntmps76
        go_wp2_with fail
        refine (HX.out _).mono ?_
        rintro e w' ⟨rfl, rfl⟩
        go_wp2_with fail
        refine (HY.out _).mono ?_
        rintro e w' ⟨rfl, rfl⟩
        go_wp2
        go_ret
        exact ⟨ret_bool (by simp [h1]), rfl⟩
theorem isRay_any (t : Tm) (w : World) : Calls Try.prog 50 #[tmV t] w fun e w' => e = .returned (.bool (ryT t)) ∧ Gr w w' := by
  obtain ⟨a, b, c⟩ := t
  have HS := Lib.hid (fun W => areSteps_any a b W)
  cases hs : okS a b
  · have HY := Lib.hid (show ryT (a, b, c) = false by
      rw [← Bool.not_eq_true]; intro h
      have h1 := ryT_parts h
      have h2 := ryT_ne h
      have : okS a b = true := (okS_iff _ _).2 ⟨h1.1, h1.2.1, h1.2.2.1, h1.2.2.2.1, h2⟩
      rw [hs] at this; cases this)
    rw [HY.out]
    rw [hs] at HS
    go_enter Try.func50, Try.ntmps50
    go_wp2_with (go_at_call 76; refine (HS.out _).mono ?_; rintro e w' ⟨rfl, rfl⟩)
    go_ret
    exact ⟨rfl, gr1 _ _⟩
  · obtain ⟨a1, a2, b1, b2, hne⟩ := (okS_iff _ _).1 hs
    have HY := Lib.hid (show ryT (a, b, c) = (decide (gI a b = 1) && inB c 1 20) by unfold ryT; rw [(inB_iff _ _ _).2 (show -20 ≤ (a, b, c).1 ∧ (a, b, c).1 ≤ 20 by simp; omega), (inB_iff _ _ _).2 (show -20 ≤ (a, b, c).2.1 ∧ (a, b, c).2.1 ≤ 20 by simp; omega)]; rfl)
    have HG := Lib.hid (fun W => greatestDivisor_any a b W (by unfold wide; omega) (by unfold wide; omega))
    rw [HY.out]
    rw [hs] at HS
    obtain ⟨g, hg⟩ : ∃ g, g = gI a b := ⟨_, rfl⟩
    rw [← hg] at HG ⊢
    have HI := Lib.hid (show inB c 1 20 = (decide (1 ≤ c) && decide (c ≤ 20)) from rfl)
    rw [HI.out]
    clear hg hs HY hne HI
    by_cases hq : g = 1
    · subst hq
      by_cases h1 : 1 ≤ c
      · go_enter Try.func50, Try.ntmps50
        go_wp2_with (first | (go_at_call 76; refine (HS.out _).mono ?_; rintro e w' ⟨rfl, rfl⟩) | (go_at_call 77; refine (HG.out _).mono ?_; rintro e w' ⟨rfl, n, rfl⟩))
        go_ret
        exact ⟨ret_bool (by simp [h1]), ⟨n, #[_], by first | rfl | (rw [Sort.alloc_eq_grow])⟩⟩
      · go_enter Try.func50, Try.ntmps50
        go_wp2_with (first | (go_at_call 76; refine (HS.out _).mono ?_; rintro e w' ⟨rfl, rfl⟩) | (go_at_call 77; refine (HG.out _).mono ?_; rintro e w' ⟨rfl, n, rfl⟩))
        go_ret
        exact ⟨ret_bool (by rw [decide_eq_false (show ¬ 1 ≤ c by omega)]; rfl), ⟨n, #[_], by first | rfl | (rw [Sort.alloc_eq_grow])⟩⟩
    · go_enter Try.func50, Try.ntmps50
      go_wp2_with (first | (go_at_call 76; refine (HS.out _).mono ?_; rintro e w' ⟨rfl, rfl⟩) | (go_at_call 77; refine (HG.out _).mono ?_; rintro e w' ⟨rfl, n, rfl⟩))
      go_ret
      exact ⟨ret_bool (by simp [hq]), ⟨n, #[_], by first | rfl | (rw [Sort.alloc_eq_grow])⟩⟩
/-- How the steps of rays are compared. -/
def cmpS (s t : Tm) : Int := orL [cmI s.1 t.1, cmI s.2.1 t.2.1]
theorem cmpS_lt (s t : Tm) : cmpS s t < 0 ↔ plLt s t = true := by
  rw [plLt_iff]
  unfold cmpS cmI
  simp only [orL]
  by_cases h1 : s.1 < t.1 <;> by_cases h2 : t.1 < s.1 <;> by_cases h3 : s.2.1 < t.2.1 <;> by_cases h4 : t.2.1 < s.2.1 <;> simp only [h1, h2, h3, h4, if_true, if_false] <;> simp <;> omega
theorem cmpS_eq (s t : Tm) : cmpS s t = 0 ↔ Same s t := by
  unfold Same cmpS cmI
  simp only [orL]
  by_cases h1 : s.1 < t.1 <;> by_cases h2 : t.1 < s.1 <;> by_cases h3 : s.2.1 < t.2.1 <;> by_cases h4 : t.2.1 < s.2.1 <;> simp only [h1, h2, h3, h4, if_true, if_false] <;> simp <;> omega
theorem IS.drewR {w : World} {B : Nat} {v : Value} {zs : List Int} (h : IS w B v zs) : IS w.drew B v zs := h
theorem IS.lit2R (w : World) (x y : Int) : IS (w.alloc (.cells #[.int .i64 x, .int .i64 y] 3)) w.heap.size (.slice (some ⟨w.heap.size, 0, none⟩) 2 2) [x, y] :=
  World.ownsRow_lit w #[.int .i64 x, .int .i64 y] 2 (Nat.le_refl _) (by decide) rfl
set_option maxHeartbeats 1000000 in
set_option maxRecDepth 100000 in
theorem compareSteps_any (s t : Tm) (w : World) : Calls Try.prog 84 #[tmV s, tmV t] w fun e w' => e = .returned (.int .i64 (cmpS s t)) ∧ Gr w w' := by
  have hS := S6.new w s t 26 26
  obtain ⟨a, b, c⟩ := s
  obtain ⟨a', b', c'⟩ := t
  have H := fun (W : World) (n : Nat) (hn : n = W.heap.size) => show Calls Try.prog 90 #[.slice (some ⟨n, 0, none⟩) 2 2] (W.alloc (.cells #[.int .i64 (cmI a a'), .int .i64 (cmI b b')] 3)).drew fun e w' => e = .returned (.int .i64 (orL [cmI a a', cmI b b'])) ∧ (W.alloc (.cells #[.int .i64 (cmI a a'), .int .i64 (cmI b b')] 3)).drew = w' by
    subst hn
    exact or_any _ _ _ _ (IS.drewR (IS.lit2R W _ _))
  have HE := Lib.hid (show cmpS (a, b, c) (a', b', c') = orL [cmI a a', cmI b b'] from rfl)
  have HC := Lib.hid (fun a b W => compare_any a b W)
  rw [HE.out]
  obtain ⟨o, ho⟩ : ∃ o, o = orL [cmI a a', cmI b b'] := ⟨_, rfl⟩
  rw [← ho] at H ⊢
  have HO := Lib.hid (H ((w.alloc (.cells #[.int .i64 a, .int .i64 b, .int .i64 c] 26)).alloc (.cells #[.int .i64 a', .int .i64 b', .int .i64 c'] 26)) (w.heap.size + 1 + 1) (by rw [World.size_alloc, World.size_alloc]))
  clear ho H HE
  go_enter Try.func84, Try.ntmps84
  go_wp2
  go_region_held3 (fun w' => S6 w' w.heap.size (w.heap.size + 1) (a, b, c) (a', b', c')) (repeat' (first | with_reducible assumption | with_reducible refine S6.drew ?_ | with_reducible refine S6.drewN ?_ _ | with_reducible refine S6.alloc ?_ _)) (first | (go_at_call 91; refine (HC.out _ _ _).mono ?_; rintro e w' ⟨rfl, rfl⟩) | (go_at_call 90; refine HO.out.mono ?_; rintro e w' ⟨rfl, rfl⟩))
  go_wp2
  go_ret
  exact ⟨rfl, 1, _, by rw [Sort.alloc_eq_grow, Sort.alloc_eq_grow, Sort.alloc_eq_grow, Sort.grow_grow, Sort.grow_grow]; rfl⟩
set_option maxHeartbeats 1000000 in
set_option maxRecDepth 100000 in
theorem stGood_any (w : World) (B : Nat) (v : Value) (l : List Tm) (h : RyS w B v l) : Calls Try.prog 82 #[v] w fun e w' => e = .returned (.bool (ryB l)) ∧ Below w.heap.size w w' := by
  obtain ⟨A, cap, rfl, hm, hp⟩ := RyS.parts h
  have HP := Lib.hid hp
  obtain ⟨n, hn⟩ : ∃ n, n = l.length := ⟨_, rfl⟩
  have HN := Lib.hid hn
  rw [← hn] at hm ⊢
  unfold maxLen at hm
  have HT := Lib.hid (fun t W => stRay_any t W)
  have HL := Lib.hid (fun s t W => stBefore_any s t W)
  clear hp h hn
  go_enter Try.func82, Try.ntmps82
  go_wp2
  go_loopw [7] (fun i wr => ∃ k : Nat, k ≤ n ∧ i = .int .i64 k ∧ Hid (ryUp l k = true) ∧ Below w.heap.size w wr) (fun i _ => n - (intOf i).toNat)
  case atStart => exact ⟨0, by omega, rfl, Lib.hid rfl, Below.refl _ _⟩
  case round =>
    obtain ⟨k, hk, rfl, hup, hb⟩ := hrel
    by_cases hlt : k < n
    · obtain ⟨g, rfl, hc0⟩ := HP.out k (by rw [← HN.out]; exact hlt)
      have hc := X3.below hc0 hb
      have HX := Lib.hid hc
      have hb2 := hb.alloc hb.size (.cells #[.int .i64 (td l k).1, .int .i64 (td l k).2.1, .int .i64 (td l k).2.2] 26)
      have hS := T3.new wr (td l k) 26
      have hs : wr.heap.size < (wr.alloc (.cells #[.int .i64 (td l k).1, .int .i64 (td l k).2.1, .int .i64 (td l k).2.2] 26)).heap.size := cell_lt hS.1
      obtain ⟨c0, c1, c2⟩ := hc
      clear hc0
      cases hq : ryT (td l k)
      · have HQ := Lib.hid (ryAt_no1 (l := l) (k := k) hq)
        have HT' := Lib.hid (fun W => show Calls Try.prog 48 #[tmV (td l k)] W fun e w' => e = .returned (.bool false) ∧ Gr W w' by rw [← hq]; exact HT.out (td l k) W)
        clear hq
        go_wp2
        generalize wr.alloc (.cells #[.int .i64 (td l k).1, .int .i64 (td l k).2.1, .int .i64 (td l k).2.2] 26) = W0 at hS hb2 hs ⊢
        obtain ⟨g0, g1, g2⟩ := T3.grown hS
        refine wp_region_quiet_grown (by kernel_rfl) (by kernel_rfl) ?_
        repeat (go_big_quiet_step (first | (go_at_call 48; refine Calls.grown_of (HT'.out _))))
        refine wpQuiet_nil ?_
        intro _ hw'
        obtain ⟨⟨nq, osq⟩, hw''⟩ := hw'
        subst hw''
        go_wp2
        go_ret
        exact ⟨ret_bool (by symm; exact ryB_bad (by rw [← HN.out]; exact hlt) HQ.out), bel2 hb2 (grB _ _)⟩
      · have HQ := Lib.hid hq
        have HT' := Lib.hid (fun W => show Calls Try.prog 48 #[tmV (td l k)] W fun e w' => e = .returned (.bool true) ∧ Gr W w' by rw [← hq]; exact HT.out (td l k) W)
        clear hq
        by_cases h0 : 0 < k
        · have hd : (0 : Int) < (k : Int) := by omega
          obtain ⟨g', hg', hp0⟩ := HP.out (k - 1) (by rw [← HN.out]; omega)
          cases hg'
          have hpx := X3.below (X3.below hp0 hb) ((Below.refl _ _).alloc (Nat.le_refl _) (.cells #[.int .i64 (td l k).1, .int .i64 (td l k).2.1, .int .i64 (td l k).2.2] 26))
          have q1 : IntKind.i64.wrap ((k : Int) - 1) = ((k - 1 : Nat) : Int) := by rw [IntWalk.i64_in _ (by omega)]; omega
          have l1 : k - 1 < n := by omega
          have z1 : ((k - 1 : Nat) : Int) < (n : Int) := by omega
          have z2 : (0 : Int) ≤ ((k - 1 : Nat) : Int) := by omega
          clear hp0
          cases hl : plLt (td l (k - 1)) (td l k)
          · have HQ2 := Lib.hid (ryAt_no2 (l := l) (k := k) h0 hl)
            have HL' := Lib.hid (fun W => show Calls Try.prog 89 #[tmV (td l (k - 1)), tmV (td l k)] W fun e w' => e = .returned (.bool false) ∧ Gr W w' by rw [← hl]; exact HL.out _ _ W)
            clear hl
            go_wp2
            generalize wr.alloc (.cells #[.int .i64 (td l k).1, .int .i64 (td l k).2.1, .int .i64 (td l k).2.2] 26) = W0 at hS hb2 hs hpx ⊢
            obtain ⟨g0, g1, g2⟩ := T3.grown hS
            obtain ⟨p0, p1, p2⟩ := X3.grown hpx
            refine wp_region_quiet_grown (by kernel_rfl) (by kernel_rfl) ?_
            repeat (go_big_quiet_step (first | (go_at_call 48; refine Calls.grown_of (HT'.out _)) | (go_at_call 89; refine Calls.grown_of (HL'.out _))))
            refine wpQuiet_nil ?_
            intro _ hw'
            obtain ⟨⟨nq, osq⟩, hw''⟩ := hw'
            subst hw''
            go_wp2
            go_ret
            exact ⟨ret_bool (by symm; exact ryB_bad (by rw [← HN.out]; exact hlt) HQ2.out), bel2 hb2 (grB _ _)⟩
          · have HQ2 := Lib.hid (ryAt_yes (l := l) (k := k) HQ.out (.inr hl))
            have HL' := Lib.hid (fun W => show Calls Try.prog 89 #[tmV (td l (k - 1)), tmV (td l k)] W fun e w' => e = .returned (.bool true) ∧ Gr W w' by rw [← hl]; exact HL.out _ _ W)
            clear hl
            go_wp2
            generalize wr.alloc (.cells #[.int .i64 (td l k).1, .int .i64 (td l k).2.1, .int .i64 (td l k).2.2] 26) = W0 at hS hb2 hs hpx ⊢
            obtain ⟨g0, g1, g2⟩ := T3.grown hS
            obtain ⟨p0, p1, p2⟩ := X3.grown hpx
            refine wp_region_quiet_grown (by kernel_rfl) (by kernel_rfl) ?_
            repeat (go_big_quiet_step (first | (go_at_call 48; refine Calls.grown_of (HT'.out _)) | (go_at_call 89; refine Calls.grown_of (HL'.out _))))
            refine wpQuiet_nil ?_
            intro _ hw'
            obtain ⟨⟨nq, osq⟩, hw''⟩ := hw'
            subst hw''
            clear q1
            go_wp2
            go_roundw
            case rel => exact ⟨k + 1, by omega, by go_num, Lib.hid (ryUp_next hup.out HQ2.out), bel2 hb2 (grB _ _)⟩
            case measure => simp [intOf]; omega
        · obtain rfl : k = 0 := by omega
          have HQ2 := Lib.hid (ryAt_yes (l := l) (k := 0) HQ.out (.inl rfl))
          go_wp2
          generalize wr.alloc (.cells #[.int .i64 (td l 0).1, .int .i64 (td l 0).2.1, .int .i64 (td l 0).2.2] 26) = W0 at hS hb2 hs ⊢
          obtain ⟨g0, g1, g2⟩ := T3.grown hS
          refine wp_region_quiet_grown (by kernel_rfl) (by kernel_rfl) ?_
          repeat (go_big_quiet_step (first | (go_at_call 48; refine Calls.grown_of (HT'.out _))))
          refine wpQuiet_nil ?_
          intro _ hw'
          obtain ⟨⟨nq, osq⟩, hw''⟩ := hw'
          subst hw''
          go_wp2
          go_roundw
          case rel => exact ⟨0 + 1, by omega, by go_num, Lib.hid (ryUp_next hup.out HQ2.out), bel2 hb2 (grB _ _)⟩
          case measure => simp [intOf]; omega
    · obtain rfl : k = n := by omega
      go_wp2
      go_ret
      refine ⟨ret_bool ?_, hb⟩
      by_cases hn2 : k ≤ 10
      · rw [ryB_end (by rw [← HN.out]; exact hn2) (by rw [← HN.out]; exact hup.out)]; exact decide_eq_true (by omega)
      · rw [ryB_len (by rw [← HN.out]; exact hn2)]; exact decide_eq_false (by omega)
set_option maxHeartbeats 1000000 in
set_option maxRecDepth 100000 in
theorem isStar_any (w : World) (B : Nat) (v : Value) (l : List Tm) (h : RyS w B v l) : Calls Try.prog 61 #[v] w fun e w' => e = .returned (.bool (ryB l)) ∧ Below w.heap.size w w' := by
  obtain ⟨A, cap, rfl, hm, hp⟩ := RyS.parts h
  have HP := Lib.hid hp
  obtain ⟨n, hn⟩ : ∃ n, n = l.length := ⟨_, rfl⟩
  have HN := Lib.hid hn
  rw [← hn] at hm ⊢
  unfold maxLen at hm
  have HT := Lib.hid (fun t W => isRay_any t W)
  have HL := Lib.hid (fun s t W => compareSteps_any s t W)
  clear hp h hn
  · by_cases hn2 : 10 < n
    · go_enter Try.func61, Try.ntmps61
      go_wp2
      go_ret
      exact ⟨ret_bool (by symm; exact ryB_len (by rw [← HN.out]; omega)), Below.refl _ _⟩
    · have hn4 : n ≤ 10 := by omega
      clear hn2
      go_enter Try.func61, Try.ntmps61
      go_wp2
      go_loopw [10] (fun i wr => ∃ k : Nat, k ≤ n ∧ i = .int .i64 k ∧ Hid (ryUp l k = true) ∧ Below w.heap.size w wr) (fun i _ => n - (intOf i).toNat)
      case atStart => exact ⟨0, by omega, rfl, Lib.hid rfl, Below.refl _ _⟩
      case round =>
        obtain ⟨k, hk, rfl, hup, hb⟩ := hrel
        by_cases hlt : k < n
        · obtain ⟨g, rfl, hc0⟩ := HP.out k (by rw [← HN.out]; exact hlt)
          have hc := X3.below hc0 hb
          have hb2 := hb.alloc hb.size (.cells #[.int .i64 (td l k).1, .int .i64 (td l k).2.1, .int .i64 (td l k).2.2] 26)
          have hS := T3.new wr (td l k) 26
          have hs : wr.heap.size < (wr.alloc (.cells #[.int .i64 (td l k).1, .int .i64 (td l k).2.1, .int .i64 (td l k).2.2] 26)).heap.size := cell_lt hS.1
          obtain ⟨c0, c1, c2⟩ := hc
          clear hc0
          cases hq : ryT (td l k)
          · have HQ := Lib.hid (ryAt_no1 (l := l) (k := k) hq)
            have HT' := Lib.hid (fun W => show Calls Try.prog 50 #[tmV (td l k)] W fun e w' => e = .returned (.bool false) ∧ Gr W w' by rw [← hq]; exact HT.out (td l k) W)
            clear hq
            go_wp2_with fail
            refine (HT'.out _).mono ?_
            rintro e w1 ⟨rfl, b1⟩
            have B1 := bel2 hb2 b1.below
            clear b1
            go_wp2
            go_ret
            exact ⟨ret_bool (by symm; exact ryB_bad (by rw [← HN.out]; exact hlt) HQ.out), B1⟩
          · have HQ := Lib.hid hq
            have HT' := Lib.hid (fun W => show Calls Try.prog 50 #[tmV (td l k)] W fun e w' => e = .returned (.bool true) ∧ Gr W w' by rw [← hq]; exact HT.out (td l k) W)
            clear hq
            by_cases h0 : 0 < k
            · obtain ⟨g', hg', hp0⟩ := HP.out (k - 1) (by rw [← HN.out]; omega)
              cases hg'
              have hpx := X3.below (X3.below hp0 hb) ((Below.refl _ _).alloc (Nat.le_refl _) (.cells #[.int .i64 (td l k).1, .int .i64 (td l k).2.1, .int .i64 (td l k).2.2] 26))
              have q1 : IntKind.i64.wrap ((k : Int) - 1) = ((k - 1 : Nat) : Int) := by rw [IntWalk.i64_in _ (by omega)]; omega
              have l1 : k - 1 < n := by omega
              have z1 : ((k - 1 : Nat) : Int) < (n : Int) := by omega
              have z2 : (0 : Int) ≤ ((k - 1 : Nat) : Int) := by omega
              clear hp0
              obtain ⟨c, hce⟩ : ∃ c, c = cmpS (td l (k - 1)) (td l k) := ⟨_, rfl⟩
              have HL' := Lib.hid (fun W => show Calls Try.prog 84 #[tmV (td l (k - 1)), tmV (td l k)] W fun e w' => e = .returned (.int .i64 c) ∧ Gr W w' by rw [hce]; exact HL.out _ _ W)
              cases hl : plLt (td l (k - 1)) (td l k)
              · have HQ2 := Lib.hid (ryAt_no2 (l := l) (k := k) h0 hl)
                have hc0 : 0 ≤ c := by
                  rcases Int.lt_or_le c 0 with h | h
                  · rw [hce, cmpS_lt, hl] at h; cases h
                  · exact h
                clear hl hce
                go_wp2_with fail
                refine (HT'.out _).mono ?_
                rintro e w1 ⟨rfl, b1⟩
                have B1 := bel2 hb2 b1.below
                obtain ⟨g0, g1, g2⟩ := T3.grown (T3.below hS b1.below)
                obtain ⟨p0, p1, p2⟩ := X3.grown (X3.below hpx b1.below)
                clear b1 hS hpx
                go_wp2_with fail
                refine wp_region_quiet_grown (by kernel_rfl) (by kernel_rfl) ?_
                repeat (go_big_quiet_step ((go_at_call 84; refine Calls.grown_of (HL'.out _))))
                refine wpQuiet_nil ?_
                intro _ hw'
                obtain ⟨⟨nq, osq⟩, hw''⟩ := hw'
                subst hw''
                go_wp2
                go_ret
                exact ⟨ret_bool (by symm; exact ryB_bad (by rw [← HN.out]; exact hlt) HQ2.out), bel2 B1 (grB _ _)⟩
              · have HQ2 := Lib.hid (ryAt_yes (l := l) (k := k) HQ.out (.inr hl))
                have hc0 : c < 0 := by rw [hce, cmpS_lt]; exact hl
                clear hl hce
                go_wp2_with fail
                refine (HT'.out _).mono ?_
                rintro e w1 ⟨rfl, b1⟩
                have B1 := bel2 hb2 b1.below
                obtain ⟨g0, g1, g2⟩ := T3.grown (T3.below hS b1.below)
                obtain ⟨p0, p1, p2⟩ := X3.grown (X3.below hpx b1.below)
                clear b1 hS hpx
                go_wp2_with fail
                refine wp_region_quiet_grown (by kernel_rfl) (by kernel_rfl) ?_
                repeat (go_big_quiet_step ((go_at_call 84; refine Calls.grown_of (HL'.out _))))
                refine wpQuiet_nil ?_
                intro _ hw'
                obtain ⟨⟨nq, osq⟩, hw''⟩ := hw'
                subst hw''
                clear q1
                go_wp2
                go_roundw
                case rel => exact ⟨k + 1, by omega, by go_num, Lib.hid (ryUp_next hup.out HQ2.out), bel2 B1 (grB _ _)⟩
                case measure => simp [intOf]; omega
            · obtain rfl : k = 0 := by omega
              have HQ2 := Lib.hid (ryAt_yes (l := l) (k := 0) HQ.out (.inl rfl))
              go_wp2_with fail
              refine (HT'.out _).mono ?_
              rintro e w1 ⟨rfl, b1⟩
              have B1 := bel2 hb2 b1.below
              clear b1 hS
              go_wp2_with fail
              refine wp_region_quiet_grown (by kernel_rfl) (by kernel_rfl) ?_
              repeat (go_big_quiet_step ((fail)))
              refine wpQuiet_nil ?_
              intro _ hw'
              obtain ⟨⟨nq, osq⟩, hw''⟩ := hw'
              subst hw''
              go_wp2
              go_roundw
              case rel => exact ⟨0 + 1, by omega, by go_num, Lib.hid (ryUp_next hup.out HQ2.out), bel2 B1 (grB _ _)⟩
              case measure => simp [intOf]; omega
        · go_wp2
          go_ret
          obtain rfl : k = n := by omega
          exact ⟨ret_bool (by symm; exact ryB_end (by rw [← HN.out]; exact hn4) (by rw [← HN.out]; exact hup.out)), hb⟩
end Go.Proofs.Ytijmnbgmpakllaa

/-
  Lines: what they are, the terms with the least value, and the points that they tell, in the program and in the model: what each call returns.
  Conditions: the arguments are integers of Go's int.
-/
import Derived.Test.YtakamboflfkchaaGreatDoorT3
import Derived.Test.YtakamboflfkchaaGreatDoorTrop
import Derived.Laws.Cover1
namespace Go.Proofs.YtakamboflfkchaaGreatDoor
set_option linter.unusedSimpArgs false
set_option linter.unusedVariables false
open Go.ChangeShapes Go.WideShapes Go.ChangeAt Go.RowKit
open Go.Sort (grow)

/-- Is it a line. -/
def lnB (t : Tm) : Bool := finB t.1 && (finB t.2.1 && finB t.2.2)
/-- Are they the coordinates of a point to which lines are asked. -/
def lnP (x y : Int) : Bool := finB x && finB y
def lnA (t : Tm) (x y : Int) : Bool := lnB t && lnP x y
/-- The values of the terms at a point. -/
def lnV (t : Tm) (x y : Int) : List Int := [t.1 + x, t.2.1 + y, t.2.2]
def lnT (t : Tm) (x y : Int) : List Int := places (lnV t x y)
def lnTR (t : Tm) (x y : Int) : List Int := if lnA t x y = true then lnT t x y else []
def lnO (t : Tm) (x y : Int) : Bool := decide (1 < (lnT t x y).length)
def lnOR (t : Tm) (x y : Int) : Bool := lnA t x y && lnO t x y
/-- A point, if it is one. -/
def ptZ (x y n : Int) : Int := if lnP x y = true then n else 0
/-- A line, if it is one. -/
def lnR (t : Tm) : Tm := if lnB t = true then t else (0, 0, 0)
def ceB (t : Tm) : Bool := lnB t && lnP (t.2.2 - t.1) (t.2.2 - t.2.1)
def ceX (t : Tm) : Int := if ceB t = true then t.2.2 - t.1 else 0
def ceY (t : Tm) : Int := if ceB t = true then t.2.2 - t.2.1 else 0
/-- The line through two points. -/
def thL (x y u v : Int) : Tm := (lessI y v, lessI x u, lessI (x + v) (u + y))
def thB (x y u v : Int) : Bool := lnP x y && (lnP u v && lnB (thL x y u v))
def thR (x y u v : Int) : Tm := if thB x y u v = true then thL x y u v else (0, 0, 0)
/-- The point in which two lines meet. -/
def mpR (l m : Tm) : Int := lessI (l.1 + m.2.1) (m.1 + l.2.1)
def mpX (l m : Tm) : Int := lessI (l.2.1 + m.2.2) (m.2.1 + l.2.2) - mpR l m
def mpY (l m : Tm) : Int := lessI (l.1 + m.2.2) (m.1 + l.2.2) - mpR l m
def mpB (l m : Tm) : Bool := lnB l && (lnB m && lnP (mpX l m) (mpY l m))
def mpXR (l m : Tm) : Int := if mpB l m = true then mpX l m else 0
def mpYR (l m : Tm) : Int := if mpB l m = true then mpY l m else 0
/-- A line moved. -/
def mvT (t : Tm) (x y : Int) : Tm := (t.1 - x, t.2.1 - y, t.2.2)
def mvTB (t : Tm) (x y : Int) : Bool := lnA t x y && lnB (mvT t x y)
def mvTR (t : Tm) (x y : Int) : Tm := if mvTB t x y = true then mvT t x y else (0, 0, 0)
/-- Have two lines the same center. -/
def smB (s t : Tm) : Bool := decide (s.2.2 - s.1 = t.2.2 - t.1) && decide (s.2.2 - s.2.1 = t.2.2 - t.2.1)
def smO (s t : Tm) : Bool := lnB s && lnB t
def smR (s t : Tm) : Bool := smO s t && smB s t
theorem lnB_parts {t : Tm} (h : lnB t = true) : (-1000000 ≤ t.1 ∧ t.1 ≤ 1000000) ∧ (-1000000 ≤ t.2.1 ∧ t.2.1 ≤ 1000000) ∧ (-1000000 ≤ t.2.2 ∧ t.2.2 ≤ 1000000) := by
  unfold lnB at h
  simp only [Bool.and_eq_true] at h
  exact ⟨(finB_iff _).1 h.1, (finB_iff _).1 h.2.1, (finB_iff _).1 h.2.2⟩
theorem lnP_parts {x y : Int} (h : lnP x y = true) : (-1000000 ≤ x ∧ x ≤ 1000000) ∧ (-1000000 ≤ y ∧ y ≤ 1000000) := by
  unfold lnP at h
  simp only [Bool.and_eq_true] at h
  exact ⟨(finB_iff _).1 h.1, (finB_iff _).1 h.2⟩
theorem lnA_parts {t : Tm} {x y : Int} (h : lnA t x y = true) : lnB t = true ∧ lnP x y = true := by
  unfold lnA at h
  simpa only [Bool.and_eq_true] using h
theorem lnTR_yes {t : Tm} {x y : Int} (h : lnA t x y = true) : lnTR t x y = lnT t x y := if_pos h
theorem lnTR_no {t : Tm} {x y : Int} (h : lnA t x y = false) : lnTR t x y = [] := if_neg (by simp [h])
theorem lnT_len (t : Tm) (x y : Int) : (lnT t x y).length ≤ 3 := Nat.le_trans (plc_len _ _ _) (Nat.le_refl _)
theorem lnTR_le (t : Tm) (x y : Int) : (lnTR t x y).length ≤ 3 := by
  unfold lnTR; split
  · exact lnT_len _ _ _
  · simp
theorem lessI_bd {a b m : Int} (ha : -m ≤ a ∧ a ≤ m) (hb : -m ≤ b ∧ b ≤ m) : -m ≤ lessI a b ∧ lessI a b ≤ m := by
  unfold lessI; split <;> omega
theorem min_less (a b : Int) : (if b < a then b else a) = lessI a b := by unfold lessI; split <;> split <;> omega
/-- The least of three. -/
def least3 (a b c : Int) : Int := if c < (if b < a then b else a) then c else (if b < a then b else a)
theorem least3_is {a b c : Int} (ha : a < 1000000000) (hb : b < 1000000000) (hc : c < 1000000000) : leastL [a, b, c] = least3 a b c := by
  simp only [leastL, List.foldl_cons, List.foldl_nil, lessI, least3]
  split <;> split <;> split <;> (try split) <;> omega
theorem least3_le (a b c : Int) : least3 a b c ≤ a ∧ least3 a b c ≤ b ∧ least3 a b c ≤ c ∧ (least3 a b c = a ∨ least3 a b c = b ∨ least3 a b c = c) := by
  unfold least3; split <;> split <;> omega
theorem ret_iib3 {a b c d : Int} {p q : Bool} (h : a = b) (h' : c = d) (h'' : p = q) : Ending.returned (.tuple #[.int .i64 a, .int .i64 c, .bool p]) = .returned (.tuple #[.int .i64 b, .int .i64 d, .bool q]) := by rw [h, h', h'']
theorem ret_tb {s t : Tm} {p q : Bool} (h : s = t) (h' : p = q) : Ending.returned (.tuple #[tmV s, .bool p]) = .returned (.tuple #[tmV t, .bool q]) := by rw [h, h']
theorem IS.litL (w : World) (zs : List Int) (hm : zs.length ≤ 1000000) : IS (w.alloc (.cells (ints zs).toArray 3)) w.heap.size (.slice (some ⟨w.heap.size, 0, none⟩) zs.length zs.length) zs := by
  have := World.ownsRow_lit (base := w.heap.size) (e := 3) (size := 1) w (ints zs).toArray zs.length (Nat.le_refl _) (by unfold maxLen; omega) (by simp)
  unfold IS
  simpa using this
/-- Whoever only drew and made blocks of its own, and wrote into these alone: it only grew. -/
theorem Gr.of {w w' : World} (h : Below w.heap.size w w') (hd : w.drawn ≤ w'.drawn) : Gr w w' := by
  refine ⟨w'.drawn - w.drawn, w'.heap.extract w.heap.size w'.heap.size, ?_⟩
  obtain ⟨h1, h2, h3, h4, h5⟩ := h
  cases w' with
  | mk heap tape drawn os output =>
    dsimp only at h1 h2 h3 h4 h5 hd ⊢
    have hh : heap = w.heap ++ heap.extract w.heap.size heap.size := by
      apply Array.ext_getElem?
      intro i
      by_cases hi : i < w.heap.size
      · rw [h5 i hi, Array.getElem?_append_left hi]
      · rw [Array.getElem?_append_right (by omega), Array.getElem?_extract]
        split
        · congr 1; omega
        · rw [Array.getElem?_eq_none (by omega)]
    have hk : w.drawn + (drawn - w.drawn) = drawn := by omega
    have e2 : (w.drewN (drawn - w.drawn)).drawn = drawn := by
      refine Eq.trans ?_ hk
      simp [World.drewN]
    subst h1
    subst h2
    subst h3
    show World.mk heap w.tape drawn w.os w.output = World.mk (w.heap ++ heap.extract w.heap.size heap.size) w.tape (w.drewN (drawn - w.drawn)).drawn w.os w.output
    rw [e2, ← hh]
theorem Gr.drawn {w w' : World} (h : Gr w w') : w.drawn ≤ w'.drawn := by
  obtain ⟨q, os, rfl⟩ := h
  show w.drawn ≤ (w.drewN q).drawn
  simp [World.drewN]
theorem setCell_drawn (w : World) (a : Addr) (v : Value) : (w.setCell a v).drawn = w.drawn := rfl
theorem Gr.set3 {x w : World} (h : Gr x w) {g : Nat} (hg : x.heap.size ≤ g) (a b c : Value) : Gr x (((w.setCell ⟨g, 0, none⟩ a).setCell ⟨g, 1, none⟩ b).setCell ⟨g, 2, none⟩ c) :=
  Gr.of (((h.below.setCell hg _).setCell hg _).setCell hg _) h.drawn
theorem lnGood_any (t : Tm) (w : World) : Calls Tryz.prog 21 #[tmV t] w fun e w' => e = .returned (.bool (lnB t)) ∧ Gr w w' := by
  obtain ⟨a, b, c⟩ := t
  cases h1 : finB a <;> cases h2 : finB b
  all_goals
    go_enter Tryz.func21, Tryz.ntmps21
    go_wp2_with (go_at_call 47; refine (poFinite_any _ _).mono ?_; rintro e w' ⟨rfl, rfl⟩)
    go_ret
    exact ⟨ret_bool (by simp [lnB, h1, h2]), gr1 _ _⟩
theorem lnAsked_any (t : Tm) (x y : Int) (w : World) : Calls Tryz.prog 38 #[tmV t, .int .i64 x, .int .i64 y] w fun e w' => e = .returned (.bool (lnA t x y)) ∧ Gr w w' := by
  obtain ⟨a, b, c⟩ := t
  cases h1 : lnB (a, b, c) <;> cases h2 : finB x
  all_goals
    go_enter Tryz.func38, Tryz.ntmps38
    go_wp2_with fail
    refine (lnGood_any (a, b, c) _).mono ?_
    rintro e w1 ⟨rfl, g1⟩
    rw [h1]
    go_wp2_with (go_at_call 47; refine (poFinite_any _ _).mono ?_; rintro e w' ⟨rfl, rfl⟩)
    go_ret
    exact ⟨ret_bool (by simp [lnA, lnP, h1, h2]), (gr1 _ _).trans g1⟩
theorem infoLine : (Tryz.prog.info? 24).map (fun i => (i.zero, i.size, i.bytes)) = some (some (.agg #[.int .i64 0, .int .i64 0, .int .i64 0]), 3, 24) := by kernel_rfl
theorem T3.loadL {w : World} {g : Nat} {t : Tm} (h : T3 w g t) : (loadVar 24 ⟨g, 0, none⟩).run Tryz.prog w = .ok (tmV t) w := by
  obtain ⟨h1, h2, h3⟩ := h
  simp [loadVar, go_sem, h1, h2, h3]
theorem T3.resultsL {w : World} {g : Nat} {t : Tm} (h : T3 w g t) {fn : Func} {p u : Tmp} {ts : Array Value} {v : Value} (hr : fn.results = #[.cell p 24, .tmp u]) (hp : ts.getD p undef = .pointer (some ⟨g, 0, none⟩)) (hu : ts.getD u undef = v) : (Go.results fn ts).run Tryz.prog w = .ok (.tuple #[tmV t, v]) w := by
  rw [results_cell_tmp hr, hp, hu]
  rw [show (asAddr (Value.pointer (some ⟨g, 0, none⟩))).run Tryz.prog w = .ok ⟨g, 0, none⟩ w from rfl]
  simp only [Result.andThen]
  rw [T3.loadL h]
theorem T3.resultL {w : World} {g : Nat} {t : Tm} (h : T3 w g t) {fn : Func} {p : Tmp} {ts : Array Value} (hr : fn.results = #[.cell p 24]) (hp : ts.getD p undef = .pointer (some ⟨g, 0, none⟩)) : (Go.results fn ts).run Tryz.prog w = Result.ok (tmV t) w := by
  have hp' : ts[p]?.getD undef = .pointer (some ⟨g, 0, none⟩) := by simpa using hp
  have ha : (asAddr (Value.pointer (some ⟨g, 0, none⟩))).run Tryz.prog w = .ok ⟨g, 0, none⟩ w := rfl
  simp only [Go.results, hr]
  simp [Sem.run_bind, Result.andThen, hp', ha, h.loadL]
/-- A line and whether it is one. -/
def GivesL (t : Tm) (b : Bool) (w : World) (e : Ending) (w' : World) : Prop := e = .returned (.tuple #[tmV t, .bool b]) ∧ Gr w w'
theorem lnR_yes {t : Tm} (h : lnB t = true) : lnR t = t := if_pos h
theorem lnR_no {t : Tm} (h : lnB t = false) : lnR t = (0, 0, 0) := if_neg (by simp [h])
theorem ptZ_yes {x y n : Int} (h : lnP x y = true) : ptZ x y n = n := if_pos h
theorem ptZ_no {x y n : Int} (h : lnP x y = false) : ptZ x y n = 0 := if_neg (by simp [h])
theorem index_v0 (a b c : Int) (w : World) : (Instr.index 53 (.agg #[.int .i64 a, .int .i64 b, .int .i64 c]) (.int .i64 0)).run Tryz.prog w = .ok (.int .i64 a) w := by kernel_rfl
theorem index_v1 (a b c : Int) (w : World) : (Instr.index 53 (.agg #[.int .i64 a, .int .i64 b, .int .i64 c]) (.int .i64 1)).run Tryz.prog w = .ok (.int .i64 b) w := by kernel_rfl
theorem index_v2 (a b c : Int) (w : World) : (Instr.index 53 (.agg #[.int .i64 a, .int .i64 b, .int .i64 c]) (.int .i64 2)).run Tryz.prog w = .ok (.int .i64 c) w := by kernel_rfl
theorem T3.loadV {w : World} {g : Nat} {t : Tm} (h : T3 w g t) : (loadVar 53 ⟨g, 0, none⟩).run Tryz.prog w = .ok (tmV t) w := by
  obtain ⟨h1, h2, h3⟩ := h
  simp [loadVar, go_sem, h1, h2, h3]
theorem T3.resultV {w : World} {g : Nat} {t : Tm} (h : T3 w g t) {fn : Func} {p : Tmp} {ts : Array Value} (hr : fn.results = #[.cell p 53]) (hp : ts.getD p undef = .pointer (some ⟨g, 0, none⟩)) : (Go.results fn ts).run Tryz.prog w = Result.ok (tmV t) w := by
  have hp' : ts[p]?.getD undef = .pointer (some ⟨g, 0, none⟩) := by simpa using hp
  have ha : (asAddr (Value.pointer (some ⟨g, 0, none⟩))).run Tryz.prog w = .ok ⟨g, 0, none⟩ w := rfl
  simp only [Go.results, hr]
  simp [Sem.run_bind, Result.andThen, hp', ha, h.loadV]
theorem lineValuesAt_any (t : Tm) (x y : Int) (q1 : IntKind.i64.wrap (t.1 + x) = t.1 + x) (q2 : IntKind.i64.wrap (t.2.1 + y) = t.2.1 + y) (w : World) : Calls Tryz.prog 50 #[tmV t, .int .i64 x, .int .i64 y] w fun e w' => e = .returned (tmV (t.1 + x, t.2.1 + y, t.2.2)) ∧ Gr w w' := by
  obtain ⟨a, b, c⟩ := t
  dsimp only at q1 q2
  obtain ⟨p, hp⟩ : ∃ p, p = a + x := ⟨_, rfl⟩
  obtain ⟨q, hq⟩ : ∃ q, q = b + y := ⟨_, rfl⟩
  have e1 : IntKind.i64.wrap (a + x) = p := q1.trans hp.symm
  have e2 : IntKind.i64.wrap (b + y) = q := q2.trans hq.symm
  dsimp only
  rw [← hp, ← hq]
  clear hp hq q1 q2
  go_enter Tryz.func50, Tryz.ntmps50
  go_wp2
  refine bodyPost_ret (T3.resultV (t := (p, q, c)) (g := w.heap.size + 1) ?_ rfl rfl) rfl ⟨rfl, gr2 _ _ _⟩
  have := T3.new (w.alloc (.cells #[.int .i64 a, .int .i64 b, .int .i64 c] 24)) (p, q, c) 53
  rwa [World.size_alloc] at this
/-- The integers of a line are Go's. -/
def wfT (t : Tm) : Prop := IntKind.i64.wrap t.1 = t.1 ∧ IntKind.i64.wrap t.2.1 = t.2.1
theorem wfT_of {t : Tm} (h : lnB t = true) : wfT t := by
  obtain ⟨h1, h2, h3⟩ := lnB_parts h
  exact ⟨IntWalk.i64_in _ (by omega), IntWalk.i64_in _ (by omega)⟩
theorem wfT_lit {a b c : Int} (ha : (Lit.int .i64 a).wf = true) (hb : (Lit.int .i64 b).wf = true) : wfT (a, b, c) := by
  have h1 : -9223372036854775808 ≤ a ∧ a ≤ 9223372036854775807 := by simpa [Lit.wf, IntKind.min, IntKind.max, IntKind.bits, IntKind.signed] using ha
  have h2 : -9223372036854775808 ≤ b ∧ b ≤ 9223372036854775807 := by simpa [Lit.wf, IntKind.min, IntKind.max, IntKind.bits, IntKind.signed] using hb
  exact ⟨IntWalk.i64_in _ (by omega), IntWalk.i64_in _ (by omega)⟩
theorem coefficientsOf_any (t : Tm) (h : wfT t) (w : World) : Calls Tryz.prog 27 #[tmV t] w fun e w' => e = .returned (tmV t) ∧ Gr w w' := by
  obtain ⟨a, b, c⟩ := t
  obtain ⟨h1, h2⟩ := h
  dsimp only at h1 h2
  have HC := Lib.hid (fun W => show Calls Tryz.prog 50 #[tmV (a, b, c), .int .i64 0, .int .i64 0] W fun e w' => e = .returned (tmV (a, b, c)) ∧ Gr W w' by
    have := lineValuesAt_any (a, b, c) 0 0 (by simpa using h1) (by simpa using h2) W
    simpa using this)
  have h0 := B3.new (w.alloc (.cells #[.int .i64 a, .int .i64 b, .int .i64 c] 24)) (0, 0, 0) 53
  have hb := gr2 w (.cells #[.int .i64 a, .int .i64 b, .int .i64 c] 24) (.cells #[.int .i64 0, .int .i64 0, .int .i64 0] 53)
  rw [World.size_alloc] at h0
  clear h1 h2
  go_enter Tryz.func27, Tryz.ntmps27
  go_wp2_with fail
  refine (HC.out _).mono ?_
  rintro e w1 ⟨rfl, g1⟩
  obtain ⟨hc, f0, f1, f2⟩ := h0.below g1.below
  have HK := Lib.hid hc
  obtain ⟨c0, c1, c2⟩ := hc
  have hl := cell_lt c0
  have HG := Lib.hid (hb.trans g1)
  clear h0 hb g1
  go_wp2
  refine bodyPost_ret (T3.resultV (t := (a, b, c)) (g := w.heap.size + 1) (T3.stores (s := (0, 0, 0)) HK.out (a, b, c)) rfl rfl) rfl ⟨rfl, ?_⟩
  exact HG.out.set3 (by omega) _ _ _
set_option maxHeartbeats 1000000 in
set_option maxRecDepth 100000 in
theorem aboveLeast_any (t : Tm) (h : (-1000000000 < t.1 ∧ t.1 < 1000000000) ∧ (-1000000000 < t.2.1 ∧ t.2.1 < 1000000000) ∧ (-1000000000 < t.2.2 ∧ t.2.2 < 1000000000)) (w : World) :
    Calls Tryz.prog 28 #[tmV t] w fun e w' => e = .returned (tmV (t.1 - least3 t.1 t.2.1 t.2.2, t.2.1 - least3 t.1 t.2.1 t.2.2, t.2.2 - least3 t.1 t.2.1 t.2.2)) ∧ Gr w w' := by
  obtain ⟨a, b, c⟩ := t
  obtain ⟨⟨a1, a2⟩, ⟨b1, b2⟩, c1, c2⟩ := h
  dsimp only at a1 a2 b1 b2 c1 c2
  obtain ⟨m1, m2, m3, m4⟩ := least3_le a b c
  have hm := run_min_int3 (P := Tryz.prog) (w := (w.alloc (.cells #[.int .i64 a, .int .i64 b, .int .i64 c] 53)).alloc (.cells #[.int .i64 0, .int .i64 0, .int .i64 0] 53)) #[3, 3, 3] 3 .i64 .i64 .i64 a b c
  rw [show (if c < (if b < a then b else a) then c else (if b < a then b else a)) = least3 a b c from rfl] at hm
  dsimp only
  obtain ⟨m, hmm⟩ : ∃ m, m = least3 a b c := ⟨_, rfl⟩
  rw [← hmm] at m1 m2 m3 m4 hm ⊢
  clear hmm
  have q1 : IntKind.i64.wrap (a - m) = a - m := IntWalk.i64_in _ (by omega)
  have q2 : IntKind.i64.wrap (b - m) = b - m := IntWalk.i64_in _ (by omega)
  have q3 : IntKind.i64.wrap (c - m) = c - m := IntWalk.i64_in _ (by omega)
  clear m1 m2 m3 m4 a1 a2 b1 b2 c1 c2
  go_enter Tryz.func28, Tryz.ntmps28
  go_wp2
  go_rounds 4
  refine bodyPost_ret (T3.resultV (t := (a - m, b - m, c - m)) (g := w.heap.size + 1) ?_ rfl rfl) rfl ⟨rfl, gr2 _ _ _⟩
  have := T3.new (w.alloc (.cells #[.int .i64 (a - m), .int .i64 (b - m), .int .i64 (c - m)] 53)) (a - m, b - m, c - m) 53
  rwa [World.size_alloc] at this
set_option maxRecDepth 100000 in
theorem implIsLine_any (t : Tm) (h : wfT t) (w : World) : Calls Tryz.prog 11 #[tmV t] w fun e w' => e = .returned (.bool (lnB t)) ∧ Gr w w' := by
  have HC := Lib.hid (fun W => coefficientsOf_any t h W)
  obtain ⟨a, b, c⟩ := t
  have HF0 := Lib.hid (fun W => isFin_any a W)
  have HF1 := Lib.hid (fun W => isFin_any b W)
  have HF2 := Lib.hid (fun W => isFin_any c W)
  have HR := Lib.hid (show lnB (a, b, c) = (finB a && (finB b && finB c)) from rfl)
  rw [HR.out]
  clear h HR
  have i0 := index_v0 a b c
  have i1 := index_v1 a b c
  have i2 := index_v2 a b c
  cases h1 : finB a
  · rw [h1] at HF0
    clear h1
    go_enter Tryz.func11, Tryz.ntmps11
    go_wp2_with fail
    refine (HC.out _).mono ?_
    rintro e w1 ⟨rfl, g1⟩
    have HG := Lib.hid ((gr1 _ _).trans g1)
    clear g1
    go_wp2_with fail
    refine wp_loop_rounds 4 ?_
    rw [rounds_succ]
    go_wp2_with fail
    refine (HF0.out _).mono ?_
    rintro e w' ⟨rfl, rfl⟩
    go_wp2
    go_ret
    exact ⟨rfl, HG.out⟩
  · rw [h1] at HF0
    clear h1
    cases h2 : finB b
    · rw [h2] at HF1
      clear h2
      go_enter Tryz.func11, Tryz.ntmps11
      go_wp2_with fail
      refine (HC.out _).mono ?_
      rintro e w1 ⟨rfl, g1⟩
      have HG := Lib.hid ((gr1 _ _).trans g1)
      clear g1
      go_wp2_with fail
      refine wp_loop_rounds 4 ?_
      rw [rounds_succ]
      go_wp2_with fail
      refine (HF0.out _).mono ?_
      rintro e w' ⟨rfl, rfl⟩
      go_wp2_with fail
      rw [rounds_succ]
      go_wp2_with fail
      refine (HF1.out _).mono ?_
      rintro e w' ⟨rfl, rfl⟩
      go_wp2
      go_ret
      exact ⟨rfl, HG.out⟩
    · rw [h2] at HF1
      clear h2
      cases h3 : finB c
      · rw [h3] at HF2
        clear h3
        go_enter Tryz.func11, Tryz.ntmps11
        go_wp2_with fail
        refine (HC.out _).mono ?_
        rintro e w1 ⟨rfl, g1⟩
        have HG := Lib.hid ((gr1 _ _).trans g1)
        clear g1
        go_wp2_with fail
        refine wp_loop_rounds 4 ?_
        rw [rounds_succ]
        go_wp2_with fail
        refine (HF0.out _).mono ?_
        rintro e w' ⟨rfl, rfl⟩
        go_wp2_with fail
        rw [rounds_succ]
        go_wp2_with fail
        refine (HF1.out _).mono ?_
        rintro e w' ⟨rfl, rfl⟩
        go_wp2_with fail
        rw [rounds_succ]
        go_wp2_with fail
        refine (HF2.out _).mono ?_
        rintro e w' ⟨rfl, rfl⟩
        go_wp2
        go_ret
        exact ⟨rfl, HG.out⟩
      · rw [h3] at HF2
        clear h3
        go_enter Tryz.func11, Tryz.ntmps11
        go_wp2_with fail
        refine (HC.out _).mono ?_
        rintro e w1 ⟨rfl, g1⟩
        have HG := Lib.hid ((gr1 _ _).trans g1)
        clear g1
        go_wp2_with fail
        refine wp_loop_rounds 4 ?_
        rw [rounds_succ]
        go_wp2_with fail
        refine (HF0.out _).mono ?_
        rintro e w' ⟨rfl, rfl⟩
        go_wp2_with fail
        rw [rounds_succ]
        go_wp2_with fail
        refine (HF1.out _).mono ?_
        rintro e w' ⟨rfl, rfl⟩
        go_wp2_with fail
        rw [rounds_succ]
        go_wp2_with fail
        refine (HF2.out _).mono ?_
        rintro e w' ⟨rfl, rfl⟩
        go_wp2_with fail
        rw [rounds_succ]
        go_wp2
        go_ret
        exact ⟨rfl, HG.out⟩
theorem arePlace_any (x y : Int) (w : World) : Calls Tryz.prog 49 #[.int .i64 x, .int .i64 y] w fun e w' => e = .returned (.bool (lnP x y)) ∧ w = w' := by
  cases h1 : finB x
  all_goals
    go_enter Tryz.func49, Tryz.ntmps49
    go_wp2_with (go_at_call 32; refine (isFin_any _ _).mono ?_; rintro e w' ⟨rfl, rfl⟩)
    go_ret
    exact ⟨ret_bool (by simp [lnP, h1]), rfl⟩
theorem placeOrNone_any (x y : Int) (w : World) : Calls Tryz.prog 24 #[.int .i64 x, .int .i64 y] w fun e w' => e = .returned (.tuple #[.int .i64 (ptZ x y x), .int .i64 (ptZ x y y), .bool (lnP x y)]) ∧ w = w' := by
  cases h1 : lnP x y
  · rw [ptZ_no h1, ptZ_no h1]
    go_enter Tryz.func24, Tryz.ntmps24
    go_wp2_with (go_at_call 49; refine (arePlace_any _ _ _).mono ?_; rintro e w' ⟨rfl, rfl⟩)
    go_ret3
    exact ⟨rfl, rfl⟩
  · rw [ptZ_yes h1, ptZ_yes h1]
    go_enter Tryz.func24, Tryz.ntmps24
    go_wp2_with (go_at_call 49; refine (arePlace_any _ _ _).mono ?_; rintro e w' ⟨rfl, rfl⟩)
    go_ret3
    exact ⟨rfl, rfl⟩
theorem lnPoint_any (x y : Int) (w : World) : Calls Tryz.prog 26 #[.int .i64 x, .int .i64 y] w fun e w' => e = .returned (.tuple #[.int .i64 (ptZ x y x), .int .i64 (ptZ x y y), .bool (lnP x y)]) ∧ w = w' := by
  cases h1 : finB x <;> cases h2 : finB y
  all_goals
    have h3 : lnP x y = (finB x && finB y) := rfl
    rw [h1, h2] at h3
    first | rw [ptZ_yes h3, ptZ_yes h3] | rw [ptZ_no h3, ptZ_no h3]
    rw [h3]
    go_enter Tryz.func26, Tryz.ntmps26
    go_wp2_with (go_at_call 47; refine (poFinite_any _ _).mono ?_; rintro e w' ⟨rfl, rfl⟩)
    go_ret3
    exact ⟨rfl, rfl⟩
theorem gr_box2 (w : World) (t s : Tm) (T U : TypeId) : Gr w ((w.alloc (.cells #[.int .i64 t.1, .int .i64 t.2.1, .int .i64 t.2.2] T)).alloc (.cells #[.int .i64 s.1, .int .i64 s.2.1, .int .i64 s.2.2] U)) := gr2 _ _ _
theorem lnIf_any (t : Tm) (w : World) : Calls Tryz.prog 39 #[tmV t] w fun e w' => GivesL (lnR t) (lnB t) w e w' := by
  have HI := Lib.hid (fun W => lnGood_any t W)
  have HS := Lib.hid (S6.new w t (0, 0, 0) 24 24)
  have HZ := Lib.hid ((B3.new (w.alloc (.cells #[.int .i64 t.1, .int .i64 t.2.1, .int .i64 t.2.2] 24)) (0, 0, 0) 24))
  have HB := Lib.hid (gr_box2 w t (0, 0, 0) 24 24)
  obtain ⟨p, hp⟩ : ∃ p, p = lnB t := ⟨_, rfl⟩
  rw [← hp] at HI ⊢
  cases p
  · rw [lnR_no hp.symm]
    obtain ⟨a, b, c⟩ := t
    clear hp
    go_enter Tryz.func39, Tryz.ntmps39
    go_wp2_with fail
    refine (HI.out _).mono ?_
    rintro e w1 ⟨rfl, g1⟩
    obtain ⟨hc, f0, f1, f2⟩ := HZ.out.below g1.below
    rw [World.size_alloc] at hc f0 f1 f2
    have HK := Lib.hid hc
    obtain ⟨c0, c1, c2⟩ := hc
    have hl := cell_lt c0
    have HG := Lib.hid (HB.out.trans g1)
    clear g1
    go_wp2
    refine bodyPost_ret (T3.resultsL (t := (0, 0, 0)) (g := w.heap.size + 1) (T3.stores (s := (0, 0, 0)) HK.out (0, 0, 0)) rfl rfl rfl) rfl ⟨rfl, ?_⟩
    exact HG.out.set3 (by omega) _ _ _
  · rw [lnR_yes hp.symm]
    obtain ⟨a, b, c⟩ := t
    clear hp
    go_enter Tryz.func39, Tryz.ntmps39
    go_wp2_with fail
    refine (HI.out _).mono ?_
    rintro e w1 ⟨rfl, g1⟩
    obtain ⟨hc, f0, f1, f2⟩ := HZ.out.below g1.below
    rw [World.size_alloc] at hc f0 f1 f2
    have HK := Lib.hid hc
    obtain ⟨d0, d1, d2, c0, c1, c2⟩ := HS.out.below g1.below
    have hl := cell_lt c0
    have hl' := cell_lt d0
    have HG := Lib.hid (HB.out.trans g1)
    clear g1 hc
    go_wp2
    refine bodyPost_ret (T3.resultsL (t := (a, b, c)) (g := w.heap.size + 1) (T3.stores (s := (0, 0, 0)) HK.out (a, b, c)) rfl rfl rfl) rfl ⟨rfl, ?_⟩
    exact HG.out.set3 (by omega) _ _ _
theorem lineOrNone_any (t : Tm) (hw : wfT t) (w : World) : Calls Tryz.prog 36 #[tmV t] w fun e w' => GivesL (lnR t) (lnB t) w e w' := by
  have HI := Lib.hid (fun W => implIsLine_any t hw W)
  have HS := Lib.hid (S6.new w t (0, 0, 0) 24 24)
  have HZ := Lib.hid ((B3.new (w.alloc (.cells #[.int .i64 t.1, .int .i64 t.2.1, .int .i64 t.2.2] 24)) (0, 0, 0) 24))
  have HB := Lib.hid (gr_box2 w t (0, 0, 0) 24 24)
  obtain ⟨p, hp⟩ : ∃ p, p = lnB t := ⟨_, rfl⟩
  rw [← hp] at HI ⊢
  cases p
  · rw [lnR_no hp.symm]
    obtain ⟨a, b, c⟩ := t
    clear hp hw
    go_enter Tryz.func36, Tryz.ntmps36
    go_wp2_with fail
    refine (HI.out _).mono ?_
    rintro e w1 ⟨rfl, g1⟩
    obtain ⟨hc, f0, f1, f2⟩ := HZ.out.below g1.below
    rw [World.size_alloc] at hc f0 f1 f2
    have HK := Lib.hid hc
    obtain ⟨c0, c1, c2⟩ := hc
    have hl := cell_lt c0
    have HG := Lib.hid (HB.out.trans g1)
    clear g1
    go_wp2
    refine bodyPost_ret (T3.resultsL (t := (0, 0, 0)) (g := w.heap.size + 1) (T3.stores (s := (0, 0, 0)) HK.out (0, 0, 0)) rfl rfl rfl) rfl ⟨rfl, ?_⟩
    exact HG.out.set3 (by omega) _ _ _
  · rw [lnR_yes hp.symm]
    obtain ⟨a, b, c⟩ := t
    clear hp hw
    go_enter Tryz.func36, Tryz.ntmps36
    go_wp2_with fail
    refine (HI.out _).mono ?_
    rintro e w1 ⟨rfl, g1⟩
    obtain ⟨hc, f0, f1, f2⟩ := HZ.out.below g1.below
    rw [World.size_alloc] at hc f0 f1 f2
    have HK := Lib.hid hc
    obtain ⟨d0, d1, d2, c0, c1, c2⟩ := HS.out.below g1.below
    have hl := cell_lt c0
    have hl' := cell_lt d0
    have HG := Lib.hid (HB.out.trans g1)
    clear g1 hc
    go_wp2
    refine bodyPost_ret (T3.resultsL (t := (a, b, c)) (g := w.heap.size + 1) (T3.stores (s := (0, 0, 0)) HK.out (a, b, c)) rfl rfl rfl) rfl ⟨rfl, ?_⟩
    exact HG.out.set3 (by omega) _ _ _
end Go.Proofs.YtakamboflfkchaaGreatDoor

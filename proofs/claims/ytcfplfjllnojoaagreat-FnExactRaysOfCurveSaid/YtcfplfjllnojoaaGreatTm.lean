/-
  Terms of polynomials in two unknowns, as values and in rows; their tests, orders and values in the program and in the model: what each call returns.
  Conditions: the slice reads as the list that is named; exponents and coefficients of values are those of a term.
-/
import Derived.Test.YtcfplfjllnojoaaGreatPlN
import Derived.Test.YtcfplfjllnojoaaGreatRow
import Derived.Test.YtcfplfjllnojoaaGreatT3
import Derived.Test.YtcfplfjllnojoaaGreatCmp
import Derived.Test.YtcfplfjllnojoaaGreatPolyM
import Derived.StillTailTactics
import Derived.Laws.StructEq
import Derived.Deep.RegionHeld3
import Derived.Deep.DeepCutAuto
namespace Go.Proofs.YtcfplfjllnojoaaGreat
set_option linter.unusedSimpArgs false
set_option linter.unusedVariables false
open Go.ChangeShapes Go.WideShapes Go.ChangeAt Go.RowKit
open Go.Sort (grow)

theorem infoTerm : (Tryz.prog.info? 42).map (fun i => (i.zero, i.size, i.bytes)) = some (some (.agg #[.int .i64 0, .int .i64 0, .int .i64 0]), 3, 24) := by kernel_rfl
/-- The slice value v is of this call's own and reads as a list of terms. -/
abbrev TmS (w : World) (B : Nat) (v : Value) (l : List Tm) : Prop := FS 42 3 w B v l.length (flatT l)
def GivesTm (l : List Tm) (w : World) (e : Ending) (w' : World) : Prop := ∃ r, e = .returned r ∧ TmS w' w.heap.size r l ∧ Below w.heap.size w w'
def GivesTmB (ok : Bool) (l : List Tm) (w : World) (e : Ending) (w' : World) : Prop := ∃ r, e = .returned (.tuple #[r, .bool ok]) ∧ TmS w' w.heap.size r l ∧ Below w.heap.size w w'
theorem givesTmB_nil {ok : Bool} {l : List Tm} {w w' : World} (h1 : ok = false) (h2 : l = []) (hb : Below w.heap.size w w') : GivesTmB ok l w (.returned (.tuple #[.slice none 0 0, .bool false])) w' := by
  subst h1; subst h2; exact ⟨_, rfl, FS.nil_ _ _ _ _, hb⟩
theorem givesTmB_yes {ok : Bool} {l : List Tm} {r : Value} {w w' : World} (h1 : ok = true) (h2 : TmS w' w.heap.size r l) (hb : Below w.heap.size w w') : GivesTmB ok l w (.returned (.tuple #[r, .bool true])) w' := by
  subst h1; exact ⟨_, rfl, h2, hb⟩
theorem TmS.parts {w : World} {B : Nat} {v : Value} {l : List Tm} (h : TmS w B v l) : ∃ A cap, v = .slice A l.length cap ∧ l.length ≤ maxLen ∧ ∀ k, k < l.length → ∃ g, A = some ⟨g, 0, none⟩ ∧ X3 w g (k * 3) (td l k) := by
  obtain ⟨A, cap, rfl, hm, hp⟩ := FS.parts h
  refine ⟨A, cap, rfl, hm, fun k hk => ?_⟩
  obtain ⟨g, rfl, c0⟩ := hp (k * 3) (by omega)
  obtain ⟨g', hg, c1⟩ := hp (k * 3 + 1) (by omega)
  cases hg
  obtain ⟨g', hg, c2⟩ := hp (k * 3 + 2) (by omega)
  cases hg
  obtain ⟨e0, e1, e2⟩ := flatT_gd hk
  rw [e0] at c0
  rw [e1] at c1
  rw [e2] at c2
  exact ⟨g, rfl, c0, c1, c2⟩
theorem plTerm_any (t : Tm) (w : World) : Calls Tryz.prog 31 #[tmV t] w fun e w' => e = .returned (.bool (plT t)) ∧ Gr w w' := by
  obtain ⟨a, b, c⟩ := t
  cases h1 : inB a 0 6
  · go_enter Tryz.func31, Tryz.ntmps31
    go_wp2_with (go_at_call 33; refine (l1In_any _ _ _ _).mono ?_; rintro e w' ⟨rfl, rfl⟩)
    go_ret
    exact ⟨ret_bool (by simp [plT, h1]), gr1 _ _⟩
  · have ha := (inB_iff _ _ _).1 h1
    have q : IntKind.i64.wrap (6 - a) = 6 - a := IntWalk.i64_in _ (by omega)
    have H1 := Lib.hid h1
    cases h2 : inB b 0 (6 - a)
    · have H2 := Lib.hid h2
      go_enter Tryz.func31, Tryz.ntmps31
      go_wp2_with (go_at_call 33; refine (l1In_any _ _ _ _).mono ?_; rintro e w' ⟨rfl, rfl⟩)
      go_ret
      exact ⟨ret_bool (by simp [plT, H1.out, H2.out]), gr1 _ _⟩
    · have H2 := Lib.hid h2
      go_enter Tryz.func31, Tryz.ntmps31
      go_wp2_with (first | (go_at_call 33; refine (l1In_any _ _ _ _).mono ?_; rintro e w' ⟨rfl, rfl⟩) | (go_at_call 52; refine (poFinite_any _ _).mono ?_; rintro e w' ⟨rfl, rfl⟩))
      go_ret
      exact ⟨ret_bool (by simp [plT, H1.out, H2.out]), gr1 _ _⟩
theorem plBefore_any (s t : Tm) (w : World) : Calls Tryz.prog 32 #[tmV s, tmV t] w fun e w' => e = .returned (.bool (plLt s t)) ∧ Gr w w' := by
  obtain ⟨a, b, c⟩ := s
  obtain ⟨a', b', c'⟩ := t
  by_cases h1 : a < a'
  · go_enter Tryz.func32, Tryz.ntmps32
    go_wp2
    go_ret
    exact ⟨ret_bool (by simp [plLt, h1]), gr2 _ _ _⟩
  · by_cases h2 : a = a'
    · subst h2
      by_cases h3 : b < b'
      · go_enter Tryz.func32, Tryz.ntmps32
        go_wp2
        go_ret
        exact ⟨ret_bool (by simp [plLt, h3]), gr2 _ _ _⟩
      · go_enter Tryz.func32, Tryz.ntmps32
        go_wp2
        go_ret
        exact ⟨ret_bool (by simp [plLt, h3]), gr2 _ _ _⟩
    · go_enter Tryz.func32, Tryz.ntmps32
      go_wp2
      go_ret
      exact ⟨ret_bool (by simp [plLt, h1, h2]), gr2 _ _ _⟩
theorem isTerm_any (t : Tm) (w : World) : Calls Tryz.prog 60 #[tmV t] w fun e w' => e = .returned (.bool (plT t)) ∧ Gr w w' := by
  obtain ⟨a, b, c⟩ := t
  by_cases h1 : a < 0
  · go_enter Tryz.func60, Tryz.ntmps60
    go_wp2
    go_ret
    exact ⟨ret_bool (by symm; rw [← Bool.not_eq_true]; intro h; have := plT_parts h; simp at this; omega), gr1 _ _⟩
  · by_cases h2 : 6 < a
    · go_enter Tryz.func60, Tryz.ntmps60
      go_wp2
      go_ret
      exact ⟨ret_bool (by symm; rw [← Bool.not_eq_true]; intro h; have := plT_parts h; simp at this; omega), gr1 _ _⟩
    · by_cases h3 : b < 0
      · go_enter Tryz.func60, Tryz.ntmps60
        go_wp2
        go_ret
        exact ⟨ret_bool (by symm; rw [← Bool.not_eq_true]; intro h; have := plT_parts h; simp at this; omega), gr1 _ _⟩
      · by_cases h4 : 6 < b
        · go_enter Tryz.func60, Tryz.ntmps60
          go_wp2
          go_ret
          exact ⟨ret_bool (by symm; rw [← Bool.not_eq_true]; intro h; have := plT_parts h; simp at this; omega), gr1 _ _⟩
        · have q : IntKind.i64.wrap (a + b) = a + b := IntWalk.i64_in _ (by omega)
          by_cases h5 : 6 < a + b
          · go_enter Tryz.func60, Tryz.ntmps60
            go_wp2
            go_ret
            exact ⟨ret_bool (by symm; rw [← Bool.not_eq_true]; intro h; have := plT_parts h; simp at this; omega), gr1 _ _⟩
          · have HR := Lib.hid (show plT (a, b, c) = finB c by unfold plT; rw [(inB_iff _ _ _).2 (show (0 : Int) ≤ (a, b, c).1 ∧ (a, b, c).1 ≤ 6 by simp; omega), (inB_iff _ _ _).2 (show (0 : Int) ≤ (a, b, c).2.1 ∧ (a, b, c).2.1 ≤ 6 - (a, b, c).1 by simp; omega)]; rfl)
            rw [HR.out]
            go_enter Tryz.func60, Tryz.ntmps60
            go_wp2_with (go_at_call 90; refine (isFin_any _ _).mono ?_; rintro e w' ⟨rfl, rfl⟩)
            go_ret
            exact ⟨rfl, gr1 _ _⟩
/-- A term without its coefficient. -/
def woT (t : Tm) : Tm := (t.1, t.2.1, 0)
/-- How terms are compared. -/
def cmpT (s t : Tm) : Int := orL [cmI s.1 t.1, cmI s.2.1 t.2.1, cmI s.2.2 t.2.2]
theorem cmpT_lt (s t : Tm) : cmpT s t < 0 ↔ s.1 < t.1 ∨ (s.1 = t.1 ∧ (s.2.1 < t.2.1 ∨ (s.2.1 = t.2.1 ∧ s.2.2 < t.2.2))) := by
  unfold cmpT cmI
  simp only [orL]
  by_cases h1 : s.1 < t.1 <;> by_cases h2 : t.1 < s.1 <;> by_cases h3 : s.2.1 < t.2.1 <;> by_cases h4 : t.2.1 < s.2.1 <;> by_cases h5 : s.2.2 < t.2.2 <;> by_cases h6 : t.2.2 < s.2.2 <;> simp only [h1, h2, h3, h4, h5, h6, if_true, if_false] <;> simp <;> omega
theorem cmpT_wo (s t : Tm) : cmpT (woT s) (woT t) < 0 ↔ plLt s t = true := by
  rw [cmpT_lt, plLt_iff]; unfold woT; simp
end Go.Proofs.YtcfplfjllnojoaaGreat
/-
  How terms are compared: what the call returns.
  No condition.
-/
namespace Go.Proofs.YtcfplfjllnojoaaGreat
set_option linter.unusedSimpArgs false
set_option linter.unusedVariables false
open Go.ChangeShapes Go.WideShapes Go.ChangeAt Go.RowKit
open Go.Sort (grow)

theorem IS.drew {w : World} {B : Nat} {v : Value} {zs : List Int} (h : IS w B v zs) : IS w.drew B v zs := h
theorem IS.lit3 (w : World) (x y z : Int) : IS (w.alloc (.cells #[.int .i64 x, .int .i64 y, .int .i64 z] 3)) w.heap.size (.slice (some ⟨w.heap.size, 0, none⟩) 3 3) [x, y, z] :=
  World.ownsRow_lit w #[.int .i64 x, .int .i64 y, .int .i64 z] 3 (Nat.le_refl _) (by decide) rfl
set_option maxHeartbeats 1000000 in
set_option maxRecDepth 100000 in
theorem compareTerms_any (s t : Tm) (w : World) : Calls Tryz.prog 61 #[tmV s, tmV t] w fun e w' => e = .returned (.int .i64 (cmpT s t)) ∧ Gr w w' := by
  have hS := S6.new w s t 42 42
  obtain ⟨a, b, c⟩ := s
  obtain ⟨a', b', c'⟩ := t
  have H := fun (W : World) (n : Nat) (hn : n = W.heap.size) => show Calls Tryz.prog 91 #[.slice (some ⟨n, 0, none⟩) 3 3] (W.alloc (.cells #[.int .i64 (cmI a a'), .int .i64 (cmI b b'), .int .i64 (cmI c c')] 3)).drew fun e w' => e = .returned (.int .i64 (orL [cmI a a', cmI b b', cmI c c'])) ∧ (W.alloc (.cells #[.int .i64 (cmI a a'), .int .i64 (cmI b b'), .int .i64 (cmI c c')] 3)).drew = w' by
    subst hn
    exact or_any _ _ _ _ (IS.drew (IS.lit3 W _ _ _))
  have HE := Lib.hid (show cmpT (a, b, c) (a', b', c') = orL [cmI a a', cmI b b', cmI c c'] from rfl)
  have HC := Lib.hid (fun a b W => compare_any a b W)
  rw [HE.out]
  obtain ⟨o, ho⟩ : ∃ o, o = orL [cmI a a', cmI b b', cmI c c'] := ⟨_, rfl⟩
  rw [← ho] at H ⊢
  have HO := Lib.hid (H ((w.alloc (.cells #[.int .i64 a, .int .i64 b, .int .i64 c] 42)).alloc (.cells #[.int .i64 a', .int .i64 b', .int .i64 c'] 42)) (w.heap.size + 1 + 1) (by rw [World.size_alloc, World.size_alloc]))
  clear ho H HE
  go_enter Tryz.func61, Tryz.ntmps61
  go_wp2
  go_region_held3 (fun w' => S6 w' w.heap.size (w.heap.size + 1) (a, b, c) (a', b', c')) (repeat' (first | with_reducible assumption | with_reducible refine S6.drew ?_ | with_reducible refine S6.drewN ?_ _ | with_reducible refine S6.alloc ?_ _)) (first | (go_at_call 51; refine (HC.out _ _ _).mono ?_; rintro e w' ⟨rfl, rfl⟩) | (go_at_call 91; refine HO.out.mono ?_; rintro e w' ⟨rfl, rfl⟩))
  go_wp2
  go_ret
  exact ⟨rfl, 1, _, by rw [Sort.alloc_eq_grow, Sort.alloc_eq_grow, Sort.alloc_eq_grow, Sort.grow_grow, Sort.grow_grow]; rfl⟩
theorem T3.load {w : World} {g : Nat} {t : Tm} (h : T3 w g t) : (loadVar 42 ⟨g, 0, none⟩).run Tryz.prog w = .ok (tmV t) w := by
  obtain ⟨h1, h2, h3⟩ := h
  simp [loadVar, go_sem, h1, h2, h3]
theorem T3.result {w : World} {g : Nat} {t : Tm} (h : T3 w g t) {fn : Func} {p : Tmp} {ts : Array Value} (hr : fn.results = #[.cell p 42]) (hp : ts.getD p undef = .pointer (some ⟨g, 0, none⟩)) : (Go.results fn ts).run Tryz.prog w = Result.ok (tmV t) w := by
  have hp' : ts[p]?.getD undef = .pointer (some ⟨g, 0, none⟩) := by simpa using hp
  have ha : (asAddr (Value.pointer (some ⟨g, 0, none⟩))).run Tryz.prog w = .ok ⟨g, 0, none⟩ w := rfl
  simp only [Go.results, hr]
  simp [Sem.run_bind, Result.andThen, hp', ha, h.load]
set_option maxHeartbeats 400000 in
theorem without_any (t : Tm) (w : World) : Calls Tryz.prog 62 #[tmV t] w fun e w' => e = .returned (tmV (woT t)) ∧ Gr w w' := by
  obtain ⟨a, b, c⟩ := t
  go_enter Tryz.func62, Tryz.ntmps62
  go_wp2
  refine bodyPost_ret (T3.result (t := (a, b, 0)) (g := w.heap.size + 1) ?_ rfl rfl) rfl ⟨rfl, gr2 _ _ _⟩
  have := T3.new (w.alloc (.cells #[.int .i64 a, .int .i64 b, .int .i64 0] 42)) (a, b, 0) 42
  rwa [World.size_alloc] at this
end Go.Proofs.YtcfplfjllnojoaaGreat
/-
  Is a list a plane polynomial: what the program's and the model's calls return.
  Condition: the slice reads as the list that is named.
-/
namespace Go.Proofs.YtcfplfjllnojoaaGreat
set_option linter.unusedSimpArgs false
set_option linter.unusedVariables false
open Go.ChangeShapes Go.WideShapes Go.ChangeAt Go.RowKit
open Go.Sort (grow)

theorem plAt_no1 {l : List Tm} {k : Nat} (h : plT (td l k) = false) : plAt l k = false := by simp [plAt, h]
theorem plAt_no2 {l : List Tm} {k : Nat} (h0 : 0 < k) (h : plLt (td l (k - 1)) (td l k) = false) : plAt l k = false := by
  unfold plAt; rw [h, decide_eq_false (by omega)]; simp
theorem plAt_yes {l : List Tm} {k : Nat} (h : plT (td l k) = true) (h' : k = 0 ∨ plLt (td l (k - 1)) (td l k) = true) : plAt l k = true := by
  unfold plAt
  rcases h' with rfl | h' <;> simp [h, *]
theorem plUp_next {l : List Tm} {k : Nat} (h : plUp l k = true) (h' : plAt l k = true) : plUp l (k + 1) = true := by simp [plUp, h, h']
set_option maxHeartbeats 1000000 in
set_option maxRecDepth 100000 in
theorem plGood_any (w : World) (B : Nat) (v : Value) (l : List Tm) (h : TmS w B v l) : Calls Tryz.prog 13 #[v] w fun e w' => e = .returned (.bool (plB l)) ∧ Below w.heap.size w w' := by
  obtain ⟨A, cap, rfl, hm, hp⟩ := TmS.parts h
  have HP := Lib.hid hp
  obtain ⟨n, hn⟩ : ∃ n, n = l.length := ⟨_, rfl⟩
  have HN := Lib.hid hn
  rw [← hn] at hm ⊢
  unfold maxLen at hm
  have HT := Lib.hid (fun t W => plTerm_any t W)
  have HL := Lib.hid (fun s t W => plBefore_any s t W)
  clear hp h hn
  go_enter Tryz.func13, Tryz.ntmps13
  go_wp2
  go_loopw [7] (fun i wr => ∃ k : Nat, k ≤ n ∧ i = .int .i64 k ∧ Hid (plUp l k = true) ∧ Below w.heap.size w wr) (fun i _ => n - (intOf i).toNat)
  case atStart => exact ⟨0, by omega, rfl, Lib.hid rfl, Below.refl _ _⟩
  case round =>
    obtain ⟨k, hk, rfl, hup, hb⟩ := hrel
    by_cases hlt : k < n
    · obtain ⟨g, rfl, hc0⟩ := HP.out k (by rw [← HN.out]; exact hlt)
      have hc := X3.below hc0 hb
      have HX := Lib.hid hc
      have hb2 := hb.alloc hb.size (.cells #[.int .i64 (td l k).1, .int .i64 (td l k).2.1, .int .i64 (td l k).2.2] 42)
      have hS := T3.new wr (td l k) 42
      have hs : wr.heap.size < (wr.alloc (.cells #[.int .i64 (td l k).1, .int .i64 (td l k).2.1, .int .i64 (td l k).2.2] 42)).heap.size := cell_lt hS.1
      obtain ⟨c0, c1, c2⟩ := hc
      clear hc0
      cases hq : plT (td l k)
      · have HQ := Lib.hid (plAt_no1 (l := l) (k := k) hq)
        have HT' := Lib.hid (fun W => show Calls Tryz.prog 31 #[tmV (td l k)] W fun e w' => e = .returned (.bool false) ∧ Gr W w' by rw [← hq]; exact HT.out (td l k) W)
        clear hq
        go_wp2
        generalize wr.alloc (.cells #[.int .i64 (td l k).1, .int .i64 (td l k).2.1, .int .i64 (td l k).2.2] 42) = W0 at hS hb2 hs ⊢
        obtain ⟨g0, g1, g2⟩ := T3.grown hS
        refine wp_region_quiet_grown (by kernel_rfl) (by kernel_rfl) ?_
        repeat (go_big_quiet_step (first | (go_at_call 31; refine Calls.grown_of (HT'.out _))))
        refine wpQuiet_nil ?_
        intro _ hw'
        obtain ⟨⟨nq, osq⟩, hw''⟩ := hw'
        subst hw''
        go_wp2
        go_ret
        exact ⟨ret_bool (by symm; exact plB_bad (by rw [← HN.out]; exact hlt) HQ.out), bel2 hb2 (grB _ _)⟩
      · have HQ := Lib.hid hq
        have HT' := Lib.hid (fun W => show Calls Tryz.prog 31 #[tmV (td l k)] W fun e w' => e = .returned (.bool true) ∧ Gr W w' by rw [← hq]; exact HT.out (td l k) W)
        clear hq
        by_cases h0 : 0 < k
        · have hd : (0 : Int) < (k : Int) := by omega
          obtain ⟨g', hg', hp0⟩ := HP.out (k - 1) (by rw [← HN.out]; omega)
          cases hg'
          have hpx := X3.below (X3.below hp0 hb) ((Below.refl _ _).alloc (Nat.le_refl _) (.cells #[.int .i64 (td l k).1, .int .i64 (td l k).2.1, .int .i64 (td l k).2.2] 42))
          have q1 : IntKind.i64.wrap ((k : Int) - 1) = ((k - 1 : Nat) : Int) := by rw [IntWalk.i64_in _ (by omega)]; omega
          have l1 : k - 1 < n := by omega
          have z1 : ((k - 1 : Nat) : Int) < (n : Int) := by omega
          have z2 : (0 : Int) ≤ ((k - 1 : Nat) : Int) := by omega
          clear hp0
          cases hl : plLt (td l (k - 1)) (td l k)
          · have HQ2 := Lib.hid (plAt_no2 (l := l) (k := k) h0 hl)
            have HL' := Lib.hid (fun W => show Calls Tryz.prog 32 #[tmV (td l (k - 1)), tmV (td l k)] W fun e w' => e = .returned (.bool false) ∧ Gr W w' by rw [← hl]; exact HL.out _ _ W)
            clear hl
            go_wp2
            generalize wr.alloc (.cells #[.int .i64 (td l k).1, .int .i64 (td l k).2.1, .int .i64 (td l k).2.2] 42) = W0 at hS hb2 hs hpx ⊢
            obtain ⟨g0, g1, g2⟩ := T3.grown hS
            obtain ⟨p0, p1, p2⟩ := X3.grown hpx
            refine wp_region_quiet_grown (by kernel_rfl) (by kernel_rfl) ?_
            repeat (go_big_quiet_step (first | (go_at_call 31; refine Calls.grown_of (HT'.out _)) | (go_at_call 32; refine Calls.grown_of (HL'.out _))))
            refine wpQuiet_nil ?_
            intro _ hw'
            obtain ⟨⟨nq, osq⟩, hw''⟩ := hw'
            subst hw''
            go_wp2
            go_ret
            exact ⟨ret_bool (by symm; exact plB_bad (by rw [← HN.out]; exact hlt) HQ2.out), bel2 hb2 (grB _ _)⟩
          · have HQ2 := Lib.hid (plAt_yes (l := l) (k := k) HQ.out (.inr hl))
            have HL' := Lib.hid (fun W => show Calls Tryz.prog 32 #[tmV (td l (k - 1)), tmV (td l k)] W fun e w' => e = .returned (.bool true) ∧ Gr W w' by rw [← hl]; exact HL.out _ _ W)
            clear hl
            go_wp2
            generalize wr.alloc (.cells #[.int .i64 (td l k).1, .int .i64 (td l k).2.1, .int .i64 (td l k).2.2] 42) = W0 at hS hb2 hs hpx ⊢
            obtain ⟨g0, g1, g2⟩ := T3.grown hS
            obtain ⟨p0, p1, p2⟩ := X3.grown hpx
            refine wp_region_quiet_grown (by kernel_rfl) (by kernel_rfl) ?_
            repeat (go_big_quiet_step (first | (go_at_call 31; refine Calls.grown_of (HT'.out _)) | (go_at_call 32; refine Calls.grown_of (HL'.out _))))
            refine wpQuiet_nil ?_
            intro _ hw'
            obtain ⟨⟨nq, osq⟩, hw''⟩ := hw'
            subst hw''
            clear q1
            go_wp2
            go_roundw
            case rel => exact ⟨k + 1, by omega, by go_num, Lib.hid (plUp_next hup.out HQ2.out), bel2 hb2 (grB _ _)⟩
            case measure => simp [intOf]; omega
        · obtain rfl : k = 0 := by omega
          have HQ2 := Lib.hid (plAt_yes (l := l) (k := 0) HQ.out (.inl rfl))
          go_wp2
          generalize wr.alloc (.cells #[.int .i64 (td l 0).1, .int .i64 (td l 0).2.1, .int .i64 (td l 0).2.2] 42) = W0 at hS hb2 hs ⊢
          obtain ⟨g0, g1, g2⟩ := T3.grown hS
          refine wp_region_quiet_grown (by kernel_rfl) (by kernel_rfl) ?_
          repeat (go_big_quiet_step (first | (go_at_call 31; refine Calls.grown_of (HT'.out _))))
          refine wpQuiet_nil ?_
          intro _ hw'
          obtain ⟨⟨nq, osq⟩, hw''⟩ := hw'
          subst hw''
          go_wp2
          go_roundw
          case rel => exact ⟨0 + 1, by omega, by go_num, Lib.hid (plUp_next hup.out HQ2.out), bel2 hb2 (grB _ _)⟩
          case measure => simp [intOf]; omega
    · go_wp2_with (go_at_call 33; refine (l1In_any _ _ _ _).mono ?_; rintro e w' ⟨rfl, rfl⟩)
      go_ret
      obtain rfl : k = n := by omega
      exact ⟨ret_bool (by unfold plB; rw [← HN.out, hup.out]; simp), hb⟩
set_option maxHeartbeats 1000000 in
set_option maxRecDepth 100000 in
theorem isPlane_any (w : World) (B : Nat) (v : Value) (l : List Tm) (h : TmS w B v l) : Calls Tryz.prog 42 #[v] w fun e w' => e = .returned (.bool (plB l)) ∧ Below w.heap.size w w' := by
  obtain ⟨A, cap, rfl, hm, hp⟩ := TmS.parts h
  have HP := Lib.hid hp
  obtain ⟨n, hn⟩ : ∃ n, n = l.length := ⟨_, rfl⟩
  have HN := Lib.hid hn
  rw [← hn] at hm ⊢
  unfold maxLen at hm
  have HT := Lib.hid (fun t W => isTerm_any t W)
  have HL := Lib.hid (fun s t W => compareTerms_any s t W)
  have HO := Lib.hid (fun t W => without_any t W)
  clear hp h hn
  by_cases hn1 : n < 1
  · go_enter Tryz.func42, Tryz.ntmps42
    go_wp2
    go_ret
    exact ⟨ret_bool (by symm; exact plB_len (by rw [← HN.out]; omega)), Below.refl _ _⟩
  · by_cases hn2 : 12 < n
    · go_enter Tryz.func42, Tryz.ntmps42
      go_wp2
      go_ret
      exact ⟨ret_bool (by symm; exact plB_len (by rw [← HN.out]; omega)), Below.refl _ _⟩
    · have hn3 : 1 ≤ n := by omega
      have hn4 : n ≤ 12 := by omega
      clear hn1 hn2
      go_enter Tryz.func42, Tryz.ntmps42
      go_wp2
      go_loopw [15] (fun i wr => ∃ k : Nat, k ≤ n ∧ i = .int .i64 k ∧ Hid (plUp l k = true) ∧ Below w.heap.size w wr) (fun i _ => n - (intOf i).toNat)
      case atStart => exact ⟨0, by omega, rfl, Lib.hid rfl, Below.refl _ _⟩
      case round =>
        obtain ⟨k, hk, rfl, hup, hb⟩ := hrel
        by_cases hlt : k < n
        · obtain ⟨g, rfl, hc0⟩ := HP.out k (by rw [← HN.out]; exact hlt)
          have hc := X3.below hc0 hb
          have hb2 := hb.alloc hb.size (.cells #[.int .i64 (td l k).1, .int .i64 (td l k).2.1, .int .i64 (td l k).2.2] 42)
          have hS := T3.new wr (td l k) 42
          have hs : wr.heap.size < (wr.alloc (.cells #[.int .i64 (td l k).1, .int .i64 (td l k).2.1, .int .i64 (td l k).2.2] 42)).heap.size := cell_lt hS.1
          obtain ⟨c0, c1, c2⟩ := hc
          clear hc0
          cases hq : plT (td l k)
          · have HQ := Lib.hid (plAt_no1 (l := l) (k := k) hq)
            have HT' := Lib.hid (fun W => show Calls Tryz.prog 60 #[tmV (td l k)] W fun e w' => e = .returned (.bool false) ∧ Gr W w' by rw [← hq]; exact HT.out (td l k) W)
            clear hq
            go_wp2_with fail
            refine (HT'.out _).mono ?_
            rintro e w1 ⟨rfl, b1⟩
            have B1 := bel2 hb2 b1.below
            clear b1
            go_wp2
            go_ret
            exact ⟨ret_bool (by symm; exact plB_bad (by rw [← HN.out]; exact hlt) HQ.out), B1⟩
          · have HQ := Lib.hid hq
            have HT' := Lib.hid (fun W => show Calls Tryz.prog 60 #[tmV (td l k)] W fun e w' => e = .returned (.bool true) ∧ Gr W w' by rw [← hq]; exact HT.out (td l k) W)
            clear hq
            by_cases h0 : 0 < k
            · obtain ⟨g', hg', hp0⟩ := HP.out (k - 1) (by rw [← HN.out]; omega)
              cases hg'
              have hpx := X3.below (X3.below hp0 hb) ((Below.refl _ _).alloc (Nat.le_refl _) (.cells #[.int .i64 (td l k).1, .int .i64 (td l k).2.1, .int .i64 (td l k).2.2] 42))
              have q1 : IntKind.i64.wrap ((k : Int) - 1) = ((k - 1 : Nat) : Int) := by rw [IntWalk.i64_in _ (by omega)]; omega
              have l1 : k - 1 < n := by omega
              have z1 : ((k - 1 : Nat) : Int) < (n : Int) := by omega
              have z2 : (0 : Int) ≤ ((k - 1 : Nat) : Int) := by omega
              clear hp0
              obtain ⟨c, hce⟩ : ∃ c, c = cmpT (woT (td l (k - 1))) (woT (td l k)) := ⟨_, rfl⟩
              have HL' := Lib.hid (fun W => show Calls Tryz.prog 61 #[tmV (woT (td l (k - 1))), tmV (woT (td l k))] W fun e w' => e = .returned (.int .i64 c) ∧ Gr W w' by rw [hce]; exact HL.out _ _ W)
              cases hl : plLt (td l (k - 1)) (td l k)
              · have HQ2 := Lib.hid (plAt_no2 (l := l) (k := k) h0 hl)
                have hc0 : 0 ≤ c := by
                  rcases Int.lt_or_le c 0 with h | h
                  · rw [hce, cmpT_wo, hl] at h; cases h
                  · exact h
                clear hl hce
                go_wp2_with fail
                refine (HT'.out _).mono ?_
                rintro e w1 ⟨rfl, b1⟩
                have B1 := bel2 hb2 b1.below
                obtain ⟨g0, g1, g2⟩ := T3.grown (T3.below hS b1.below)
                obtain ⟨p0, p1, p2⟩ := X3.grown (X3.below hpx b1.below)
                clear b1 hS hpx
                go_wp2_with fail
                refine wp_region_quiet_grown (by kernel_rfl) (by kernel_rfl) ?_
                repeat (go_big_quiet_step ((first | (go_at_call 62; refine Calls.grown_of (HO.out _ _)) | (go_at_call 61; refine Calls.grown_of (HL'.out _)))))
                refine wpQuiet_nil ?_
                intro _ hw'
                obtain ⟨⟨nq, osq⟩, hw''⟩ := hw'
                subst hw''
                go_wp2
                go_ret
                exact ⟨ret_bool (by symm; exact plB_bad (by rw [← HN.out]; exact hlt) HQ2.out), bel2 B1 (grB _ _)⟩
              · have HQ2 := Lib.hid (plAt_yes (l := l) (k := k) HQ.out (.inr hl))
                have hc0 : c < 0 := by rw [hce, cmpT_wo]; exact hl
                clear hl hce
                go_wp2_with fail
                refine (HT'.out _).mono ?_
                rintro e w1 ⟨rfl, b1⟩
                have B1 := bel2 hb2 b1.below
                obtain ⟨g0, g1, g2⟩ := T3.grown (T3.below hS b1.below)
                obtain ⟨p0, p1, p2⟩ := X3.grown (X3.below hpx b1.below)
                clear b1 hS hpx
                go_wp2_with fail
                refine wp_region_quiet_grown (by kernel_rfl) (by kernel_rfl) ?_
                repeat (go_big_quiet_step ((first | (go_at_call 62; refine Calls.grown_of (HO.out _ _)) | (go_at_call 61; refine Calls.grown_of (HL'.out _)))))
                refine wpQuiet_nil ?_
                intro _ hw'
                obtain ⟨⟨nq, osq⟩, hw''⟩ := hw'
                subst hw''
                clear q1
                go_wp2
                go_roundw
                case rel => exact ⟨k + 1, by omega, by go_num, Lib.hid (plUp_next hup.out HQ2.out), bel2 B1 (grB _ _)⟩
                case measure => simp [intOf]; omega
            · obtain rfl : k = 0 := by omega
              have HQ2 := Lib.hid (plAt_yes (l := l) (k := 0) HQ.out (.inl rfl))
              go_wp2_with fail
              refine (HT'.out _).mono ?_
              rintro e w1 ⟨rfl, b1⟩
              have B1 := bel2 hb2 b1.below
              clear b1 hS
              go_wp2_with fail
              refine wp_region_quiet_grown (by kernel_rfl) (by kernel_rfl) ?_
              repeat (go_big_quiet_step ((fail)))
              refine wpQuiet_nil ?_
              intro _ hw'
              obtain ⟨⟨nq, osq⟩, hw''⟩ := hw'
              subst hw''
              go_wp2
              go_roundw
              case rel => exact ⟨0 + 1, by omega, by go_num, Lib.hid (plUp_next hup.out HQ2.out), bel2 B1 (grB _ _)⟩
              case measure => simp [intOf]; omega
        · go_wp2
          go_ret
          obtain rfl : k = n := by omega
          exact ⟨ret_bool (by symm; exact plB_end (by rw [← HN.out]; exact hn3) (by rw [← HN.out]; exact hn4) (by rw [← HN.out]; exact hup.out)), hb⟩
end Go.Proofs.YtcfplfjllnojoaaGreat

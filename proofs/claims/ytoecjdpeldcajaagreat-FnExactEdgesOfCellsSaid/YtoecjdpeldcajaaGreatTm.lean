/-
  Terms of polynomials in two unknowns, as values and in rows; their tests, orders and values in the program and in the model: what each call returns.
  Conditions: the slice reads as the list that is named; exponents and coefficients of values are those of a term.
-/
import Derived.Test.YtoecjdpeldcajaaGreatPlN
import Derived.Test.YtoecjdpeldcajaaGreatGr
import Derived.Test.YtoecjdpeldcajaaGreatCmp
import Derived.Test.YtoecjdpeldcajaaGreatPoly
import Derived.StillTailTactics
import Derived.Laws.StructEq
import Derived.Deep.RegionHeld3
import Derived.Deep.DeepCutAuto
namespace Go.Proofs.YtoecjdpeldcajaaGreat
set_option linter.unusedSimpArgs false
set_option linter.unusedVariables false
open Go.ChangeShapes Go.WideShapes Go.ChangeAt Go.RowKit
open Go.Sort (grow)

abbrev tmV (t : Tm) : Value := .agg #[.int .i64 t.1, .int .i64 t.2.1, .int .i64 t.2.2]
def encT (t : Tm) : List Int := [t.1, t.2.1, t.2.2]
theorem encT_len (t : Tm) : (encT t).length = 3 := rfl
/-- The cells of a list of terms. -/
def flatT (l : List Tm) : List Int := l.flatMap encT
theorem flatT_len (l : List Tm) : (flatT l).length = l.length * 3 := flat_len encT_len l
theorem flatT_gd {l : List Tm} {j : Nat} (hj : j < l.length) : gd (flatT l) (j * 3) = (td l j).1 ∧ gd (flatT l) (j * 3 + 1) = (td l j).2.1 ∧ gd (flatT l) (j * 3 + 2) = (td l j).2.2 := by
  have h0 := flat_gd encT_len l j 0 hj (by omega)
  have h1 := flat_gd encT_len l j 1 hj (by omega)
  have h2 := flat_gd encT_len l j 2 hj (by omega)
  rw [td_eq l j hj]
  exact ⟨h0, h1, h2⟩
theorem flatT_snoc (l : List Tm) (t : Tm) : flatT (l ++ [t]) = flatT l ++ encT t := flat_snoc l t
theorem flatT_app (l r : List Tm) : flatT (l ++ r) = flatT l ++ flatT r := by simp [flatT]
/-- Whatever cells: they are those of a list of terms. -/
theorem flatT_of : ∀ (n : Nat) (zs : List Int), zs.length = n * 3 → ∃ l, l.length = n ∧ flatT l = zs
  | 0, [], _ => ⟨[], rfl, rfl⟩
  | n + 1, a :: b :: c :: r, h => by
    obtain ⟨l, h1, h2⟩ := flatT_of n r (by simp at h; omega)
    exact ⟨(a, b, c) :: l, by simp [h1], by rw [← h2]; rfl⟩
  | 0, _ :: _, h => by simp at h
  | n + 1, [], h => by simp at h <;> omega
  | n + 1, [_], h => by simp at h <;> omega
  | n + 1, [_, _], h => by simp at h <;> omega
theorem infoTerm : (Tryz.prog.info? 40).map (fun i => (i.zero, i.size, i.bytes)) = some (some (.agg #[.int .i64 0, .int .i64 0, .int .i64 0]), 3, 24) := by kernel_rfl
/-- The slice value v is of this call's own and reads as a list of terms. -/
abbrev TmS (w : World) (B : Nat) (v : Value) (l : List Tm) : Prop := FS 40 3 w B v l.length (flatT l)
def GivesTm (l : List Tm) (w : World) (e : Ending) (w' : World) : Prop := ∃ r, e = .returned r ∧ TmS w' w.heap.size r l ∧ Below w.heap.size w w'
def GivesTmB (ok : Bool) (l : List Tm) (w : World) (e : Ending) (w' : World) : Prop := ∃ r, e = .returned (.tuple #[r, .bool ok]) ∧ TmS w' w.heap.size r l ∧ Below w.heap.size w w'
theorem givesTmB_nil {ok : Bool} {l : List Tm} {w w' : World} (h1 : ok = false) (h2 : l = []) (hb : Below w.heap.size w w') : GivesTmB ok l w (.returned (.tuple #[.slice none 0 0, .bool false])) w' := by
  subst h1; subst h2; exact ⟨_, rfl, FS.nil_ _ _ _ _, hb⟩
theorem givesTmB_yes {ok : Bool} {l : List Tm} {r : Value} {w w' : World} (h1 : ok = true) (h2 : TmS w' w.heap.size r l) (hb : Below w.heap.size w w') : GivesTmB ok l w (.returned (.tuple #[r, .bool true])) w' := by
  subst h1; exact ⟨_, rfl, h2, hb⟩
/-- A term's three cells in a row, from place i on. -/
abbrev X3 (w : World) (g i : Nat) (t : Tm) : Prop := w.cell? ⟨g, i, none⟩ = some (.int .i64 t.1) ∧ w.cell? ⟨g, i + 1, none⟩ = some (.int .i64 t.2.1) ∧ w.cell? ⟨g, i + 2, none⟩ = some (.int .i64 t.2.2)
/-- A term's block. -/
abbrev T3 (w : World) (g : Nat) (t : Tm) : Prop := w.cell? ⟨g, 0, none⟩ = some (.int .i64 t.1) ∧ w.cell? ⟨g, 1, none⟩ = some (.int .i64 t.2.1) ∧ w.cell? ⟨g, 2, none⟩ = some (.int .i64 t.2.2)
theorem X3.below {w w' : World} {g i : Nat} {t : Tm} (h : X3 w g i t) (hb : Below w.heap.size w w') : X3 w' g i t :=
  ⟨box_old3 h.1 hb, box_old3 h.2.1 hb, box_old3 h.2.2 hb⟩
where
  box_old3 {w w' : World} {a : Addr} {v : Value} (h : w.cell? a = some v) (hb : Below w.heap.size w w') : w'.cell? a = some v := (hb.cell (p := a) (cell_lt h)).trans h
theorem T3.below {w w' : World} {g : Nat} {t : Tm} (h : T3 w g t) (hb : Below w.heap.size w w') : T3 w' g t := X3.below (i := 0) h hb
theorem T3.new (w : World) (t : Tm) (T : TypeId) : T3 (w.alloc (.cells #[.int .i64 t.1, .int .i64 t.2.1, .int .i64 t.2.2] T)) w.heap.size t := by
  refine ⟨?_, ?_, ?_⟩ <;> simp [go_sem]
theorem TmS.parts {w : World} {B : Nat} {v : Value} {l : List Tm} (h : TmS w B v l) : ∃ A cap, v = .slice A l.length cap ∧ l.length ≤ maxLen ∧ ∀ k, k < l.length → ∃ g, A = some ⟨g, 0, none⟩ ∧ X3 w g (k * 3) (td l k) := by
  obtain ⟨A, cap, rfl, hm, hp⟩ := FS.parts h
  refine ⟨A, cap, rfl, hm, fun k hk => ?_⟩
  obtain ⟨g, rfl, c0⟩ := hp (k * 3) (by omega)
  obtain ⟨g', hg, c1⟩ := hp (k * 3 + 1) (by omega)
  cases hg
  obtain ⟨g', hg, c2⟩ := hp (k * 3 + 2) (by omega)
  cases hg
  obtain ⟨e0, e1, e2⟩ := flatT_gd hk
  rw [e0] at c0
  rw [e1] at c1
  rw [e2] at c2
  exact ⟨g, rfl, c0, c1, c2⟩
theorem plTerm_any (t : Tm) (w : World) : Calls Tryz.prog 34 #[tmV t] w fun e w' => e = .returned (.bool (plT t)) ∧ Gr w w' := by
  obtain ⟨a, b, c⟩ := t
  cases h1 : inB a 0 6
  · go_enter Tryz.func34, Tryz.ntmps34
    go_wp2_with (go_at_call 36; refine (l1In_any _ _ _ _).mono ?_; rintro e w' ⟨rfl, rfl⟩)
    go_ret
    exact ⟨ret_bool (by simp [plT, h1]), gr1 _ _⟩
  · have ha := (inB_iff _ _ _).1 h1
    have q : IntKind.i64.wrap (6 - a) = 6 - a := IntWalk.i64_in _ (by omega)
    have H1 := Lib.hid h1
    cases h2 : inB b 0 (6 - a)
    · have H2 := Lib.hid h2
      go_enter Tryz.func34, Tryz.ntmps34
      go_wp2_with (go_at_call 36; refine (l1In_any _ _ _ _).mono ?_; rintro e w' ⟨rfl, rfl⟩)
      go_ret
      exact ⟨ret_bool (by simp [plT, H1.out, H2.out]), gr1 _ _⟩
    · have H2 := Lib.hid h2
      go_enter Tryz.func34, Tryz.ntmps34
      go_wp2_with (first | (go_at_call 36; refine (l1In_any _ _ _ _).mono ?_; rintro e w' ⟨rfl, rfl⟩) | (go_at_call 48; refine (poFinite_any _ _).mono ?_; rintro e w' ⟨rfl, rfl⟩))
      go_ret
      exact ⟨ret_bool (by simp [plT, H1.out, H2.out]), gr1 _ _⟩
theorem plBefore_any (s t : Tm) (w : World) : Calls Tryz.prog 35 #[tmV s, tmV t] w fun e w' => e = .returned (.bool (plLt s t)) ∧ Gr w w' := by
  obtain ⟨a, b, c⟩ := s
  obtain ⟨a', b', c'⟩ := t
  by_cases h1 : a < a'
  · go_enter Tryz.func35, Tryz.ntmps35
    go_wp2
    go_ret
    exact ⟨ret_bool (by simp [plLt, h1]), gr2 _ _ _⟩
  · by_cases h2 : a = a'
    · subst h2
      by_cases h3 : b < b'
      · go_enter Tryz.func35, Tryz.ntmps35
        go_wp2
        go_ret
        exact ⟨ret_bool (by simp [plLt, h3]), gr2 _ _ _⟩
      · go_enter Tryz.func35, Tryz.ntmps35
        go_wp2
        go_ret
        exact ⟨ret_bool (by simp [plLt, h3]), gr2 _ _ _⟩
    · go_enter Tryz.func35, Tryz.ntmps35
      go_wp2
      go_ret
      exact ⟨ret_bool (by simp [plLt, h1, h2]), gr2 _ _ _⟩
theorem isTerm_any (t : Tm) (w : World) : Calls Tryz.prog 40 #[tmV t] w fun e w' => e = .returned (.bool (plT t)) ∧ Gr w w' := by
  obtain ⟨a, b, c⟩ := t
  by_cases h1 : a < 0
  · go_enter Tryz.func40, Tryz.ntmps40
    go_wp2
    go_ret
    exact ⟨ret_bool (by symm; rw [← Bool.not_eq_true]; intro h; have := plT_parts h; simp at this; omega), gr1 _ _⟩
  · by_cases h2 : 6 < a
    · go_enter Tryz.func40, Tryz.ntmps40
      go_wp2
      go_ret
      exact ⟨ret_bool (by symm; rw [← Bool.not_eq_true]; intro h; have := plT_parts h; simp at this; omega), gr1 _ _⟩
    · by_cases h3 : b < 0
      · go_enter Tryz.func40, Tryz.ntmps40
        go_wp2
        go_ret
        exact ⟨ret_bool (by symm; rw [← Bool.not_eq_true]; intro h; have := plT_parts h; simp at this; omega), gr1 _ _⟩
      · by_cases h4 : 6 < b
        · go_enter Tryz.func40, Tryz.ntmps40
          go_wp2
          go_ret
          exact ⟨ret_bool (by symm; rw [← Bool.not_eq_true]; intro h; have := plT_parts h; simp at this; omega), gr1 _ _⟩
        · have q : IntKind.i64.wrap (a + b) = a + b := IntWalk.i64_in _ (by omega)
          by_cases h5 : 6 < a + b
          · go_enter Tryz.func40, Tryz.ntmps40
            go_wp2
            go_ret
            exact ⟨ret_bool (by symm; rw [← Bool.not_eq_true]; intro h; have := plT_parts h; simp at this; omega), gr1 _ _⟩
          · have HR := Lib.hid (show plT (a, b, c) = finB c by unfold plT; rw [(inB_iff _ _ _).2 (show (0 : Int) ≤ (a, b, c).1 ∧ (a, b, c).1 ≤ 6 by simp; omega), (inB_iff _ _ _).2 (show (0 : Int) ≤ (a, b, c).2.1 ∧ (a, b, c).2.1 ≤ 6 - (a, b, c).1 by simp; omega)]; rfl)
            rw [HR.out]
            go_enter Tryz.func40, Tryz.ntmps40
            go_wp2_with (go_at_call 57; refine (isFin_any _ _).mono ?_; rintro e w' ⟨rfl, rfl⟩)
            go_ret
            exact ⟨rfl, gr1 _ _⟩
/-- A term without its coefficient. -/
def woT (t : Tm) : Tm := (t.1, t.2.1, 0)
/-- How terms are compared. -/
def cmpT (s t : Tm) : Int := orL [cmI s.1 t.1, cmI s.2.1 t.2.1, cmI s.2.2 t.2.2]
theorem cmpT_lt (s t : Tm) : cmpT s t < 0 ↔ s.1 < t.1 ∨ (s.1 = t.1 ∧ (s.2.1 < t.2.1 ∨ (s.2.1 = t.2.1 ∧ s.2.2 < t.2.2))) := by
  unfold cmpT cmI
  simp only [orL]
  by_cases h1 : s.1 < t.1 <;> by_cases h2 : t.1 < s.1 <;> by_cases h3 : s.2.1 < t.2.1 <;> by_cases h4 : t.2.1 < s.2.1 <;> by_cases h5 : s.2.2 < t.2.2 <;> by_cases h6 : t.2.2 < s.2.2 <;> simp only [h1, h2, h3, h4, h5, h6, if_true, if_false] <;> simp <;> omega
theorem cmpT_wo (s t : Tm) : cmpT (woT s) (woT t) < 0 ↔ plLt s t = true := by
  rw [cmpT_lt, plLt_iff]; unfold woT; simp
/-- Two terms' blocks. -/
abbrev S6 (w : World) (g h : Nat) (s t : Tm) : Prop := w.cell? ⟨g, 0, none⟩ = some (.int .i64 s.1) ∧ w.cell? ⟨g, 1, none⟩ = some (.int .i64 s.2.1) ∧ w.cell? ⟨g, 2, none⟩ = some (.int .i64 s.2.2) ∧ w.cell? ⟨h, 0, none⟩ = some (.int .i64 t.1) ∧ w.cell? ⟨h, 1, none⟩ = some (.int .i64 t.2.1) ∧ w.cell? ⟨h, 2, none⟩ = some (.int .i64 t.2.2)
theorem S6.of {w : World} {g h : Nat} {s t : Tm} (a : T3 w g s) (b : T3 w h t) : S6 w g h s t := ⟨a.1, a.2.1, a.2.2, b.1, b.2.1, b.2.2⟩
theorem S6.below {w w' : World} {g h : Nat} {s t : Tm} (a : S6 w g h s t) (hb : Below w.heap.size w w') : S6 w' g h s t :=
  S6.of (T3.below ⟨a.1, a.2.1, a.2.2.1⟩ hb) (T3.below ⟨a.2.2.2.1, a.2.2.2.2.1, a.2.2.2.2.2⟩ hb)
theorem S6.drew {w : World} {g h : Nat} {s t : Tm} (a : S6 w g h s t) : S6 w.drew g h s t := a
theorem S6.drewN {w : World} {g h : Nat} {s t : Tm} (a : S6 w g h s t) (n : Nat) : S6 (w.drewN n) g h s t := a
theorem S6.alloc {w : World} {g h : Nat} {s t : Tm} (a : S6 w g h s t) (o : Obj) : S6 (w.alloc o) g h s t := a.below ((Below.refl _ _).alloc (Nat.le_refl _) o)
theorem S6.new (w : World) (s t : Tm) (T U : TypeId) : S6 ((w.alloc (.cells #[.int .i64 s.1, .int .i64 s.2.1, .int .i64 s.2.2] T)).alloc (.cells #[.int .i64 t.1, .int .i64 t.2.1, .int .i64 t.2.2] U)) w.heap.size (w.heap.size + 1) s t := by
  refine S6.of (T3.below (T3.new w s T) ((Below.refl _ _).alloc (Nat.le_refl _) _)) ?_
  have := T3.new (w.alloc (.cells #[.int .i64 s.1, .int .i64 s.2.1, .int .i64 s.2.2] T)) t U
  rwa [World.size_alloc] at this
end Go.Proofs.YtoecjdpeldcajaaGreat

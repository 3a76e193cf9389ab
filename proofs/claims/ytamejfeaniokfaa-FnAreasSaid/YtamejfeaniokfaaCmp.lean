/-
  The comparison of integers, the first number that is not 0: what each call returns.
  Condition: the slice reads as the list that is named.
-/
import Derived.Test.YtamejfeaniokfaaList
import Derived.Test.YtamejfeaniokfaaNum
namespace Go.Proofs.Ytamejfeaniokfaa
set_option linter.unusedSimpArgs false
set_option linter.unusedVariables false
open Go.ChangeShapes Go.WideShapes Go.ChangeAt Go.RowKit

def cmI (a b : Int) : Int := if a < b then -1 else if b < a then 1 else 0
/-- The first number that is not 0. -/
def orL : List Int → Int
  | [] => 0
  | a :: r => if a = 0 then orL r else a
theorem orL_step (zs : List Int) (k : Nat) (hk : k < zs.length) (h : gd zs k = 0) : orL (zs.drop k) = orL (zs.drop (k + 1)) := by
  rw [List.drop_eq_getElem_cons hk, orL, if_pos (by rw [← gd_eq zs k hk]; exact h)]
theorem orL_stop (zs : List Int) (k : Nat) (hk : k < zs.length) (h : gd zs k ≠ 0) : orL (zs.drop k) = gd zs k := by
  rw [List.drop_eq_getElem_cons hk, orL, if_neg (by rw [← gd_eq zs k hk]; exact h), gd_eq zs k hk]
theorem cmI_bd (a b : Int) : -1 ≤ cmI a b ∧ cmI a b ≤ 1 := by unfold cmI; (repeat' split) <;> omega
theorem notNaN_any (a : Int) (w : World) : Calls Try.prog 85 #[.int .i64 a] w fun e w' => e = .returned (.bool false) ∧ w = w' := by
  go_enter Try.func85, Try.ntmps85
  go_wp2
  go_ret
  exact ⟨ret_bool (by simp), rfl⟩
theorem compare_any (a b : Int) (w : World) : Calls Try.prog 66 #[.int .i64 a, .int .i64 b] w fun e w' => e = .returned (.int .i64 (cmI a b)) ∧ w = w' := by
  by_cases h1 : a < b
  · go_enter Try.func66, Try.ntmps66
    go_wp2_with (go_at_call 85; refine (notNaN_any _ _).mono ?_; rintro e w' ⟨rfl, rfl⟩)
    go_ret
    exact ⟨ret_i64 (by simp [cmI, h1]), rfl⟩
  · by_cases h2 : b < a
    · go_enter Try.func66, Try.ntmps66
      go_wp2_with (go_at_call 85; refine (notNaN_any _ _).mono ?_; rintro e w' ⟨rfl, rfl⟩)
      go_ret
      exact ⟨ret_i64 (by unfold cmI; (repeat' split) <;> omega), rfl⟩
    · go_enter Try.func66, Try.ntmps66
      go_wp2_with (go_at_call 85; refine (notNaN_any _ _).mono ?_; rintro e w' ⟨rfl, rfl⟩)
      go_ret
      exact ⟨ret_i64 (by unfold cmI; (repeat' split) <;> omega), rfl⟩
theorem or_any (w : World) (B : Nat) (v : Value) (zs : List Int) (h : IS w B v zs) : Calls Try.prog 65 #[v] w fun e w' => e = .returned (.int .i64 (orL zs)) ∧ w = w' := by
  obtain ⟨A, cap, rfl, hm, hp⟩ := h.parts
  unfold maxLen at hm
  have HP := Lib.hid hp
  clear hp h
  go_enter Try.func65, Try.ntmps65
  go_wp2
  go_loop [8] (fun i => ∃ k : Nat, k ≤ zs.length ∧ i = .int .i64 k ∧ Hid (orL zs = orL (zs.drop k))) (fun i => zs.length - (intOf i).toNat)
  case atStart => exact ⟨0, by omega, rfl, Lib.hid (by simp)⟩
  case round =>
    obtain ⟨k, hk, rfl, hall⟩ := hrel
    by_cases hlt : k < zs.length
    · obtain ⟨g, rfl, hc⟩ := HP.out k hlt
      by_cases h0 : gd zs k = 0
      · have H0 := Lib.hid h0
        rw [h0] at hc
        clear h0
        go_wp2
        go_round
        case rel => exact ⟨k + 1, by omega, by go_num, Lib.hid (by rw [hall.out, orL_step zs k hlt H0.out])⟩
        case measure => simp [intOf]; omega
      · go_wp2
        go_ret
        exact ⟨ret_i64 (by rw [hall.out, orL_stop zs k hlt h0]), rfl⟩
    · go_wp2
      go_ret
      exact ⟨ret_i64 (by rw [hall.out, List.drop_eq_nil_of_le (by omega)]; rfl), rfl⟩
end Go.Proofs.Ytamejfeaniokfaa
/-
  Strictly increasing lists over a total order; the lexicographic order of lists of integers: plain mathematics.
-/
namespace Go.Proofs.Ytamejfeaniokfaa
set_option linter.unusedSimpArgs false
set_option linter.unusedVariables false

/-- A strict total order, as a Bool. -/
structure Tot {α : Type} (lt : α → α → Bool) : Prop where
  irr : ∀ a, lt a a = false
  tr : ∀ {a b c}, lt a b = true → lt b c = true → lt a c = true
  tot : ∀ {a b}, lt a b = false → lt b a = false → a = b
/-- Strictly increasing. -/
def Inc {α : Type} (lt : α → α → Bool) (l : List α) : Prop := l.Pairwise fun a b => lt a b = true
section
variable {α : Type} {lt : α → α → Bool}
theorem Tot.asy (T : Tot lt) {a b : α} (h : lt a b = true) : lt b a = false := by
  cases e : lt b a
  · rfl
  · have := T.tr h e; rw [T.irr] at this; cases this
theorem inc_ext (T : Tot lt) : ∀ {l m : List α}, Inc lt l → Inc lt m → (∀ x, x ∈ l ↔ x ∈ m) → l = m
  | [], [], _, _, _ => rfl
  | [], b :: m, _, _, h => by have := (h b).2 (by simp); simp at this
  | a :: l, [], _, _, h => by have := (h a).1 (by simp); simp at this
  | a :: l, b :: m, hl, hm, h => by
    obtain ⟨ha, hl'⟩ := List.pairwise_cons.1 hl
    obtain ⟨hb, hm'⟩ := List.pairwise_cons.1 hm
    clear hl hm
    have e : a = b := by
      rcases List.mem_cons.1 ((h a).1 (by simp)) with e | e
      · exact e
      · rcases List.mem_cons.1 ((h b).2 (by simp)) with e' | e'
        · exact e'.symm
        · have h1 := hb a e
          have h2 := ha b e'
          rw [T.asy h1] at h2; cases h2
    subst e
    congr 1
    refine inc_ext T hl' hm' fun x => ⟨fun hx => ?_, fun hx => ?_⟩
    · rcases List.mem_cons.1 ((h x).1 (List.mem_cons_of_mem _ hx)) with e | e
      · subst e; have := ha x hx; rw [T.irr] at this; cases this
      · exact e
    · rcases List.mem_cons.1 ((h x).2 (List.mem_cons_of_mem _ hx)) with e | e
      · subst e; have := hb x hx; rw [T.irr] at this; cases this
      · exact e
/-- One more element, each one once. -/
def putX (lt : α → α → Bool) (x : α) : List α → List α
  | [] => [x]
  | a :: t => if lt a x = true then a :: putX lt x t else if lt x a = true then x :: a :: t else a :: t
theorem putX_mem (T : Tot lt) (x y : α) : ∀ l : List α, y ∈ putX lt x l ↔ y = x ∨ y ∈ l
  | [] => by simp [putX]
  | a :: t => by
    unfold putX
    split
    · rw [List.mem_cons, putX_mem T x y t, List.mem_cons]
      constructor
      · rintro (h | h | h)
        · exact .inr (.inl h)
        · exact .inl h
        · exact .inr (.inr h)
      · rintro (h | h | h)
        · exact .inr (.inl h)
        · exact .inl h
        · exact .inr (.inr h)
    · rename_i h1
      split
      · simp
      · rename_i h2
        have : a = x := T.tot (by simpa using h1) (by simpa using h2)
        subst this
        simp
theorem putX_inc (T : Tot lt) (x : α) : ∀ {l : List α}, Inc lt l → Inc lt (putX lt x l)
  | [], _ => by simp [putX, Inc]
  | a :: t, h => by
    obtain ⟨ha, ht⟩ := List.pairwise_cons.1 h
    unfold putX
    split
    · rename_i h1
      refine List.pairwise_cons.2 ⟨fun y hy => ?_, putX_inc T x ht⟩
      rcases (putX_mem T x y t).1 hy with rfl | hy
      · exact h1
      · exact ha y hy
    · split
      · rename_i h2
        refine List.pairwise_cons.2 ⟨fun y hy => ?_, h⟩
        rcases List.mem_cons.1 hy with rfl | hy
        · exact h2
        · exact T.tr h2 (ha y hy)
      · exact h
/-- As a program puts it in: so many elements are before it, then comes it or another one. -/
def befX (lt : α → α → Bool) (x : α) (l : List α) : Nat := (l.takeWhile fun a => lt a x).length
theorem putX_at [DecidableEq α] (T : Tot lt) (x : α) : ∀ l : List α, putX lt x l = if l[befX lt x l]? = some x then l else l.take (befX lt x l) ++ x :: l.drop (befX lt x l)
  | [] => by simp [putX, befX]
  | a :: t => by
    unfold putX
    split
    · rename_i h1
      have e : befX lt x (a :: t) = befX lt x t + 1 := by unfold befX; rw [List.takeWhile_cons, if_pos h1]; rfl
      rw [e, putX_at T x t, List.getElem?_cons_succ]
      split
      · rfl
      · rfl
    · rename_i h1
      have e : befX lt x (a :: t) = 0 := by unfold befX; rw [List.takeWhile_cons, if_neg h1]; rfl
      rw [e]
      simp only [List.getElem?_cons_zero, List.take_zero, List.drop_zero, List.nil_append]
      split
      · rename_i h2
        rw [if_neg]
        intro h3
        injection h3 with h3
        subst h3
        rw [T.irr] at h2; cases h2
      · rename_i h2
        have : a = x := T.tot (by simpa using h1) (by simpa using h2)
        rw [if_pos (by rw [this])]
theorem befX_le (x : α) (l : List α) : befX lt x l ≤ l.length := by
  unfold befX
  exact (List.takeWhile_sublist _).length_le
/-- The step of a search for the place. -/
theorem befX_step (x : α) : ∀ (l : List α) (k : Nat), (∀ j, (hj : j < k) → (hl : j < l.length) → lt l[j] x = true) → k ≤ l.length → (k = l.length ∨ ∃ h : k < l.length, lt l[k] x = false) → befX lt x l = k
  | [], k, _, hk, _ => by simp at hk; subst hk; rfl
  | a :: t, 0, _, _, h => by
    rcases h with h | ⟨_, h⟩
    · simp at h
    · unfold befX; rw [List.takeWhile_cons, if_neg (by simpa using h)]; rfl
  | a :: t, k + 1, h1, hk, h => by
    have ha : lt a x = true := h1 0 (by omega) (by simp)
    have ih := befX_step x t k (fun j hj hl => by have := h1 (j + 1) (by omega) (by simpa using hl); simpa using this) (by simpa using hk) (by
      rcases h with h | ⟨hl, h⟩
      · exact .inl (by simpa using h)
      · exact .inr ⟨by simpa using hl, by simpa using h⟩)
    unfold befX at ih ⊢
    rw [List.takeWhile_cons, if_pos ha, List.length_cons, ih]
/-- All of a list put in, one after another: the only increasing list with its members. -/
def setX (lt : α → α → Bool) (l : List α) : List α := l.foldl (fun s x => putX lt x s) []
theorem setX_both (T : Tot lt) : ∀ (l s : List α), Inc lt s → Inc lt (l.foldl (fun s x => putX lt x s) s) ∧ ∀ y, y ∈ l.foldl (fun s x => putX lt x s) s ↔ y ∈ l ∨ y ∈ s
  | [], s, h => ⟨h, by simp⟩
  | x :: t, s, h => by
    obtain ⟨h1, h2⟩ := setX_both T t (putX lt x s) (putX_inc T x h)
    refine ⟨h1, fun y => ?_⟩
    rw [List.foldl_cons, h2, putX_mem T, List.mem_cons]
    constructor
    · rintro (h | h | h)
      · exact .inl (.inr h)
      · exact .inl (.inl h)
      · exact .inr h
    · rintro ((h | h) | h)
      · exact .inr (.inl h)
      · exact .inl h
      · exact .inr (.inr h)
theorem setX_inc (T : Tot lt) (l : List α) : Inc lt (setX lt l) := (setX_both T l [] List.Pairwise.nil).1
theorem setX_mem (T : Tot lt) (l : List α) (y : α) : y ∈ setX lt l ↔ y ∈ l := by
  unfold setX
  rw [(setX_both T l [] List.Pairwise.nil).2 y]
  simp
theorem setX_snoc (l : List α) (x : α) : setX lt (l ++ [x]) = putX lt x (setX lt l) := by unfold setX; rw [List.foldl_append]; rfl
theorem setX_eq (T : Tot lt) {l m : List α} (hm : Inc lt m) (h : ∀ x, x ∈ m ↔ x ∈ l) : setX lt l = m :=
  inc_ext T (setX_inc T l) hm fun x => (setX_mem T l x).trans (h x).symm
end
/-- The lexicographic order of lists of integers. -/
def lxL : List Int → List Int → Bool
  | [], [] => false
  | [], _ :: _ => true
  | _ :: _, [] => false
  | a :: l, b :: m => if a = b then lxL l m else decide (a < b)
theorem totLx : Tot lxL where
  irr := fun l => by
    induction l with
    | nil => rfl
    | cons a l ih => unfold lxL; rw [if_pos rfl]; exact ih
  tr := by
    intro a
    induction a with
    | nil =>
      intro b c h1 h2
      cases b with
      | nil => exact h2
      | cons x b => cases c with
        | nil => cases h2
        | cons y c => rfl
    | cons x a ih =>
      intro b c h1 h2
      cases b with
      | nil => cases h1
      | cons y b => cases c with
        | nil => cases h2
        | cons z c =>
          unfold lxL at h1 h2 ⊢
          split at h1
          · rename_i e; subst e
            split at h2
            · rename_i e; subst e; rw [if_pos rfl]; exact ih h1 h2
            · rename_i e; rw [if_neg e]; exact h2
          · rename_i e
            split at h2
            · rename_i e2; subst e2; rw [if_neg e]; exact h1
            · rename_i e2
              have h1 := of_decide_eq_true h1
              have h2 := of_decide_eq_true h2
              rw [if_neg (by omega)]
              exact decide_eq_true (by omega)
  tot := by
    intro a
    induction a with
    | nil =>
      intro b h1 h2
      cases b with
      | nil => rfl
      | cons x b => cases h1
    | cons x a ih =>
      intro b h1 h2
      cases b with
      | nil => cases h2
      | cons y b =>
        unfold lxL at h1 h2
        by_cases e : x = y
        · subst e
          rw [if_pos rfl] at h1 h2
          rw [ih h1 h2]
        · rw [if_neg e] at h1
          rw [if_neg (fun h => e h.symm)] at h2
          have h1 := of_decide_eq_false h1
          have h2 := of_decide_eq_false h2
          omega
/-- The order told by the first place where they differ. -/
theorem lxL_same {a b : Int} {l m : List Int} (h : a = b) : lxL (a :: l) (b :: m) = lxL l m := by
  conv => lhs; unfold lxL
  rw [if_pos h]
theorem lxL_diff {a b : Int} {l m : List Int} (h : a ≠ b) : lxL (a :: l) (b :: m) = decide (a < b) := by
  conv => lhs; unfold lxL
  rw [if_neg h]
theorem lxL_app : ∀ (p : List Int) (l m : List Int), lxL (p ++ l) (p ++ m) = lxL l m
  | [], _, _ => rfl
  | a :: p, l, m => by rw [List.cons_append, List.cons_append, lxL_same rfl]; exact lxL_app p l m
end Go.Proofs.Ytamejfeaniokfaa
/-
  slices.Compare at slices of integers: what the call returns.
  Condition: the slices read as the lists that are named.
-/
namespace Go.Proofs.Ytamejfeaniokfaa
set_option linter.unusedSimpArgs false
set_option linter.unusedVariables false
open Go.ChangeShapes Go.WideShapes Go.ChangeAt Go.RowKit

/-- A slice value that reads as a list, from the start of a block on. -/
def RdV (w : World) (v : Value) (zs : List Int) : Prop := ∃ A cap, v = .slice A zs.length cap ∧ zs.length ≤ maxLen ∧ ∀ k, k < zs.length → ∃ g, A = some ⟨g, 0, none⟩ ∧ w.cell? ⟨g, k, none⟩ = some (.int .i64 (gd zs k))
/-- How lists are compared. -/
def cmpLx (zs ys : List Int) : Int := if lxL zs ys = true then -1 else if zs = ys then 0 else 1
theorem lx_pre {zs ys : List Int} {k : Nat} (h : zs.take k = ys.take k) : lxL zs ys = lxL (zs.drop k) (ys.drop k) := by
  conv => lhs; rw [← List.take_append_drop k zs, ← List.take_append_drop k ys, h]
  exact lxL_app _ _ _
theorem cmpLx_short {zs ys : List Int} {k : Nat} (h : zs.take k = ys.take k) (h1 : k < zs.length) (h2 : ys.length ≤ k) : cmpLx zs ys = 1 := by
  unfold cmpLx
  rw [lx_pre h, List.drop_eq_getElem_cons h1, List.drop_eq_nil_of_le h2, if_neg (by simp [lxL]), if_neg (fun e => by rw [e] at h1; omega)]
theorem cmpLx_diff {zs ys : List Int} {k : Nat} (h : zs.take k = ys.take k) (h1 : k < zs.length) (h2 : k < ys.length) (hne : gd zs k ≠ gd ys k) : cmpLx zs ys = cmI (gd zs k) (gd ys k) := by
  have hl : lxL zs ys = decide (gd zs k < gd ys k) := by
    rw [lx_pre h, List.drop_eq_getElem_cons h1, List.drop_eq_getElem_cons h2, gd_eq zs k h1, gd_eq ys k h2]
    exact lxL_diff (by rw [gd_eq zs k h1, gd_eq ys k h2] at hne; exact hne)
  have he : zs ≠ ys := fun e => hne (by rw [e])
  unfold cmpLx cmI
  rw [hl]
  by_cases h3 : gd zs k < gd ys k
  · rw [if_pos (by simpa using h3), if_pos h3]
  · rw [if_neg (by simpa using h3), if_neg he, if_neg h3, if_pos (by omega)]
theorem cmpLx_end {zs ys : List Int} (h : zs.take zs.length = ys.take zs.length) : cmpLx zs ys = if zs.length < ys.length then -1 else 0 := by
  unfold cmpLx
  rw [lx_pre h, List.drop_eq_nil_of_le (Nat.le_refl _)]
  by_cases h1 : zs.length < ys.length
  · rw [List.drop_eq_getElem_cons h1, if_pos (by simp [lxL]), if_pos h1]
  · rw [List.drop_eq_nil_of_le (by omega), if_neg (by simp [lxL]), if_neg h1, if_pos]
    rw [List.take_length, List.take_of_length_le (by omega)] at h
    exact h
theorem cmpLx_lt (zs ys : List Int) : cmpLx zs ys < 0 ↔ lxL zs ys = true := by
  unfold cmpLx
  by_cases h : lxL zs ys = true
  · rw [if_pos h]; simp [h]
  · rw [if_neg h]
    constructor
    · intro h2; split at h2 <;> omega
    · intro h2; exact absurd h2 h
end Go.Proofs.Ytamejfeaniokfaa

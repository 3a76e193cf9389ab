/-
  The sides of the dual polygon of a star, by their angles, and its corners: plain mathematics.
  No condition.
-/
import Derived.Test.YthegkifhbgopoaaStM
import Derived.Test.YthegkifhbgopoaaHullM
import Derived.Test.YthegkifhbgopoaaPt
namespace Go.Proofs.Ythegkifhbgopoaa
set_option linter.unusedSimpArgs false
set_option linter.unusedVariables false

/-! ### Directions and halves -/
def Nz (u : Pt) : Prop := u.1 ≠ 0 ∨ u.2 ≠ 0
def fwB (u : Pt) : Bool := decide (0 < u.1) || (decide (u.1 = 0) && decide (0 < u.2))
def uwB (u : Pt) : Bool := decide (0 < u.2) || (decide (u.2 = 0) && decide (0 < u.1))
theorem fwB_iff (u : Pt) : fwB u = true ↔ Fw u := by unfold fwB Fw; simp
theorem uwB_iff (u : Pt) : uwB u = true ↔ Fw (u.2, u.1) := by unfold uwB Fw; simp
theorem fwB_no {u : Pt} (hz : Nz u) (h : fwB u = false) : Fw (-u.1, -u.2) := by
  have h' : ¬ Fw u := by rw [← fwB_iff, h]; simp
  unfold Fw at *; unfold Nz at hz; simp only; omega
theorem uwB_no {u : Pt} (hz : Nz u) (h : uwB u = false) : Fw (-u.2, -u.1) := by
  have h' : ¬ Fw (u.2, u.1) := by rw [← uwB_iff, h]; simp
  unfold Fw at *; unfold Nz at hz; simp only at *; omega
theorem cr_neg (u v : Pt) : cr (-u.1, -u.2) (-v.1, -v.2) = cr u v := by unfold cr; grind
theorem cr_swap (u v : Pt) : cr (u.2, u.1) (v.2, v.1) = -cr u v := by unfold cr; grind
theorem cr_swapN (u v : Pt) : cr (-u.2, -u.1) (-v.2, -v.1) = -cr u v := by unfold cr; grind
theorem cr_back (u v : Pt) : cr v u = -cr u v := by unfold cr; grind
theorem tf_neg {p q r : Int} (h : TF (-p) (-q) (-r)) : TF p q r := by unfold TF at *; omega
/-- A way to part all directions into two halves. -/
structure Hlf (H : Pt → Bool) : Prop where
  tf : ∀ u v w, Nz u → Nz v → Nz w → H u = H v → H v = H w → TF (cr u v) (cr u w) (cr v w)
theorem hlf_fw : Hlf fwB where
  tf u v w hu hv hw h1 h2 := by
    cases hb : fwB v
    · rw [hb] at h1 h2
      have := cr_tf (fwB_no hu h1) (fwB_no hv hb) (fwB_no hw h2.symm)
      simpa only [cr_neg] using this
    · rw [hb] at h1 h2
      exact cr_tf ((fwB_iff _).1 h1) ((fwB_iff _).1 hb) ((fwB_iff _).1 h2.symm)
theorem hlf_uw : Hlf uwB where
  tf u v w hu hv hw h1 h2 := by
    cases hb : uwB v
    · rw [hb] at h1 h2
      have := cr_tf (uwB_no hu h1) (uwB_no hv hb) (uwB_no hw h2.symm)
      simp only [cr_swapN] at this
      exact tf_neg this
    · rw [hb] at h1 h2
      have := cr_tf ((uwB_iff _).1 h1) ((uwB_iff _).1 hb) ((uwB_iff _).1 h2.symm)
      simp only [cr_swap] at this
      exact tf_neg this
/-- The directions behind three quarters of a turn. -/
def lasB (u : Pt) : Bool := decide (0 < u.1) && decide (u.2 < 0)
/-- Comes a direction before another one: by its half, then by its angle. -/
def hfB (H : Pt → Bool) (u v : Pt) : Bool := if H u = H v then decide (0 < cr u v) else H u
theorem hfB_same {H : Pt → Bool} {u v : Pt} (h : H u = H v) : hfB H u v = decide (0 < cr u v) := if_pos h
theorem hfB_diff {H : Pt → Bool} {u v : Pt} (h : H u ≠ H v) : hfB H u v = H u := if_neg h
theorem hfB_prop (H : Pt → Bool) (u v : Pt) : hfB H u v = true ↔ (H u = true ∧ ¬ H v = true) ∨ ((H u = true ↔ H v = true) ∧ 0 < cr u v) := by
  unfold hfB
  cases H u <;> cases H v <;> simp
theorem fw_at (a b : Int) : fwB (a, b) = true ↔ (0 < a ∨ (a = 0 ∧ 0 < b)) := fwB_iff _
theorem uw_at (a b : Int) : uwB (a, b) = true ↔ (0 < b ∨ (b = 0 ∧ 0 < a)) := uwB_iff _
theorem las_at (a b : Int) : lasB (a, b) = true ↔ (0 < a ∧ b < 0) := by unfold lasB; simp
theorem nz_at (a b : Int) : Nz (a, b) ↔ (a ≠ 0 ∨ b ≠ 0) := Iff.rfl
theorem cr_at (a b c d : Int) : cr (a, b) (c, d) = a * d - b * c := rfl
theorem hfB_asym {H : Pt → Bool} {u v : Pt} (h : hfB H u v = true) : hfB H v u = false := by
  have hc := cr_back u v
  by_cases he : H u = H v
  · rw [hfB_same he] at h
    rw [hfB_same he.symm]
    simp only [decide_eq_true_eq, decide_eq_false_iff_not] at *
    omega
  · rw [hfB_diff he] at h
    rw [hfB_diff fun e => he e.symm]
    cases hv : H v
    · rfl
    · exact absurd (h.trans hv.symm) he
theorem hfB_irr (H : Pt → Bool) (u : Pt) : hfB H u u = false := by
  rw [hfB_same rfl]
  have : cr u u = 0 := by unfold cr; grind
  simp [this]
theorem hfB_trans {H : Pt → Bool} (G : Hlf H) {u v w : Pt} (hu : Nz u) (hv : Nz v) (hw : Nz w) (h1 : hfB H u v = true) (h2 : hfB H v w = true) : hfB H u w = true := by
  by_cases e1 : H u = H v <;> by_cases e2 : H v = H w
  · have t := (G.tf u v w hu hv hw e1 e2).1
    rw [hfB_same e1] at h1
    rw [hfB_same e2] at h2
    rw [hfB_same (e1.trans e2)]
    simp only [decide_eq_true_eq] at *
    exact (t (by omega) (by omega)).2 (.inl h1)
  · rw [hfB_diff e2] at h2
    rw [hfB_diff (by rw [e1]; exact e2), e1]; exact h2
  · rw [hfB_diff e1] at h1
    rw [hfB_diff (by rw [← e2]; exact e1)]; exact h1
  · rw [hfB_diff e1] at h1
    rw [hfB_diff e2] at h2
    exact absurd (h1.trans h2.symm) e1
theorem hfB_ntrans {H : Pt → Bool} (G : Hlf H) {u v w : Pt} (hu : Nz u) (hv : Nz v) (hw : Nz w) (h1 : hfB H u v = false) (h2 : hfB H v w = false) : hfB H u w = false := by
  by_cases e1 : H u = H v <;> by_cases e2 : H v = H w
  · have t := (G.tf u v w hu hv hw e1 e2).2
    rw [hfB_same e1] at h1
    rw [hfB_same e2] at h2
    rw [hfB_same (e1.trans e2)]
    simp only [decide_eq_false_iff_not] at *
    have := (t (by omega) (by omega)).1
    omega
  · rw [hfB_diff e2] at h2
    rw [hfB_diff (by rw [e1]; exact e2), e1]; exact h2
  · rw [hfB_diff e1] at h1
    rw [hfB_diff (by rw [← e2]; exact e1)]; exact h1
  · rw [hfB_diff e1] at h1
    rw [hfB_diff e2] at h2
    exact absurd (h1.trans h2.symm) e1
/-- Directions that are not the same: one comes before the other. -/
theorem hfB_tot {H : Pt → Bool} {u v : Pt} (hd : ¬ (H u = H v ∧ cr u v = 0)) (h : hfB H u v = false) : hfB H v u = true := by
  have hc := cr_back u v
  by_cases he : H u = H v
  · rw [hfB_same he] at h
    rw [hfB_same he.symm]
    simp only [decide_eq_true_eq, decide_eq_false_iff_not] at *
    have : cr u v ≠ 0 := fun h0 => hd ⟨he, h0⟩
    omega
  · rw [hfB_diff he] at h
    rw [hfB_diff fun e => he e.symm]
    cases hv : H v
    · exact absurd (h.trans hv.symm) he
    · rfl
/-! ### Sides put in order -/
/-- The sides of which a given one is put behind, from the start on. -/
def antB (H : Pt → Bool) (l : List Pt) (u : Pt) : Nat := (l.takeWhile fun a => hfB H a u).length
def insB (H : Pt → Bool) (l : List Pt) (u : Pt) : List Pt := l.take (antB H l u) ++ u :: l.drop (antB H l u)
theorem antB_le (H : Pt → Bool) (l : List Pt) (u : Pt) : antB H l u ≤ l.length := by
  unfold antB
  exact (List.takeWhile_sublist _).length_le
theorem antB_at {H : Pt → Bool} {u : Pt} : ∀ {l : List Pt} {k : Nat}, (∀ j, j < k → j < l.length ∧ hfB H (pd l j) u = true) → (k < l.length → hfB H (pd l k) u = false) → antB H l u = k
  | [], 0, _, _ => rfl
  | [], k + 1, h, _ => by have := (h 0 (by omega)).1; simp at this
  | a :: r, 0, _, h => by
    have := h (by simp)
    simp only [pd, List.getD_cons_zero] at this
    simp [antB, this]
  | a :: r, k + 1, h, h' => by
    have h0 := (h 0 (by omega)).2
    simp only [pd, List.getD_cons_zero] at h0
    have ih := antB_at (H := H) (u := u) (l := r) (k := k) (fun j hj => by have := h (j + 1) (by omega); simpa [pd] using this) (fun hk => by have := h' (by simpa using hk); simpa [pd] using this)
    unfold antB at ih ⊢
    rw [List.takeWhile_cons, if_pos h0, List.length_cons, ih]
theorem insB_perm (H : Pt → Bool) (l : List Pt) (u : Pt) : (insB H l u).Perm (l ++ [u]) := by
  unfold insB
  conv => rhs; rw [← List.take_append_drop (antB H l u) l]
  rw [List.append_assoc]
  refine List.Perm.append_left _ ?_
  exact (List.perm_append_comm (l₁ := [u]) (l₂ := l.drop (antB H l u)))
theorem tw_take {α : Type} (p : α → Bool) : ∀ l : List α, l.take (l.takeWhile p).length = l.takeWhile p
  | [] => rfl
  | a :: r => by cases h : p a <;> simp [List.takeWhile_cons, h, tw_take p r]
theorem tw_drop {α : Type} (p : α → Bool) : ∀ l : List α, l.drop (l.takeWhile p).length = l.dropWhile p
  | [] => rfl
  | a :: r => by cases h : p a <;> simp [List.takeWhile_cons, List.dropWhile_cons, h, tw_drop p r]
theorem tw_all {α : Type} (p : α → Bool) : ∀ (l : List α) (a : α), a ∈ l.takeWhile p → p a = true
  | [], a, h => by simp at h
  | b :: r, a, h => by
    cases hb : p b
    · simp [List.takeWhile_cons, hb] at h
    · rw [List.takeWhile_cons, if_pos hb] at h
      rcases List.mem_cons.1 h with rfl | h
      · exact hb
      · exact tw_all p r a h
theorem insB_ord {H : Pt → Bool} (G : Hlf H) {l : List Pt} {u : Pt} (hu : Nz u) (hl : ∀ a ∈ l, Nz a) (hd : ∀ a ∈ l, ¬ (H a = H u ∧ cr a u = 0)) (hp : l.Pairwise fun a b => hfB H a b = true) : (insB H l u).Pairwise fun a b => hfB H a b = true := by
  have hsplit := List.take_append_drop (antB H l u) l
  have hp' := hp
  rw [← hsplit, List.pairwise_append] at hp'
  obtain ⟨p1, p2, p3⟩ := hp'
  have ht : ∀ a ∈ l.take (antB H l u), hfB H a u = true := by
    intro a ha
    have e : l.take (antB H l u) = l.takeWhile fun a => hfB H a u := by
      unfold antB
      exact tw_take _ l
    rw [e] at ha
    exact tw_all _ l a ha
  have hdr : ∀ b ∈ l.drop (antB H l u), hfB H u b = true := by
    intro b hb
    have e : l.drop (antB H l u) = l.dropWhile fun a => hfB H a u := by
      unfold antB
      exact tw_drop _ l
    rw [e] at hb p2
    have hsub : ∀ x ∈ l.dropWhile (fun a => hfB H a u), x ∈ l := fun x hx => (List.dropWhile_sublist _).subset hx
    cases hq : l.dropWhile fun a => hfB H a u with
    | nil => rw [hq] at hb; simp at hb
    | cons c r =>
      have hc : hfB H c u = false := by
        have := List.head_dropWhile_not (p := fun a => hfB H a u) (l := l) (by rw [hq]; simp)
        simpa [hq] using this
      rw [hq] at hb p2 hsub
      have hcu : hfB H u c = true := hfB_tot (hd c (hsub c List.mem_cons_self)) hc
      rcases List.mem_cons.1 hb with rfl | hb
      · exact hcu
      · exact hfB_trans G hu (hl _ (hsub _ List.mem_cons_self)) (hl _ (hsub _ (List.mem_cons_of_mem _ hb))) hcu ((List.pairwise_cons.1 p2).1 b hb)
  unfold insB
  refine List.pairwise_append.2 ⟨p1, List.pairwise_cons.2 ⟨hdr, p2⟩, fun a ha b hb => ?_⟩
  rcases List.mem_cons.1 hb with rfl | hb
  · exact ht a ha
  · exact p3 a ha b hb
/-- All sides of a list, put in one by one. -/
def insA (H : Pt → Bool) (l : List Pt) : Nat → List Pt
  | 0 => []
  | k + 1 => insB H (insA H l k) (pd l k)
theorem insA_len (H : Pt → Bool) (l : List Pt) : ∀ k, (insA H l k).length = k
  | 0 => rfl
  | k + 1 => by
    have := (insB_perm H (insA H l k) (pd l k)).length_eq
    rw [insA, this, List.length_append, insA_len H l k]; rfl
theorem insA_perm (H : Pt → Bool) (l : List Pt) : ∀ k, k ≤ l.length → (insA H l k).Perm (l.take k)
  | 0, _ => by simp [insA]
  | k + 1, hk => by
    have h1 := insA_perm H l k (by omega)
    rw [insA, List.take_add_one, List.getElem?_eq_getElem (show k < l.length by omega)]
    refine (insB_perm _ _ _).trans ?_
    rw [pd_eq l k (by omega)]
    exact h1.append_right _
/-- Any two of them have different directions. -/
def Dif (H : Pt → Bool) (l : List Pt) : Prop := l.Pairwise fun a b => ¬ (H a = H b ∧ cr a b = 0)
theorem insA_ord {H : Pt → Bool} (G : Hlf H) {l : List Pt} (hz : ∀ a ∈ l, Nz a) (hd : Dif H l) : ∀ k, k ≤ l.length → (insA H l k).Pairwise fun a b => hfB H a b = true
  | 0, _ => by simp [insA]
  | k + 1, hk => by
    have hm : ∀ a ∈ insA H l k, a ∈ l.take k := fun a ha => (insA_perm H l k (by omega)).mem_iff.1 ha
    rw [insA]
    refine insB_ord G (hz _ (by rw [pd_eq l k (by omega)]; exact List.getElem_mem _)) (fun a ha => hz _ (List.mem_of_mem_take (hm a ha))) (fun a ha => ?_) (insA_ord G hz hd k (by omega))
    obtain ⟨j, hj, he⟩ := List.mem_iff_getElem.1 (hm a ha)
    rw [List.length_take] at hj
    rw [List.getElem_take] at he
    have := List.pairwise_iff_getElem.1 hd j k (by omega) (by omega) (by omega)
    rw [he, ← pd_eq l k (by omega)] at this
    exact this
/-! ### The two orders: one is the other one turned round -/
theorem parted {α : Type} {p : α → Bool} : ∀ {l : List α}, (l.Pairwise fun a b => ¬ (p a = false ∧ p b = true)) → l = l.filter p ++ l.filter fun a => !p a
  | [], _ => rfl
  | a :: r, h => by
    have ha := (List.pairwise_cons.1 h).1
    have ih := parted (List.pairwise_cons.1 h).2
    cases hp : p a
    · have hr : r.filter p = [] := List.filter_eq_nil_iff.2 fun b hb hbt => ha b hb ⟨hp, hbt⟩
      have hr' : r.filter (fun a => !p a) = r := List.filter_eq_self.2 fun b hb => by
        cases hb' : p b
        · rfl
        · exact absurd ⟨hp, hb'⟩ (ha b hb)
      simp [hp, hr, hr']
    · simp only [List.filter_cons, hp, if_true, List.cons_append]
      simp only [Bool.not_true, Bool.false_eq_true, if_false]
      exact congrArg _ ih
theorem mp {a b : Int} (h : 0 ≤ a) (h' : 0 ≤ b) : 0 ≤ a * b := Int.mul_nonneg h h'
theorem mpp {a b : Int} (h : 0 < a) (h' : 0 < b) : 0 < a * b := Int.mul_pos h h'
theorem turned {l : List Pt} (hz : ∀ a ∈ l, Nz a) (h : l.Pairwise fun a b => hfB fwB a b = true) :
    l = l.filter lasB ++ l.filter (fun a => !lasB a) ∧ (l.filter (fun a => !lasB a) ++ l.filter lasB).Pairwise fun a b => hfB uwB a b = true := by
  have hz2 : l.Pairwise fun a b => Nz a ∧ Nz b := by
    rw [List.pairwise_iff_getElem]
    intro i j hi hj _
    exact ⟨hz _ (List.getElem_mem _), hz _ (List.getElem_mem _)⟩
  have hh := h.and hz2
  have pr : ∀ a1 a2 b1 b2 : Int, (0 ≤ a1 → 0 ≤ b2 → 0 ≤ a1 * b2 ∧ (0 < a1 → 0 < b2 → 0 < a1 * b2)) ∧ (0 ≤ a1 → b2 ≤ 0 → a1 * b2 ≤ 0 ∧ (0 < a1 → b2 < 0 → a1 * b2 < 0)) ∧ (a1 ≤ 0 → 0 ≤ b2 → a1 * b2 ≤ 0 ∧ (a1 < 0 → 0 < b2 → a1 * b2 < 0)) ∧ (a1 ≤ 0 → b2 ≤ 0 → 0 ≤ a1 * b2 ∧ (a1 < 0 → b2 < 0 → 0 < a1 * b2)) := by
    intro a1 _ _ b2
    refine ⟨fun p q => ⟨mp p q, fun p q => mpp p q⟩, fun p q => ?_, fun p q => ?_, fun p q => ?_⟩
    · have x := mp p (show 0 ≤ -b2 by omega)
      have y := fun (p : 0 < a1) (q : b2 < 0) => mpp p (show 0 < -b2 by omega)
      rw [Int.mul_neg] at x y
      exact ⟨by omega, fun p q => by have := y p q; omega⟩
    · have x := mp (show 0 ≤ -a1 by omega) q
      have y := fun (p : a1 < 0) (q : 0 < b2) => mpp (show 0 < -a1 by omega) q
      rw [Int.neg_mul] at x y
      exact ⟨by omega, fun p q => by have := y p q; omega⟩
    · have x := mp (show 0 ≤ -a1 by omega) (show 0 ≤ -b2 by omega)
      have y := fun (p : a1 < 0) (q : b2 < 0) => mpp (show 0 < -a1 by omega) (show 0 < -b2 by omega)
      rw [Int.neg_mul_neg] at x y
      exact ⟨by omega, fun p q => by have := y p q; omega⟩
  refine ⟨parted (hh.imp ?_), ?_⟩
  · rintro ⟨a1, a2⟩ ⟨b1, b2⟩ ⟨h1, hza, hzb⟩ ⟨h2, h3⟩
    rw [← Bool.not_eq_true, las_at] at h2
    rw [las_at] at h3
    rw [hfB_prop, fw_at, fw_at, cr_at] at h1
    rw [nz_at] at hza hzb
    have m1 := pr a1 0 0 b2
    have m2 := pr a2 0 0 b1
    clear hh hz2 h hz pr
    generalize a1 * b2 = X at *
    generalize a2 * b1 = Y at *
    omega
  · refine List.pairwise_append.2 ⟨?_, ?_, ?_⟩
    · have h4 := (hh.filter fun a => !lasB a)
      have h5 : (l.filter fun a => !lasB a).Pairwise fun a b => lasB a = false ∧ lasB b = false := by
        rw [List.pairwise_iff_getElem]
        intro i j hi hj _
        exact ⟨by simpa using (List.mem_filter.1 (List.getElem_mem hi)).2, by simpa using (List.mem_filter.1 (List.getElem_mem hj)).2⟩
      refine (h4.and h5).imp ?_
      rintro ⟨a1, a2⟩ ⟨b1, b2⟩ ⟨⟨h1, hza, hzb⟩, h2, h3⟩
      rw [← Bool.not_eq_true, las_at] at h2 h3
      rw [hfB_prop, fw_at, fw_at, cr_at] at h1
      rw [nz_at] at hza hzb
      rw [hfB_prop, uw_at, uw_at, cr_at]
      have m1 := pr a1 0 0 b2
      have m2 := pr a2 0 0 b1
      clear h4 h5 hh hz2 h hz pr
      generalize a1 * b2 = X at *
      generalize a2 * b1 = Y at *
      omega
    · have h4 := (hh.filter lasB)
      have h5 : (l.filter lasB).Pairwise fun a b => lasB a = true ∧ lasB b = true := by
        rw [List.pairwise_iff_getElem]
        intro i j hi hj _
        exact ⟨(List.mem_filter.1 (List.getElem_mem hi)).2, (List.mem_filter.1 (List.getElem_mem hj)).2⟩
      refine (h4.and h5).imp ?_
      rintro ⟨a1, a2⟩ ⟨b1, b2⟩ ⟨⟨h1, hza, hzb⟩, h2, h3⟩
      rw [las_at] at h2 h3
      rw [hfB_prop, fw_at, fw_at, cr_at] at h1
      rw [hfB_prop, uw_at, uw_at, cr_at]
      clear h4 h5 hh hz2 h hz pr
      omega
    · intro a ha b hb
      obtain ⟨ha1, ha2⟩ := List.mem_filter.1 ha
      obtain ⟨hb1, hb2⟩ := List.mem_filter.1 hb
      have hza := hz a ha1
      obtain ⟨a1, a2⟩ := a
      obtain ⟨b1, b2⟩ := b
      have ha2 : ¬ lasB (a1, a2) = true := by simpa using ha2
      rw [las_at] at ha2 hb2
      rw [nz_at] at hza
      rw [hfB_prop, uw_at, uw_at, cr_at]
      have m1 := pr a1 0 0 b2
      have m2 := pr a2 0 0 b1
      clear ha hb ha1 hb1 hh hz2 h hz pr
      generalize a1 * b2 = X at *
      generalize a2 * b1 = Y at *
      omega
/-! ### Corners -/
def psF (f : Pt → Int) (l : List Pt) (k : Nat) : Int := ((l.take k).map f).sum
theorem psF_0 (f : Pt → Int) (l : List Pt) : psF f l 0 = 0 := by simp [psF]
theorem psF_next (f : Pt → Int) (l : List Pt) (k : Nat) (hk : k < l.length) : psF f l (k + 1) = psF f l k + f (pd l k) := by
  unfold psF
  rw [List.take_add_one, List.getElem?_eq_getElem hk, pd_eq l k hk, List.map_append, List.sum_append]
  simp only [Option.toList, List.map_cons, List.map_nil, List.sum_cons, List.sum_nil]
  omega
theorem psF_app1 (f : Pt → Int) (a b : List Pt) {k : Nat} (h : k ≤ a.length) : psF f (a ++ b) k = psF f a k := by
  unfold psF; rw [List.take_append_of_le_length h]
theorem psF_app2 (f : Pt → Int) (a b : List Pt) (k : Nat) : psF f (a ++ b) (a.length + k) = psF f a a.length + psF f b k := by
  unfold psF; rw [List.take_length_add_append, List.map_append, List.sum_append, List.take_length]
theorem psF_perm (f : Pt → Int) {a b : List Pt} (h : a.Perm b) : psF f a a.length = psF f b b.length := by
  unfold psF; rw [List.take_length, List.take_length]; exact perm_sumI (h.map f)
/-- The least of the sums so far. -/
def mnA (f : Nat → Int) : Nat → Int
  | 0 => 0
  | k + 1 => min (mnA f k) (f (k + 1))
theorem mnA_le (f : Nat → Int) : ∀ n, mnA f n ≤ 0 ∧ ∀ k, 1 ≤ k → k ≤ n → mnA f n ≤ f k
  | 0 => ⟨Int.le_refl _, fun k h1 h2 => by omega⟩
  | n + 1 => by
    obtain ⟨h1, h2⟩ := mnA_le f n
    unfold mnA
    refine ⟨by omega, fun k hk hk' => ?_⟩
    by_cases he : k = n + 1
    · rw [he]; omega
    · have := h2 k hk (by omega); omega
theorem mnA_in (f : Nat → Int) : ∀ n, mnA f n = 0 ∨ ∃ k, 1 ≤ k ∧ k ≤ n ∧ mnA f n = f k
  | 0 => .inl rfl
  | n + 1 => by
    unfold mnA
    by_cases h : mnA f n ≤ f (n + 1)
    · rw [Int.min_eq_left h]
      rcases mnA_in f n with h1 | ⟨k, h1, h2, h3⟩
      · exact .inl h1
      · exact .inr ⟨k, h1, by omega, h3⟩
    · rw [Int.min_eq_right (by omega)]
      exact .inr ⟨n + 1, by omega, Nat.le_refl _, rfl⟩
/-- The place of the first of the least corners. -/
def fsA (f g : Nat → Int) : Nat → Nat
  | 0 => 0
  | k + 1 => if f k < f (fsA f g k) ∨ (f k = f (fsA f g k) ∧ g k < g (fsA f g k)) then k else fsA f g k
theorem fsA_lt {f g : Nat → Int} : ∀ n, 0 < n → fsA f g n < n
  | 0, h => by omega
  | 1, _ => by unfold fsA; split <;> simp [fsA]
  | n + 2, _ => by
    have := fsA_lt (f := f) (g := g) (n + 1) (by omega)
    unfold fsA; split <;> omega
theorem fsA_is {f g : Nat → Int} {m : Nat} : ∀ n, (∀ k, k < n → k ≠ m → f m < f k ∨ (f m = f k ∧ g m < g k)) → m < n → fsA f g n = m := by
  intro n
  induction n with
  | zero => intro _ h; omega
  | succ n ih =>
    intro h hm
    unfold fsA
    by_cases he : m = n
    · subst he
      by_cases h0 : m = 0
      · subst h0; split <;> simp [fsA]
      · have hlt := fsA_lt (f := f) (g := g) m (by omega)
        have := h (fsA f g m) (by omega) (by omega)
        rw [if_pos (by omega)]
    · have e := ih (fun k hk hne => h k (by omega) hne) (by omega)
      rw [e, if_neg]
      have := h n (by omega) (by omega)
      omega
theorem fw_sum : ∀ {l : List Pt}, l ≠ [] → (∀ u ∈ l, Fw u) → Fw ((l.map Prod.fst).sum, (l.map Prod.snd).sum)
  | [], h, _ => absurd rfl h
  | [a], _, h => by have := h a List.mem_cons_self; simpa using this
  | a :: b :: r, _, h => by
    have h1 := h a List.mem_cons_self
    have h2 := fw_sum (l := b :: r) (by simp) fun u hu => h u (List.mem_cons_of_mem _ hu)
    unfold Fw at *
    simp only [List.map_cons, List.sum_cons] at *
    omega
theorem fw_sumN : ∀ {l : List Pt}, l ≠ [] → (∀ u ∈ l, Fw (-u.1, -u.2)) → Fw (-(l.map Prod.fst).sum, -(l.map Prod.snd).sum)
  | [], h, _ => absurd rfl h
  | [a], _, h => by have := h a List.mem_cons_self; simpa using this
  | a :: b :: r, _, h => by
    have h1 := h a List.mem_cons_self
    have h2 := fw_sumN (l := b :: r) (by simp) fun u hu => h u (List.mem_cons_of_mem _ hu)
    unfold Fw at *
    simp only [List.map_cons, List.sum_cons] at *
    omega
/-- All corners but the first one come behind it. -/
theorem first_least {l : List Pt} (hz : ∀ a ∈ l, Nz a) (h : l.Pairwise fun a b => hfB fwB a b = true) (hx : psF Prod.fst l l.length = 0) (hy : psF Prod.snd l l.length = 0) {j : Nat} (h0 : 0 < j) (hj : j < l.length) : Fw (psF Prod.fst l j, psF Prod.snd l j) := by
  have hpt : l.Pairwise fun a b => ¬ (fwB a = false ∧ fwB b = true) := h.imp fun {a b} hab hh => by
    rw [hfB_diff (by rw [hh.1, hh.2]; simp), hh.1] at hab; cases hab
  have hsp := parted hpt
  cases hlast : fwB (pd l (j - 1))
  · -- what is left goes back
    have hne : l.drop j ≠ [] := by intro he; have := congrArg List.length he; simp at this; omega
    have hall : ∀ u ∈ l.drop j, Fw (-u.1, -u.2) := by
      intro u hu
      obtain ⟨i, hi, rfl⟩ := List.mem_iff_getElem.1 hu
      rw [List.length_drop] at hi
      rw [List.getElem_drop] at *
      refine fwB_no (hz _ (List.getElem_mem _)) ?_
      cases hb : fwB (l[j + i]'(by omega))
      · rfl
      · exfalso
        have := List.pairwise_iff_getElem.1 hpt (j - 1) (j + i) (by omega) (by omega) (by omega)
        rw [← pd_eq l (j - 1) (by omega)] at this
        exact this ⟨hlast, hb⟩
    have := fw_sumN hne hall
    have ex : psF Prod.fst l j + ((l.drop j).map Prod.fst).sum = 0 := by
      rw [← hx]; unfold psF; rw [← List.sum_append, ← List.map_append, List.take_append_drop, List.take_length]
    have ey : psF Prod.snd l j + ((l.drop j).map Prod.snd).sum = 0 := by
      rw [← hy]; unfold psF; rw [← List.sum_append, ← List.map_append, List.take_append_drop, List.take_length]
    unfold Fw at *
    simp only at *
    omega
  · refine fw_sum (l := l.take j) (by intro he; have := congrArg List.length he; rw [List.length_take, List.length_nil] at this; omega) ?_
    intro u hu
    obtain ⟨i, hi, rfl⟩ := List.mem_iff_getElem.1 hu
    rw [List.length_take] at hi
    rw [List.getElem_take] at *
    rw [← fwB_iff]
    by_cases he : i = j - 1
    · subst he; rw [← pd_eq l (j - 1) (by omega)]; exact hlast
    · cases hb : fwB (l[i]'(by omega))
      · exfalso
        have := List.pairwise_iff_getElem.1 hpt i (j - 1) (by omega) (by omega) (by omega)
        rw [← pd_eq l (j - 1) (by omega)] at this
        exact this ⟨hb, hlast⟩
      · rfl
/-- The corners that the program tells. -/
def corI (l : List Pt) : List Pt := (List.range l.length).map fun k => (psF Prod.fst l k, psF Prod.snd l k - mnA (psF Prod.snd l) l.length)
/-- The corners that the model tells. -/
def corS (l : List Pt) : List Pt := (List.range l.length).map fun i =>
  (psF Prod.fst l ((fsA (psF Prod.fst l) (psF Prod.snd l) l.length + i) % l.length) - mnA (psF Prod.fst l) l.length, psF Prod.snd l ((fsA (psF Prod.fst l) (psF Prod.snd l) l.length + i) % l.length) - mnA (psF Prod.snd l) l.length)
theorem corners {l s : List Pt} (hz : ∀ a ∈ l, Nz a) (h : l.Pairwise fun a b => hfB fwB a b = true) (hx : psF Prod.fst l l.length = 0) (hy : psF Prod.snd l l.length = 0) (h0 : 0 < l.length)
    (hs : s = l.filter (fun a => !lasB a) ++ l.filter lasB) : corS s = corI l := by
  have hsp := (turned hz h).1
  generalize hA : l.filter (fun a => !lasB a) = A at *
  generalize hB : l.filter lasB = B at *
  clear hA hB
  have hlen : s.length = l.length := by rw [hs, hsp]; simp; omega
  have hlA : l.length = B.length + A.length := by rw [hsp]; simp
  obtain ⟨n, hn⟩ : ∃ n, n = l.length := ⟨_, rfl⟩
  -- the sums of both
  have key : ∀ f : Pt → Int, psF f l l.length = 0 → ∀ i, i ≤ n → psF f s ((A.length + i) % n) = psF f l i - psF f l B.length := by
    intro f hf i hi
    have tot : psF f B B.length + psF f A A.length = 0 := by
      rw [← psF_app2, ← hsp, ← hlA]; exact hf
    have eB : psF f l B.length = psF f B B.length := by rw [hsp]; exact psF_app1 f B A (Nat.le_refl _)
    by_cases h1 : A.length + i < n
    · rw [Nat.mod_eq_of_lt h1, hs, psF_app2, eB, hsp, psF_app1 f B A (by omega)]
      omega
    · by_cases h2 : i = n ∧ A.length = n
      · obtain ⟨h3, h2⟩ := h2
        have hB0 : B.length = 0 := by omega
        rw [h3, h2, show (n + n) % n = 0 by simp, psF_0, hn, hf, hB0, psF_0]; rfl
      · have e1 : (A.length + i) % n = i - B.length := by
          rw [Nat.mod_eq_sub_mod (by omega), show A.length + i - n = i - B.length by omega]
          exact Nat.mod_eq_of_lt (by omega)
        rw [e1, hs, psF_app1 f A B (by omega), eB]
        have e2 : psF f l i = psF f B B.length + psF f A (i - B.length) := by
          conv => lhs; rw [show i = B.length + (i - B.length) by omega, hsp]
          exact psF_app2 f B A _
        omega
  have kx := key _ hx
  have ky := key _ hy
  have ls : ∀ j, 0 < j → j < n → Fw (psF Prod.fst l j, psF Prod.snd l j) := fun j h1 h2 => first_least hz h hx hy h1 (by omega)
  -- each sum of s is one of l
  have back : ∀ f : Pt → Int, psF f l l.length = 0 → ∀ k, k ≤ n → ∃ i, i < n ∧ psF f s k = psF f l i - psF f l B.length ∧ (k < n → k = (A.length + i) % n) := by
    intro f hf k hk
    by_cases hkA : A.length ≤ k ∧ k < n
    · refine ⟨k - A.length, by omega, ?_, fun _ => ?_⟩
      · have := key f hf (k - A.length) (by omega)
        rwa [show A.length + (k - A.length) = k by omega, Nat.mod_eq_of_lt (by omega)] at this
      · rw [show A.length + (k - A.length) = k by omega, Nat.mod_eq_of_lt (by omega)]
    · by_cases hkn : k = n
      · subst hkn
        have e0 : psF f s k = 0 := by
          have hp : s.Perm l := by
            rw [hs]
            conv => rhs; rw [hsp]
            exact List.perm_append_comm
          have := psF_perm f hp
          rw [hlen, hf] at this
          rw [hn]; exact this
        by_cases hB0 : B.length < k
        · exact ⟨B.length, hB0, by rw [e0]; omega, fun h => by omega⟩
        · refine ⟨0, by omega, ?_, fun h => by omega⟩
          rw [e0, show B.length = l.length by omega, hf, psF_0]; rfl
      · refine ⟨B.length + k, by omega, ?_, fun _ => ?_⟩
        · have := key f hf (B.length + k) (by omega)
          rwa [show A.length + (B.length + k) = k + n by omega, Nat.add_mod_right, Nat.mod_eq_of_lt (by omega)] at this
        · rw [show A.length + (B.length + k) = k + n by omega, Nat.add_mod_right, Nat.mod_eq_of_lt (by omega)]
  have hfirst : fsA (psF Prod.fst s) (psF Prod.snd s) n = A.length % n := by
    refine fsA_is n (fun k hk hne => ?_) (Nat.mod_lt _ (by omega))
    obtain ⟨i, hi, e1, e2⟩ := back _ hx k (by omega)
    obtain ⟨i', hi', e1', e2'⟩ := back _ hy k (by omega)
    have e2 := e2 hk
    have h00 := kx 0 (by omega)
    have h01 := ky 0 (by omega)
    have hyk := ky i (by omega)
    rw [← e2] at hyk
    rw [Nat.add_zero, psF_0] at h00 h01
    have hi0 : 0 < i := by
      rcases Nat.eq_zero_or_pos i with h | h
      · subst h; rw [Nat.add_zero] at e2; exact absurd e2 hne
      · exact h
    have := ls i hi0 hi
    unfold Fw at this
    simp only at this
    omega
  have hlx : mnA (psF Prod.fst s) n = - psF Prod.fst l B.length := by
    obtain ⟨m1, m2⟩ := mnA_le (psF Prod.fst s) n
    have hlow : mnA (psF Prod.fst s) n ≤ - psF Prod.fst l B.length := by
      have h00 := kx 0 (by omega)
      rw [Nat.add_zero, psF_0] at h00
      by_cases hA0 : A.length % n = 0
      · rw [hA0, psF_0] at h00; omega
      · have := m2 (A.length % n) (by omega) (Nat.le_of_lt (Nat.mod_lt _ (by omega)))
        omega
    have hge : ∀ k, k ≤ n → - psF Prod.fst l B.length ≤ psF Prod.fst s k := by
      intro k hk
      obtain ⟨i, hi, e1, -⟩ := back _ hx k hk
      by_cases hi0 : i = 0
      · rw [e1, hi0, psF_0]; omega
      · have := ls i (by omega) hi
        unfold Fw at this
        simp only at this
        omega
    rcases mnA_in (psF Prod.fst s) n with h1 | ⟨k, h1, h2, h3⟩
    · have := hge 0 (by omega)
      rw [psF_0] at this
      omega
    · have := hge k h2; omega
  have hly : mnA (psF Prod.snd s) n = mnA (psF Prod.snd l) n - psF Prod.snd l B.length := by
    obtain ⟨m1, m2⟩ := mnA_le (psF Prod.snd s) n
    obtain ⟨m3, m4⟩ := mnA_le (psF Prod.snd l) n
    have e1 : mnA (psF Prod.snd l) n - psF Prod.snd l B.length ≤ mnA (psF Prod.snd s) n := by
      have hge : ∀ k, k ≤ n → mnA (psF Prod.snd l) n - psF Prod.snd l B.length ≤ psF Prod.snd s k := by
        intro k hk
        obtain ⟨i, hi, e1, -⟩ := back _ hy k hk
        by_cases hi0 : i = 0
        · rw [e1, hi0, psF_0]; omega
        · have := m4 i (by omega) (by omega); omega
      rcases mnA_in (psF Prod.snd s) n with h1 | ⟨k, h1, h2, h3⟩
      · have := hge 0 (by omega)
        rw [psF_0] at this
        omega
      · have := hge k h2; omega
    have e2 : mnA (psF Prod.snd s) n ≤ mnA (psF Prod.snd l) n - psF Prod.snd l B.length := by
      have hle : ∀ i, i ≤ n → mnA (psF Prod.snd s) n ≤ psF Prod.snd l i - psF Prod.snd l B.length := by
        intro i hi
        have := ky i hi
        rw [← this]
        by_cases hk0 : (A.length + i) % n = 0
        · rw [hk0, psF_0]; exact m1
        · exact m2 _ (by omega) (Nat.le_of_lt (Nat.mod_lt _ (by omega)))
      rcases mnA_in (psF Prod.snd l) n with h1 | ⟨k, h1, h2, h3⟩
      · have := hle 0 (by omega)
        rw [psF_0] at this
        omega
      · have := hle k h2; omega
    omega
  unfold corS corI
  rw [hlen, ← hn, hfirst, hlx, hly]
  refine List.map_congr_left fun i hi => ?_
  have hi := List.mem_range.1 hi
  have e : (A.length % n + i) % n = (A.length + i) % n := by rw [Nat.mod_add_mod]
  rw [e, kx i (by omega), ky i (by omega)]
  refine Prod.ext ?_ ?_ <;> simp only <;> omega
end Go.Proofs.Ythegkifhbgopoaa

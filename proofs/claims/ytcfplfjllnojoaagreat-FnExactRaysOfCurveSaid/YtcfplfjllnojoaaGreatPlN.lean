/-
  Sums, products, moved and exchanged plane polynomials, rows, degrees: plain mathematics.
  No condition.
-/
import Derived.Test.YtcfplfjllnojoaaGreatPlM
import Derived.Test.YtcfplfjllnojoaaGreatPolyM
namespace Go.Proofs.YtcfplfjllnojoaaGreat
set_option linter.unusedSimpArgs false
set_option linter.unusedVariables false

/-! ### Sums -/
def psB (a b : List Tm) : Bool := plB a && (plB b && plB (norm (a ++ b)))
def psR (a b : List Tm) : List Tm := if plB a = true ∧ plB b = true then npR (a ++ b) else []
theorem ps_no1 {a b : List Tm} (h : plB a = false) : psB a b = false ∧ psR a b = [] := by unfold psB psR; simp [h]
theorem ps_no2 {a b : List Tm} (h : plB b = false) : psB a b = false ∧ psR a b = [] := by unfold psB psR; simp [h]
theorem ps_yes {a b : List Tm} (h : plB a = true) (h' : plB b = true) : psB a b = plB (norm (a ++ b)) ∧ psR a b = npR (a ++ b) := by unfold psB psR; simp [h, h']
theorem psR_le (a b : List Tm) : (psR a b).length ≤ 12 := by
  unfold psR; split
  · exact npR_le _
  · simp
theorem plB_norm {l : List Tm} (h : plB l = true) : norm l = l := norm_srt ((plB_iff l).1 h).2.2
/-! ### Products -/
def pq (s t : Tm) : Tm := (s.1 + t.1, s.2.1 + t.2.1, s.2.2 + t.2.2)
/-- The products of the first k terms of a with all of b, and of the next one with the first m of b. -/
def prT (a b : List Tm) (k m : Nat) : List Tm := (a.take k).flatMap (fun s => b.map (pq s)) ++ (b.take m).map (pq (td a k))
def prA (a b : List Tm) : List Tm := a.flatMap fun s => b.map (pq s)
theorem prT_0 (a b : List Tm) : prT a b 0 0 = [] := by simp [prT]
theorem prT_next (a b : List Tm) (k m : Nat) (hm : m < b.length) : prT a b k (m + 1) = prT a b k m ++ [pq (td a k) (td b m)] := by
  unfold prT; rw [take_td b m hm]; simp
theorem prT_row (a b : List Tm) (k : Nat) (hk : k < a.length) : prT a b (k + 1) 0 = prT a b k b.length := by
  unfold prT; rw [take_td a k hk]; simp
theorem prT_end (a b : List Tm) : prT a b a.length 0 = prA a b := by unfold prT prA; simp
theorem prT_len (a b : List Tm) (k m : Nat) (hk : k ≤ a.length) (hm : m ≤ b.length) : (prT a b k m).length = k * b.length + m := by
  unfold prT
  rw [List.length_append, List.length_map, List.length_take, Nat.min_eq_left hm]
  congr 1
  have : ∀ (l : List Tm), (l.flatMap fun s => b.map (pq s)).length = l.length * b.length := by
    intro l
    induction l with
    | nil => simp
    | cons s l ih => rw [List.flatMap_cons, List.length_append, ih, List.length_map, List.length_cons, Nat.add_mul]; omega
  rw [this, List.length_take, Nat.min_eq_left hk]
def ppcB (a b : List Tm) : Bool := plB a && (plB b && plB (norm (prA a b)))
def ppcR (a b : List Tm) : List Tm := if plB a = true ∧ plB b = true then npR (prA a b) else []
theorem ppc_no1 {a b : List Tm} (h : plB a = false) : ppcB a b = false ∧ ppcR a b = [] := by unfold ppcB ppcR; simp [h]
theorem ppc_no2 {a b : List Tm} (h : plB b = false) : ppcB a b = false ∧ ppcR a b = [] := by unfold ppcB ppcR; simp [h]
theorem ppc_yes {a b : List Tm} (h : plB a = true) (h' : plB b = true) : ppcB a b = plB (norm (prA a b)) ∧ ppcR a b = npR (prA a b) := by unfold ppcB ppcR; simp [h, h']
theorem ppcR_le (a b : List Tm) : (ppcR a b).length ≤ 12 := by
  unfold ppcR; split
  · exact npR_le _
  · simp
/-! ### Moved and exchanged ones -/
def mvT (x y : Int) (t : Tm) : Tm := (t.1, t.2.1, tv t x y)
def swT (t : Tm) : Tm := (t.2.1, t.1, t.2.2)
def mvL (l : List Tm) (x y : Int) : List Tm := l.map (mvT x y)
def swL (l : List Tm) : List Tm := l.map swT
theorem mvL_len (l : List Tm) (x y : Int) : (mvL l x y).length = l.length := by simp [mvL]
theorem swL_len (l : List Tm) : (swL l).length = l.length := by simp [swL]
theorem mv_srt {l : List Tm} (h : Srt l) (x y : Int) : Srt (mvL l x y) := by
  unfold Srt mvL
  rw [List.pairwise_map]
  exact h.imp fun {a b} hab => by rw [plLt_iff] at hab ⊢; exact hab
theorem mv_norm {l : List Tm} (h : plB l = true) (x y : Int) : norm (mvL l x y) = mvL l x y := norm_srt (mv_srt ((plB_iff l).1 h).2.2 x y)
theorem swap_ok {l : List Tm} (h : plB l = true) : plB (norm (swL l)) = true := by
  obtain ⟨⟨h1, h2⟩, h3, h4⟩ := (plB_iff l).1 h
  obtain ⟨n1, n2⟩ := norm_ok (swL l)
  have hl := norm_len (swL l)
  rw [swL_len] at hl
  refine (plB_iff _).2 ⟨⟨?_, by omega⟩, fun t ht => ?_, n1⟩
  · rcases Nat.eq_zero_or_pos (norm (swL l)).length with h0 | h0
    · exfalso
      have h0 := List.eq_nil_of_length_eq_zero h0
      have hne : swL l ≠ [] := by intro he; have := swL_len l; rw [he] at this; simp at this; omega
      -- putting never leaves nothing
      have hp : ∀ (m : List Tm) (t : Tm), putL m t ≠ [] := by
        intro m t
        cases m with
        | nil => simp [putL]
        | cons a r =>
          unfold putL
          split
          · simp
          · split <;> simp
      obtain ⟨ms, t, hms⟩ : ∃ ms t, swL l = ms ++ [t] := ⟨(swL l).dropLast, (swL l).getLast hne, (List.dropLast_concat_getLast hne).symm⟩
      rw [hms, norm_snoc] at h0
      exact hp _ _ h0
    · exact h0
  · have hm := ((n2 t).1 ht).1
    unfold swL at hm
    obtain ⟨s, hs, rfl⟩ := List.mem_map.1 hm
    have := plT_parts (h3 s hs)
    unfold swT
    exact plT_of (by simp; omega) (by simp; omega) (by simp; omega) (by simp; omega) (by simp; omega)
def swR (l : List Tm) : List Tm := if plB l = true then norm (swL l) else []
theorem swR_yes {l : List Tm} (h : plB l = true) : swR l = norm (swL l) := if_pos h
theorem swR_no {l : List Tm} (h : plB l = false) : swR l = [] := if_neg (by simp [h])
theorem swR_le (l : List Tm) : (swR l).length ≤ 12 := by
  cases h : plB l
  · rw [swR_no h]; simp
  · rw [swR_yes h]; exact (plB_le (swap_ok h)).2
def mvPB (l : List Tm) (x y : Int) : Bool := plB l && (finB x && (finB y && plB (norm (mvL l x y))))
def mvPR (l : List Tm) (x y : Int) : List Tm := if plB l = true ∧ finB x = true ∧ finB y = true then npR (mvL l x y) else []
theorem mv_no1 {l : List Tm} {x y : Int} (h : plB l = false) : mvPB l x y = false ∧ mvPR l x y = [] := by unfold mvPB mvPR; simp [h]
theorem mv_no2 {l : List Tm} {x y : Int} (h : finB x = false) : mvPB l x y = false ∧ mvPR l x y = [] := by unfold mvPB mvPR; simp [h]
theorem mv_no3 {l : List Tm} {x y : Int} (h : finB y = false) : mvPB l x y = false ∧ mvPR l x y = [] := by unfold mvPB mvPR; simp [h]
theorem mv_yes {l : List Tm} {x y : Int} (h : plB l = true) (hx : finB x = true) (hy : finB y = true) : mvPB l x y = plB (norm (mvL l x y)) ∧ mvPR l x y = npR (mvL l x y) := by unfold mvPB mvPR; simp [h, hx, hy]
theorem mvPR_le (l : List Tm) (x y : Int) : (mvPR l x y).length ≤ 12 := by
  unfold mvPR; split
  · exact npR_le _
  · simp
/-! ### Degrees -/
def dgL (l : List Tm) : Nat → Int
  | 0 => 0
  | k + 1 => if dgL l k < (td l k).1 + (td l k).2.1 then (td l k).1 + (td l k).2.1 else dgL l k
theorem dgL_bd {l : List Tm} (h : plB l = true) : ∀ k, k ≤ l.length → 0 ≤ dgL l k ∧ dgL l k ≤ 6
  | 0, _ => by simp [dgL]
  | k + 1, hk => by
    have h1 := dgL_bd h k (by omega)
    have h2 := plT_parts (plB_at h (k := k) hk)
    unfold dgL; split <;> omega
def dgR (l : List Tm) : Int := if plB l = true then dgL l l.length else 0
/-! ### Rows -/
def rwL (l : List Tm) (j : Int) : Nat → List Int
  | 0 => []
  | k + 1 => if (td l k).2.1 = j then rwL l j k ++ List.replicate ((td l k).1.toNat - (rwL l j k).length) 1000000000 ++ [(td l k).2.2] else rwL l j k
theorem rwL_ok {l : List Tm} (h : plB l = true) (j : Int) : ∀ k, k ≤ l.length → (rwL l j k = [] ∨ ∃ m, m < k ∧ (td l m).2.1 = j ∧ ((rwL l j k).length : Int) = (td l m).1 + 1 ∧ gd (rwL l j k) ((rwL l j k).length - 1) = (td l m).2.2) ∧ (rwL l j k).all numB = true
  | 0, _ => ⟨.inl rfl, rfl⟩
  | k + 1, hk => by
    obtain ⟨h1, h2⟩ := rwL_ok h j k (by omega)
    have ht := plT_parts (plB_at h (k := k) hk)
    by_cases hj : (td l k).2.1 = j
    · unfold rwL
      rw [if_pos hj]
      have hle : ((rwL l j k).length : Int) ≤ (td l k).1 := by
        rcases h1 with h1 | ⟨m, hm, hmj, hml, -⟩
        · rw [h1]; simp; omega
        · have hlt : plLt (td l m) (td l k) = true := by
            have := List.pairwise_iff_getElem.1 ((plB_iff l).1 h).2.2 m k (by omega) (by omega) hm
            rwa [td_eq l m (by omega), td_eq l k (by omega)]
          rw [plLt_iff] at hlt
          omega
      refine ⟨.inr ⟨k, by omega, hj, by simp; try omega, ?_⟩, ?_⟩
      · unfold gd
        rw [List.getD_eq_getElem?_getD, List.getElem?_append_right (by simp <;> omega)]
        simp
      · rw [List.all_append, List.all_append, h2]
        simp only [Bool.true_and, List.all_cons, List.all_nil, Bool.and_true, Bool.and_eq_true, List.all_eq_true]
        refine ⟨fun x hx => ?_, finB_num ((finB_iff _).2 ⟨ht.2.2.2.1, ht.2.2.2.2⟩)⟩
        rw [List.eq_of_mem_replicate hx]; rfl
    · unfold rwL
      rw [if_neg hj]
      refine ⟨?_, h2⟩
      rcases h1 with h1 | ⟨m, hm, hr⟩
      · exact .inl h1
      · exact .inr ⟨m, by omega, hr⟩
theorem rwL_len {l : List Tm} (h : plB l = true) (j : Int) (k : Nat) (hk : k ≤ l.length) : (rwL l j k).length ≤ 7 := by
  rcases (rwL_ok h j k hk).1 with h1 | ⟨m, hm, -, h2, -⟩
  · rw [h1]; simp
  · have := plT_parts (plB_at h (k := m) (by omega)); omega
/-- How long a row is before a term of its own goes in. -/
theorem rwL_le {l : List Tm} (h : plB l = true) (j : Int) (k : Nat) (hk : k < l.length) (hj : (td l k).2.1 = j) : ((rwL l j k).length : Int) ≤ (td l k).1 := by
  rcases (rwL_ok h j k (by omega)).1 with h1 | ⟨m, hm, hmj, hml, -⟩
  · have := plT_parts (plB_at h (k := k) hk)
    rw [h1]; simp; omega
  · have hlt : plLt (td l m) (td l k) = true := by
      have := List.pairwise_iff_getElem.1 ((plB_iff l).1 h).2.2 m k (by omega) (by omega) hm
      rwa [td_eq l m (by omega), td_eq l k (by omega)]
    rw [plLt_iff] at hlt
    omega
theorem rwL_po {l : List Tm} (h : plB l = true) (j : Int) : poB (rwL l j l.length) = decide (0 < (rwL l j l.length).length) := by
  obtain ⟨h1, h2⟩ := rwL_ok h j l.length (Nat.le_refl _)
  have hl := rwL_len h j l.length (Nat.le_refl _)
  rcases h1 with h1 | ⟨m, hm, -, h3, h4⟩
  · rw [h1]; rfl
  · have ht := plT_parts (plB_at h (k := m) hm)
    have hp : 0 < (rwL l j l.length).length := by omega
    unfold poB
    rw [h2, h4, (inB_iff _ _ _).2 (by omega), decide_eq_true hp]
    simp; omega
def rwB (l : List Tm) (j : Int) : Bool := plB l && (inB j 0 6 && decide (0 < (rwL l j l.length).length))
def rwR (l : List Tm) (j : Int) : List Int := if rwB l j = true then rwL l j l.length else []
theorem rw_no1 {l : List Tm} {j : Int} (h : plB l = false) : rwB l j = false ∧ rwR l j = [] := by
  have : rwB l j = false := by unfold rwB; simp [h]
  exact ⟨this, by unfold rwR; simp [this]⟩
theorem rw_no2 {l : List Tm} {j : Int} (h : inB j 0 6 = false) : rwB l j = false ∧ rwR l j = [] := by
  have : rwB l j = false := by unfold rwB; simp [h]
  exact ⟨this, by unfold rwR; simp [this]⟩
theorem rw_yes {l : List Tm} {j : Int} (h : plB l = true) (hj : inB j 0 6 = true) : rwB l j = decide (0 < (rwL l j l.length).length) := by unfold rwB; simp [h, hj]
theorem rwR_le (l : List Tm) (j : Int) : (rwR l j).length ≤ 7 := by
  unfold rwR; split
  · rename_i h
    unfold rwB at h
    simp only [Bool.and_eq_true] at h
    exact rwL_len h.1 j _ (Nat.le_refl _)
  · simp
/-! ### Points -/
def ptsL (l : List Tm) : List (Int × Int) := l.map fun t => (t.1, t.2.1)
def ptsR (l : List Tm) : List (Int × Int) := if plB l = true then ptsL l else []
end Go.Proofs.YtcfplfjllnojoaaGreat

/-
  What the law on drawn lists asks of lists of numbers.
  No condition: plain arithmetic.
-/
import Derived.Test.YtiopinhdfoinoacDoorTropB
import Derived.Test.YtiopinhdfoinoacDoorQI
import Derived.Test.YtiopinhdfoinoacDoorDrawP
namespace Go.Proofs.YtiopinhdfoinoacDoor
set_option linter.unusedSimpArgs false
set_option linter.unusedVariables false
open Go.ChangeShapes Go.WideShapes Go.ChangeAt Go.RowKit

theorem plus_comm9 (a b : Int) : plusI b a = plusI a b := by unfold plusI; split <;> split <;> omega
theorem big9_any (A A' : Option Addr) (n n' c c' : Nat) (hn : n ≤ 9223372036854775807) (hn' : n' ≤ 9223372036854775807) (w : World) : Calls Tryd.prog 4 #[.slice A n c, .slice A' n' c'] w fun e w' => e = .returned (.bool (decide (1048576 < n + n'))) ∧ w = w' := by
  by_cases h : 1048576 < n
  · go_enter Tryd.func4, Tryd.ntmps4
    go_wp2
    go_ret
    exact ⟨ret_bool (by symm; simp; omega), rfl⟩
  · by_cases h' : 1048576 - (n : Int) < n'
    · go_enter Tryd.func4, Tryd.ntmps4
      go_wp2
      go_ret
      exact ⟨ret_bool (by symm; simp; omega), rfl⟩
    · go_enter Tryd.func4, Tryd.ntmps4
      go_wp2
      go_ret
      exact ⟨ret_bool (by symm; simp; omega), rfl⟩
theorem fold_le : ∀ (zs : List Int) (a : Int), zs.foldl lessI a ≤ a ∧ ∀ z ∈ zs, zs.foldl lessI a ≤ z
  | [], a => ⟨Int.le_refl _, fun z hz => by simp at hz⟩
  | y :: zs, a => by
    obtain ⟨h1, h2⟩ := fold_le zs (lessI a y)
    have h3 : lessI a y ≤ a ∧ lessI a y ≤ y := by unfold lessI; split <;> omega
    refine ⟨Int.le_trans h1 h3.1, fun z hz => ?_⟩
    rcases List.mem_cons.1 hz with rfl | hz
    · exact Int.le_trans h1 h3.2
    · exact h2 z hz
theorem fold_in : ∀ (zs : List Int) (a : Int), zs.foldl lessI a = a ∨ zs.foldl lessI a ∈ zs
  | [], a => .inl rfl
  | y :: zs, a => by
    rcases fold_in zs (lessI a y) with h | h
    · have h3 : lessI a y = a ∨ lessI a y = y := by unfold lessI; split <;> simp
      rcases h3 with h3 | h3
      · exact .inl (h.trans h3)
      · exact .inr (by rw [show (y :: zs).foldl lessI a = y from h.trans h3]; exact List.mem_cons_self ..)
    · exact .inr (List.mem_cons_of_mem _ h)
theorem gd_mem9 {zs : List Int} {k : Nat} (hk : k < zs.length) : gd zs k ∈ zs := by rw [gd_eq zs k hk]; exact List.getElem_mem hk
theorem least_le9 {zs : List Int} {k : Nat} (hk : k < zs.length) : leastL zs ≤ gd zs k := (fold_le zs _).2 _ (gd_mem9 hk)
theorem plc_mem (zs : List Int) (m : Int) : ∀ (n : Nat) (x : Int), x ∈ plc zs m n ↔ ∃ k : Nat, k < n ∧ x = k ∧ gd zs k = m
  | 0, x => by simp [plc]
  | n + 1, x => by
    unfold plc
    rw [List.mem_append, plc_mem zs m n x]
    constructor
    · rintro (⟨k, h1, h2, h3⟩ | h)
      · exact ⟨k, by omega, h2, h3⟩
      · split at h
        · rename_i hq
          rw [List.mem_singleton] at h
          exact ⟨n, by omega, h, by simpa using hq⟩
        · simp at h
    · rintro ⟨k, h1, h2, h3⟩
      rcases Nat.lt_or_ge k n with h | h
      · exact .inl ⟨k, h, h2, h3⟩
      · obtain rfl : k = n := by omega
        refine .inr ?_
        rw [if_pos (by simpa using h3)]
        exact List.mem_singleton.2 h2
/-- Is a number in a list: as the law asks it. -/
def inL (zs : List Int) (n : Int) : Bool := zs.any fun x => decide (x = n)
theorem inL_iff (zs : List Int) (n : Int) : inL zs n = true ↔ n ∈ zs := by
  unfold inL
  rw [List.any_eq_true]
  constructor
  · rintro ⟨x, h1, h2⟩; rw [← of_decide_eq_true h2]; exact h1
  · intro h; exact ⟨n, h, by simp⟩
theorem inL_no {zs : List Int} {n : Int} (h : ∀ k, k < zs.length → gd zs k ≠ n) : inL zs n = false := by
  rw [← Bool.not_eq_true, inL_iff]
  intro hm
  obtain ⟨k, hk, he⟩ := List.getElem_of_mem hm
  exact h k hk (by rw [gd_eq zs k hk]; exact he)
theorem inL_yes {zs : List Int} {n : Int} {k : Nat} (hk : k < zs.length) (h : gd zs k = n) : inL zs n = true := (inL_iff _ _).2 (h ▸ gd_mem9 hk)
theorem places_in {zs : List Int} {k : Nat} (hk : k < zs.length) : inL (places zs) (k : Int) = decide (gd zs k = leastL zs) := by
  cases hq : inL (places zs) (k : Int)
  · symm
    refine decide_eq_false fun h => ?_
    have : inL (places zs) (k : Int) = true := (inL_iff _ _).2 ((plc_mem zs _ _ _).2 ⟨k, hk, rfl, h⟩)
    rw [hq] at this; cases this
  · symm
    obtain ⟨j, h1, h2, h3⟩ := (plc_mem zs _ _ _).1 ((inL_iff _ _).1 hq)
    have : k = j := by omega
    rw [this]
    exact decide_eq_true h3
theorem shift_listB {zs : List Int} {d : Int} (h : shOk zs d = true) : listB (shiftL zs d) = true ∧ listB zs = true ∧ finB d = true := by
  unfold shOk at h
  simp only [Bool.and_eq_true] at h
  obtain ⟨h1, h2, h3⟩ := h
  refine ⟨?_, h1, h2⟩
  unfold listB
  rw [shift_len, decide_eq_true (list_parts h1).1, Bool.true_and]
  unfold shiftL
  rw [List.all_map]
  exact h3
theorem least_shift {zs : List Int} {d : Int} (hz : zs.all numB = true) (hd : -1000000 ≤ d ∧ d ≤ 1000000) (hl : leastL zs ≠ 1000000000) : leastL (shiftL zs d) = leastL zs + d := by
  have hin : leastL zs ∈ zs := (fold_in zs _).resolve_left hl
  have hn : numB (leastL zs) = true := List.all_eq_true.1 hz _ hin
  have hb : -1000000 ≤ leastL zs ∧ leastL zs ≤ 1000000 := (numB_cases hn).resolve_left hl
  have hm : leastL zs + d ∈ shiftL zs d := by
    refine List.mem_map.2 ⟨_, hin, ?_⟩
    unfold plusI
    rw [if_neg (by omega)]
  have h1 : leastL (shiftL zs d) ≤ leastL zs + d := (fold_le (shiftL zs d) 1000000000).2 _ hm
  have h2 : leastL zs + d ≤ leastL (shiftL zs d) := by
    rcases fold_in (shiftL zs d) 1000000000 with h | h
    · show _ ≤ (shiftL zs d).foldl lessI 1000000000
      rw [h]; omega
    · obtain ⟨z, hz1, hz2⟩ := List.mem_map.1 h
      show _ ≤ (shiftL zs d).foldl lessI 1000000000
      rw [← hz2]
      have h3 : leastL zs ≤ z := (fold_le zs 1000000000).2 z hz1
      unfold plusI
      split <;> omega
  omega
theorem sum_shift {zs : List Int} {d : Int} (h : shOk zs d = true) (hl : sumV zs ≠ 1000000000) : sumV (shRes zs d) = sumV zs + d := by
  obtain ⟨h1, h2, h3⟩ := shift_listB h
  unfold sumV at hl ⊢
  rw [if_pos h2] at hl ⊢
  rw [shRes_yes h, if_pos h1]
  exact least_shift (list_parts h2).2 ((finB_iff d).1 h3) hl
theorem nm_zero {zs : List Int} (h : nmOk zs = true) : listB (nmRes zs) = true ∧ sumV (nmRes zs) = 0 := by
  have h0 := h
  unfold nmOk at h
  simp only [Bool.and_eq_true, Bool.not_eq_true'] at h
  obtain ⟨h1, h2, h3⟩ := h
  have hf := least_fin zs (list_parts h1).2 h2
  have hs : shOk zs (-leastL zs) = true := by
    unfold shOk
    rw [h1, h3, (finB_iff _).2 (by omega)]; rfl
  have hr : nmRes zs = shRes zs (-leastL zs) := by
    unfold nmRes; rw [if_pos h0, shRes_yes hs]
  have hl : sumV zs ≠ 1000000000 := by
    unfold sumV; rw [if_pos h1]; omega
  have e1 := sum_shift hs hl
  have e2 : sumV zs = leastL zs := by unfold sumV; rw [if_pos h1]
  rw [hr]
  refine ⟨by rw [shRes_yes hs]; exact (shift_listB hs).1, by omega⟩
theorem two_comm (zs ys : List Int) : twoB ys zs = twoB zs ys := by
  unfold twoB
  rw [show (ys.length == zs.length) = (zs.length == ys.length) from by rw [Bool.beq_comm]]
  cases listB zs <;> cases listB ys <;> rfl
theorem prods_comm : ∀ (zs ys : List Int), prods ys zs = prods zs ys
  | [], ys => by unfold prods; simp
  | z :: zs, [] => by unfold prods; simp
  | z :: zs, y :: ys => by
    have := prods_comm zs ys
    unfold prods at this ⊢
    rw [List.zipWith_cons_cons, List.zipWith_cons_cons, this, plus_comm9]
theorem dot_comm (zs ys : List Int) : tDotB ys zs = tDotB zs ys ∧ tDot ys zs = tDot zs ys := by
  unfold tDotB tDot dotV
  rw [two_comm, prods_comm]
  exact ⟨rfl, rfl⟩
end Go.Proofs.YtiopinhdfoinoacDoor

/-
  Means of lists, of the program and of the model; copies and comparisons of fractions: what each call returns.
  Condition: the slice reads as the list that is named.
-/
import Derived.Test.YtinijfkidjakpaaFracC
namespace Go.Proofs.Ytinijfkidjakpaa
set_option linter.unusedSimpArgs false
set_option linter.unusedVariables false
open Go.ChangeShapes Go.WideShapes Go.ChangeAt Go.RowKit

/-- The sum of a list. -/
def sumI (zs : List Int) : Int := zs.foldl (· + ·) 0
theorem sumI_next (zs : List Int) (k : Nat) (hk : k < zs.length) : sumI (zs.take (k + 1)) = sumI (zs.take k) + gd zs k := by
  unfold sumI; rw [take_succ_gd zs k hk, List.foldl_append]; rfl
theorem sumI_end (zs : List Int) (k : Nat) (hk : ¬ k < zs.length) : sumI (zs.take k) = sumI zs := by rw [List.take_of_length_le (by omega)]
/-- Has the list a mean. -/
def meanB (zs : List Int) : Bool := inB zs.length 1 40 && zs.all finB
theorem fin_bad (zs : List Int) (k : Nat) (hk : k < zs.length) (h : finB (gd zs k) = false) : zs.all finB = false := by
  rw [List.all_eq_false]
  exact ⟨zs[k], List.getElem_mem hk, by rw [gd_eq zs k hk] at h; simpa using h⟩
theorem fin_next (zs : List Int) (k : Nat) (hk : k < zs.length) (h0 : (zs.take k).all finB = true) (h : finB (gd zs k) = true) : (zs.take (k + 1)).all finB = true := by
  rw [take_succ_gd zs k hk, List.all_append, h0]; simpa using h
theorem fin_end (zs : List Int) (k : Nat) (hk : ¬ k < zs.length) (h0 : (zs.take k).all finB = true) : zs.all finB = true := by
  rwa [List.take_of_length_le (by omega)] at h0
theorem fin_at {zs : List Int} (h : zs.all finB = true) (k : Nat) (hk : k < zs.length) : -1000000 ≤ gd zs k ∧ gd zs k ≤ 1000000 := by
  have := List.all_eq_true.1 h zs[k] (List.getElem_mem hk)
  rw [gd_eq zs k hk]
  exact (finB_iff _).1 this
set_option maxHeartbeats 400000 in
theorem l1All_any (w : World) (B : Nat) (v : Value) (zs : List Int) (h : IS w B v zs) : Calls Try.prog 67 #[v, .int .i64 (-1000000), .int .i64 1000000] w fun e w' => e = .returned (.bool (zs.all finB)) ∧ w = w' := by
  obtain ⟨A, cap, rfl, hm, hp⟩ := h.parts
  unfold maxLen at hm
  have HP := Lib.hid hp
  clear hp h
  go_enter Try.func67, Try.ntmps67
  go_wp2
  go_loop [11] (fun i => ∃ k : Nat, k ≤ zs.length ∧ i = .int .i64 k ∧ Hid ((zs.take k).all finB = true)) (fun i => zs.length - (intOf i).toNat)
  case atStart => exact ⟨0, by omega, rfl, Lib.hid rfl⟩
  case round =>
    obtain ⟨k, hk, rfl, hall⟩ := hrel
    by_cases hlt : k < zs.length
    · obtain ⟨g, rfl, hc⟩ := HP.out k hlt
      cases hn : finB (gd zs k)
      · have hb : inB (gd zs k) (-1000000) 1000000 = false := hn
        have HB := Lib.hid hn
        clear hn
        go_wp2_with (go_at_call 70; refine (l1In_any _ _ _ _).mono ?_; rintro e w' ⟨rfl, rfl⟩)
        go_ret
        exact ⟨ret_bool (by rw [fin_bad zs k hlt HB.out]), rfl⟩
      · have hb : inB (gd zs k) (-1000000) 1000000 = true := hn
        have HB := Lib.hid hn
        clear hn
        go_wp2_with (go_at_call 70; refine (l1In_any _ _ _ _).mono ?_; rintro e w' ⟨rfl, rfl⟩)
        go_round
        case rel => exact ⟨k + 1, by omega, by go_num, Lib.hid (fin_next zs k hlt hall.out HB.out)⟩
        case measure => simp [intOf]; omega
    · go_wp2
      go_ret
      exact ⟨ret_bool (by rw [fin_end zs k hlt hall.out]), rfl⟩
/-- What lay there before a call lies there behind it: two rules for the walk. -/
theorem cellAt {W w1 : World} (b : Below W.heap.size W w1) : ∀ g k, g < W.heap.size → w1.cell? ⟨g, k, none⟩ = W.cell? ⟨g, k, none⟩ := fun g k h => b.cell (p := ⟨g, k, none⟩) h
theorem frozenAt {W w1 : World} (b : Below W.heap.size W w1) : ∀ g k, g < W.heap.size → w1.frozen? ⟨g, k, none⟩ = W.frozen? ⟨g, k, none⟩ := fun g k h => b.frozen (p := ⟨g, k, none⟩) h
theorem toFrac_any (a b : Int) (w : World) : Calls Try.prog 24 #[fracV a b] w fun e w' => e = .returned (fracV a b) ∧ w' = ((w.alloc (.cells #[.int .i64 a, .int .i64 b] 35)).alloc (.cells #[.int .i64 a, .int .i64 b] 38)).alloc (.cells #[.int .i64 a, .int .i64 b] 38) := by
  go_enter Try.func24, Try.ntmps24
  go_wp2
  go_returns
  exact ⟨rfl, rfl⟩
theorem eqFrac_same (a b : Int) (w : World) : Calls Try.prog 28 #[fracV a b, fracV a b] w fun e w' => e = .returned (.bool true) ∧ Below w.heap.size w w' := by
  go_enter Try.func28, Try.ntmps28
  go_wp2
  go_ret
  exact ⟨ret_bool rfl, by go_grown⟩
theorem toFrac_b (a b : Int) (w : World) : Calls Try.prog 24 #[fracV a b] w fun e w' => e = .returned (fracV a b) ∧ Below w.heap.size w w' :=
  (toFrac_any a b w).mono fun e w' ⟨h1, h2⟩ => ⟨h1, by subst h2; exact ((((Below.refl _ _).alloc (Nat.le_refl _) _).alloc (by simp) _).alloc (by simp; omega) _)⟩
/-- Two fractions' boxes, side by side: their four cells. -/
abbrev S4 (w' : World) (g : Nat) (a b c d : Int) : Prop := w'.cell? ⟨g, 0, none⟩ = some (.int .i64 a) ∧ w'.cell? ⟨g, 1, none⟩ = some (.int .i64 b) ∧ w'.cell? ⟨g + 1, 0, none⟩ = some (.int .i64 c) ∧ w'.cell? ⟨g + 1, 1, none⟩ = some (.int .i64 d)
theorem S4.new (w : World) (a b c d : Int) (t u : TypeId) : S4 ((w.alloc (.cells #[.int .i64 a, .int .i64 b] t)).alloc (.cells #[.int .i64 c, .int .i64 d] u)) w.heap.size a b c d := by
  refine ⟨?_, ?_, ?_, ?_⟩ <;> simp [World.cell?_alloc_at, World.cell?_alloc_past]
theorem S4.drew {w : World} {g : Nat} {a b c d : Int} (h : S4 w g a b c d) : S4 w.drew g a b c d := h
theorem S4.below {w w' : World} {g : Nat} {a b c d : Int} (h : S4 w g a b c d) (hb : Below w.heap.size w w') : S4 w' g a b c d := by
  obtain ⟨h1, h2, h3, h4⟩ := h
  have l1 := cell_lt h1
  have l3 := cell_lt h3
  exact ⟨(cellAt hb g 0 l1).trans h1, (cellAt hb g 1 l1).trans h2, (cellAt hb (g + 1) 0 l3).trans h3, (cellAt hb (g + 1) 1 l3).trans h4⟩
theorem S4.alloc {w : World} {g : Nat} {a b c d : Int} (h : S4 w g a b c d) (o : Obj) : S4 (w.alloc o) g a b c d := h.below ((Below.refl _ _).alloc (Nat.le_refl _) o)
theorem S4.setAt {w w1 : World} {g : Nat} {a b c d : Int} (h : S4 w g a b c d) (h1 : S4 w1 g a b c d) (i : Nat) (u : Value) : S4 (w.setCell ⟨w1.heap.size, i, none⟩ u) g a b c d := by
  have l1 : g < w1.heap.size := cell_lt h1.1
  have l3 : g + 1 < w1.heap.size := cell_lt h1.2.2.1
  obtain ⟨k1, k2, k3, k4⟩ := h
  have far : ∀ (x : Addr), x.block < w1.heap.size → (w.setCell ⟨w1.heap.size, i, none⟩ u).cell? x = w.cell? x := fun x hx => World.cell?_setCell_other _ _ _ _ (fun e => by rw [← e] at hx; exact Nat.lt_irrefl _ hx)
  exact ⟨(far ⟨g, 0, none⟩ l1).trans k1, (far ⟨g, 1, none⟩ l1).trans k2, (far ⟨g + 1, 0, none⟩ l3).trans k3, (far ⟨g + 1, 1, none⟩ l3).trans k4⟩
theorem S4.setN {w : World} {g : Nat} {a b c d : Int} (h : S4 w g a b c d) (k : Nat) (hk : g + 1 < k) (i : Nat) (u : Value) : S4 (w.setCell ⟨k, i, none⟩ u) g a b c d := by
  obtain ⟨k1, k2, k3, k4⟩ := h
  have far : ∀ (x : Addr), x.block < k → (w.setCell ⟨k, i, none⟩ u).cell? x = w.cell? x := fun x hx => World.cell?_setCell_other _ _ _ _ (fun e => by rw [← e] at hx; exact Nat.lt_irrefl _ hx)
  exact ⟨(far ⟨g, 0, none⟩ (show g < k by omega)).trans k1, (far ⟨g, 1, none⟩ (show g < k by omega)).trans k2, (far ⟨g + 1, 0, none⟩ hk).trans k3, (far ⟨g + 1, 1, none⟩ hk).trans k4⟩
/-- One fraction's box: its two cells. -/
abbrev S2 (w' : World) (g : Nat) (a b : Int) : Prop := w'.cell? ⟨g, 0, none⟩ = some (.int .i64 a) ∧ w'.cell? ⟨g, 1, none⟩ = some (.int .i64 b)
theorem S2.new (w : World) (a b : Int) (t : TypeId) : S2 (w.alloc (.cells #[.int .i64 a, .int .i64 b] t)) w.heap.size a b := by
  refine ⟨?_, ?_⟩ <;> simp [World.cell?_alloc_at]
theorem S2.drew {w : World} {g : Nat} {a b : Int} (h : S2 w g a b) : S2 w.drew g a b := h
theorem S2.below {w w' : World} {g : Nat} {a b : Int} (h : S2 w g a b) (hb : Below w.heap.size w w') : S2 w' g a b := by
  obtain ⟨h1, h2⟩ := h
  have l1 := cell_lt h1
  exact ⟨(cellAt hb g 0 l1).trans h1, (cellAt hb g 1 l1).trans h2⟩
theorem S2.alloc {w : World} {g : Nat} {a b : Int} (h : S2 w g a b) (o : Obj) : S2 (w.alloc o) g a b := h.below ((Below.refl _ _).alloc (Nat.le_refl _) o)
theorem F2.far {w : World} {g h i : Nat} {a b : Int} {v : Value} (H : F2 w g a b) (hn : h ≠ g) : F2 (w.setCell ⟨h, i, none⟩ v) g a b := by
  obtain ⟨h1, h2, h3, h4⟩ := H
  refine ⟨(World.cell?_setCell_other _ _ _ _ (by simp [hn])).trans h1, (World.cell?_setCell_other _ _ _ _ (by simp [hn])).trans h2, ?_, ?_⟩ <;> simp [h3, h4]
end Go.Proofs.Ytinijfkidjakpaa

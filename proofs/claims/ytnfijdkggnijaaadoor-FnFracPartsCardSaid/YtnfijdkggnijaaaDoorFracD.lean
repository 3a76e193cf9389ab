/-
  Means of lists, of the program and of the model; copies and comparisons of fractions: what each call returns.
  Condition: the slice reads as the list that is named.
-/
import Derived.Test.YtnfijdkggnijaaaDoorFracC
namespace Go.Proofs.YtnfijdkggnijaaaDoor
set_option linter.unusedSimpArgs false
set_option linter.unusedVariables false
open Go.ChangeShapes Go.WideShapes Go.ChangeAt Go.RowKit

/-- The sum of a list. -/
def sumI (zs : List Int) : Int := zs.foldl (· + ·) 0
theorem sumI_next (zs : List Int) (k : Nat) (hk : k < zs.length) : sumI (zs.take (k + 1)) = sumI (zs.take k) + gd zs k := by
  unfold sumI; rw [take_succ_gd zs k hk, List.foldl_append]; rfl
theorem sumI_end (zs : List Int) (k : Nat) (hk : ¬ k < zs.length) : sumI (zs.take k) = sumI zs := by rw [List.take_of_length_le (by omega)]
/-- Has the list a mean. -/
def meanB (zs : List Int) : Bool := inB zs.length 1 40 && zs.all finB
theorem fin_bad (zs : List Int) (k : Nat) (hk : k < zs.length) (h : finB (gd zs k) = false) : zs.all finB = false := by
  rw [List.all_eq_false]
  exact ⟨zs[k], List.getElem_mem hk, by rw [gd_eq zs k hk] at h; simpa using h⟩
theorem fin_next (zs : List Int) (k : Nat) (hk : k < zs.length) (h0 : (zs.take k).all finB = true) (h : finB (gd zs k) = true) : (zs.take (k + 1)).all finB = true := by
  rw [take_succ_gd zs k hk, List.all_append, h0]; simpa using h
theorem fin_end (zs : List Int) (k : Nat) (hk : ¬ k < zs.length) (h0 : (zs.take k).all finB = true) : zs.all finB = true := by
  rwa [List.take_of_length_le (by omega)] at h0
theorem fin_at {zs : List Int} (h : zs.all finB = true) (k : Nat) (hk : k < zs.length) : -1000000 ≤ gd zs k ∧ gd zs k ≤ 1000000 := by
  have := List.all_eq_true.1 h zs[k] (List.getElem_mem hk)
  rw [gd_eq zs k hk]
  exact (finB_iff _).1 this
set_option maxHeartbeats 400000 in
theorem l1All_any (w : World) (B : Nat) (v : Value) (zs : List Int) (h : IS w B v zs) : Calls Tryd.prog 41 #[v, .int .i64 (-1000000), .int .i64 1000000] w fun e w' => e = .returned (.bool (zs.all finB)) ∧ w = w' := by
  obtain ⟨A, cap, rfl, hm, hp⟩ := h.parts
  unfold maxLen at hm
  have HP := Lib.hid hp
  clear hp h
  go_enter Tryd.func41, Tryd.ntmps41
  go_wp2
  go_loop [11] (fun i => ∃ k : Nat, k ≤ zs.length ∧ i = .int .i64 k ∧ Hid ((zs.take k).all finB = true)) (fun i => zs.length - (intOf i).toNat)
  case atStart => exact ⟨0, by omega, rfl, Lib.hid rfl⟩
  case round =>
    obtain ⟨k, hk, rfl, hall⟩ := hrel
    by_cases hlt : k < zs.length
    · obtain ⟨g, rfl, hc⟩ := HP.out k hlt
      cases hn : finB (gd zs k)
      · have hb : inB (gd zs k) (-1000000) 1000000 = false := hn
        have HB := Lib.hid hn
        clear hn
        go_wp2_with (go_at_call 40; refine (l1In_any _ _ _ _).mono ?_; rintro e w' ⟨rfl, rfl⟩)
        go_ret
        exact ⟨ret_bool (by rw [fin_bad zs k hlt HB.out]), rfl⟩
      · have hb : inB (gd zs k) (-1000000) 1000000 = true := hn
        have HB := Lib.hid hn
        clear hn
        go_wp2_with (go_at_call 40; refine (l1In_any _ _ _ _).mono ?_; rintro e w' ⟨rfl, rfl⟩)
        go_round
        case rel => exact ⟨k + 1, by omega, by go_num, Lib.hid (fin_next zs k hlt hall.out HB.out)⟩
        case measure => simp [intOf]; omega
    · go_wp2
      go_ret
      exact ⟨ret_bool (by rw [fin_end zs k hlt hall.out]), rfl⟩
set_option maxHeartbeats 1000000 in
theorem specMean_any (w : World) (B : Nat) (v : Value) (zs : List Int) (h : IS w B v zs) : Calls Tryd.prog 19 #[v] w fun x w' => GivesOp (meanB zs) (sumI zs) zs.length w x w' := by
  have h0 := Lib.hid h
  have h' := h.alloc (.cells #[.int .i64 0, .int .i64 0] 24)
  obtain ⟨A, cap, rfl, hm, hp⟩ := h'.parts
  unfold maxLen at hm
  have HP := Lib.hid hp
  have H' := Lib.hid h'
  clear hp h h'
  cases hl : inB (zs.length : Int) 1 40
  · go_enter Tryd.func19, Tryd.ntmps19
    go_wp2_with (go_at_call 40; refine (l1In_any _ _ _ _).mono ?_; rintro e w' ⟨rfl, rfl⟩)
    go_returns
    exact givesOp_no (by simp [meanB, hl]) (by go_grown)
  · cases ha : zs.all finB
    · have HA := Lib.hid ha
      go_enter Tryd.func19, Tryd.ntmps19
      go_wp2_with (first | (go_at_call 40; refine (l1In_any _ _ _ _).mono ?_; rintro e w' ⟨rfl, rfl⟩) | (go_at_call 41; refine (l1All_any _ B _ zs H'.out).mono ?_; rw [HA.out]; rintro e w' ⟨rfl, rfl⟩))
      go_returns
      exact givesOp_no (by simp [meanB, HA.out]) (by go_grown)
    · have HA := Lib.hid ha
      have HL := Lib.hid hl
      obtain ⟨hl1, hl2⟩ := (inB_iff _ _ _).1 hl
      go_enter Tryd.func19, Tryd.ntmps19
      go_wp2_with (first | (go_at_call 40; refine (l1In_any _ _ _ _).mono ?_; rintro e w' ⟨rfl, rfl⟩) | (go_at_call 41; refine (l1All_any _ B _ zs H'.out).mono ?_; rw [HA.out]; rintro e w' ⟨rfl, rfl⟩))
      go_loop [4, 19] (fun x i => ∃ k : Nat, k ≤ zs.length ∧ i = .int .i64 k ∧ x = .int .i64 (sumI (zs.take k)) ∧ Hid (-1000000 * (k : Int) ≤ sumI (zs.take k) ∧ sumI (zs.take k) ≤ 1000000 * (k : Int))) (fun _ i => zs.length - (intOf i).toNat)
      case atStart => exact ⟨0, by omega, rfl, rfl, Lib.hid (by simp [sumI])⟩
      case round =>
        obtain ⟨k, hk, rfl, rfl, hbd⟩ := hrel
        by_cases hlt : k < zs.length
        · obtain ⟨g, rfl, hc⟩ := HP.out k hlt
          obtain ⟨hf1, hf2⟩ := fin_at HA.out k hlt
          obtain ⟨hb1, hb2⟩ := hbd.out
          obtain ⟨s, hs⟩ : ∃ s, s = sumI (zs.take k) := ⟨_, rfl⟩
          have hnx := Lib.hid (sumI_next zs k hlt)
          have HS := Lib.hid hs
          rw [← hs] at hb1 hb2
          rw [← hs]
          clear hs
          go_wp2
          go_round
          case rel => exact ⟨k + 1, by omega, by go_num, by rw [hnx.out, ← HS.out] <;> go_num, Lib.hid (by rw [hnx.out, ← HS.out]; omega)⟩
          case measure => simp [intOf]; omega
        · have HE := Lib.hid (sumI_end zs k hlt)
          obtain ⟨hb1, hb2⟩ := hbd.out
          go_wp2_with fail
          rw [HE.out] at hb1 hb2
          rw [HE.out]
          refine (frMake_any _ _ _ ?_ ?_).mono ?_
          · unfold wide; omega
          · unfold wide; omega
          rintro x w1 ⟨rfl, b1⟩
          obtain ⟨c0, c1, f0, f1⟩ := (new1 w).below b1
          go_wp2_with fail
          refine bodyPost_ret ((F2.store ⟨c0, c1, f0, f1⟩ _ _).results rfl rfl rfl) rfl ?_
          exact givesOp_yes (by simp [meanB, HL.out, HA.out]) rfl rfl rfl (bel_at (by omega) (by go_grown) b1 _ _)
set_option maxHeartbeats 1000000 in
theorem implMean_any (w : World) (B : Nat) (v : Value) (zs : List Int) (h : IS w B v zs) : Calls Tryd.prog 18 #[v] w fun x w' => GivesOp (meanB zs) (sumI zs) zs.length w x w' := by
  have h' := h.alloc (.cells #[.int .i64 0, .int .i64 0] 24)
  obtain ⟨A, cap, rfl, hm, hp⟩ := h'.parts
  unfold maxLen at hm
  have HP := Lib.hid hp
  clear hp h h'
  by_cases h1 : (zs.length : Int) < 1
  · go_enter Tryd.func18, Tryd.ntmps18
    go_wp2
    go_returns
    exact givesOp_no (by simp [meanB, inB]; omega) (by go_grown)
  · by_cases h2 : (40 : Int) < zs.length
    · go_enter Tryd.func18, Tryd.ntmps18
      go_wp2
      go_returns
      exact givesOp_no (by simp [meanB, inB]; omega) (by go_grown)
    · have HL := Lib.hid (show inB (zs.length : Int) 1 40 = true from (inB_iff _ _ _).2 (by omega))
      go_enter Tryd.func18, Tryd.ntmps18
      go_wp2
      go_loop [4, 18] (fun x i => ∃ k : Nat, k ≤ zs.length ∧ i = .int .i64 k ∧ x = .int .i64 (sumI (zs.take k)) ∧ Hid ((zs.take k).all finB = true) ∧ Hid (-1000000 * (k : Int) ≤ sumI (zs.take k) ∧ sumI (zs.take k) ≤ 1000000 * (k : Int))) (fun _ i => zs.length - (intOf i).toNat)
      case atStart => exact ⟨0, by omega, rfl, rfl, Lib.hid rfl, Lib.hid (by simp [sumI])⟩
      case round =>
        obtain ⟨k, hk, rfl, rfl, hall, hbd⟩ := hrel
        by_cases hlt : k < zs.length
        · obtain ⟨g, rfl, hc⟩ := HP.out k hlt
          cases hn : finB (gd zs k)
          · go_wp2_with (go_at_call 38; refine (isFin_any _ _).mono ?_; rintro e w' ⟨rfl, rfl⟩)
            go_returns
            exact givesOp_no (by simp [meanB, fin_bad zs k hlt hn]) (by go_grown)
          · obtain ⟨hf1, hf2⟩ := (finB_iff _).1 hn
            obtain ⟨hb1, hb2⟩ := hbd.out
            obtain ⟨s, hs⟩ : ∃ s, s = sumI (zs.take k) := ⟨_, rfl⟩
            have hnx := Lib.hid (sumI_next zs k hlt)
            have HS := Lib.hid hs
            rw [← hs] at hb1 hb2
            rw [← hs]
            clear hs
            go_wp2_with (go_at_call 38; refine (isFin_any _ _).mono ?_; rintro e w' ⟨rfl, rfl⟩)
            go_round
            case rel => exact ⟨k + 1, by omega, by go_num, by rw [hnx.out, ← HS.out] <;> go_num, Lib.hid (fin_next zs k hlt hall.out hn), Lib.hid (by rw [hnx.out, ← HS.out]; omega)⟩
            case measure => simp [intOf]; omega
        · have HE := Lib.hid (sumI_end zs k hlt)
          have HA := Lib.hid (fin_end zs k hlt hall.out)
          obtain ⟨hb1, hb2⟩ := hbd.out
          go_wp2_with fail
          rw [HE.out] at hb1 hb2
          rw [HE.out]
          refine (quotientOrNone_any _ _ _ ?_ ?_).mono ?_
          · unfold wide; omega
          · unfold wide; omega
          rintro x w1 ⟨rfl, b1⟩
          obtain ⟨c0, c1, f0, f1⟩ := (new1 w).below b1
          go_wp2_with fail
          refine bodyPost_ret ((F2.store ⟨c0, c1, f0, f1⟩ _ _).results rfl rfl rfl) rfl ?_
          exact givesOp_yes (by simp [meanB, HL.out, HA.out]) rfl rfl rfl (bel_at (by omega) (by go_grown) b1 _ _)
/-- What lay there before a call lies there behind it: two rules for the walk. -/
theorem cellAt {W w1 : World} (b : Below W.heap.size W w1) : ∀ g k, g < W.heap.size → w1.cell? ⟨g, k, none⟩ = W.cell? ⟨g, k, none⟩ := fun g k h => b.cell (p := ⟨g, k, none⟩) h
theorem frozenAt {W w1 : World} (b : Below W.heap.size W w1) : ∀ g k, g < W.heap.size → w1.frozen? ⟨g, k, none⟩ = W.frozen? ⟨g, k, none⟩ := fun g k h => b.frozen (p := ⟨g, k, none⟩) h
/-- One fraction's box: its two cells. -/
abbrev S2 (w' : World) (g : Nat) (a b : Int) : Prop := w'.cell? ⟨g, 0, none⟩ = some (.int .i64 a) ∧ w'.cell? ⟨g, 1, none⟩ = some (.int .i64 b)
theorem S2.new (w : World) (a b : Int) (t : TypeId) : S2 (w.alloc (.cells #[.int .i64 a, .int .i64 b] t)) w.heap.size a b := by
  refine ⟨?_, ?_⟩ <;> simp [World.cell?_alloc_at]
theorem S2.drew {w : World} {g : Nat} {a b : Int} (h : S2 w g a b) : S2 w.drew g a b := h
theorem S2.below {w w' : World} {g : Nat} {a b : Int} (h : S2 w g a b) (hb : Below w.heap.size w w') : S2 w' g a b := by
  obtain ⟨h1, h2⟩ := h
  have l1 := cell_lt h1
  exact ⟨(cellAt hb g 0 l1).trans h1, (cellAt hb g 1 l1).trans h2⟩
theorem S2.alloc {w : World} {g : Nat} {a b : Int} (h : S2 w g a b) (o : Obj) : S2 (w.alloc o) g a b := h.below ((Below.refl _ _).alloc (Nat.le_refl _) o)
theorem F2.far {w : World} {g h i : Nat} {a b : Int} {v : Value} (H : F2 w g a b) (hn : h ≠ g) : F2 (w.setCell ⟨h, i, none⟩ v) g a b := by
  obtain ⟨h1, h2, h3, h4⟩ := H
  refine ⟨(World.cell?_setCell_other _ _ _ _ (by simp [hn])).trans h1, (World.cell?_setCell_other _ _ _ _ (by simp [hn])).trans h2, ?_, ?_⟩ <;> simp [h3, h4]
end Go.Proofs.YtnfijdkggnijaaaDoor

/-
  LoopsOf of both; a cell by its number, of both.
  Condition: the slice reads as the terms that are named.
-/
import Derived.Test.YtbapepflfgcioaaGreatEdL
import Derived.Test.YtbapepflfgcioaaGreatCuM
namespace Go.Proofs.YtbapepflfgcioaaGreat
set_option linter.unusedSimpArgs false
set_option linter.unusedVariables false
open Go.ChangeShapes Go.WideShapes Go.ChangeAt Go.RowKit Go.Maps
open Go.Sort (grow)

/-- No edge has more than two cells. -/
theorem clL_two {l : List Tm} (hl : plB l = true) (e : List Int) : (clL l (ceL l).length e).length ≤ 2 := by
  unfold clL
  rw [List.length_map]
  obtain ⟨F, hF⟩ : ∃ F, F = (List.range (ceL l).length).filter fun c : Nat => decide (e ∈ sdL l ((ceL l).getD c [])) := ⟨_, rfl⟩
  rw [← hF]
  apply Classical.byContradiction
  intro h3
  have hpw : F.Pairwise (· < ·) := by rw [hF]; exact List.Pairwise.filter _ List.pairwise_lt_range
  have hmem : ∀ c ∈ F, c < (ceL l).length ∧ e ∈ sdL l ((ceL l).getD c []) := fun c hc => by
    rw [hF, List.mem_filter, List.mem_range] at hc
    exact ⟨hc.1, by simpa using hc.2⟩
  have hm : ∀ j (hj : j < F.length), F[j] < (ceL l).length ∧ e ∈ sdL l ((ceL l).getD F[j] []) := fun j hj => hmem _ (List.getElem_mem hj)
  have q := fun a b (ha : a < F.length) (hb : b < F.length) (hab : a < b) => List.pairwise_iff_getElem.1 hpw a b ha hb hab
  have q1 := q 0 1 (by omega) (by omega) (by omega)
  have q2 := q 1 2 (by omega) (by omega) (by omega)
  have m0 := hm 0 (by omega)
  have m1 := hm 1 (by omega)
  have m2 := hm 2 (by omega)
  generalize F[0] = c0 at *
  generalize F[1] = c1 at *
  generalize F[2] = c2 at *
  obtain ⟨i, k, hik, hk, rfl, ⟨i0, k0⟩, s0⟩ := side_of hl (ceL_at m0.1) m0.2
  obtain ⟨i', k', hik', hk', e1, ⟨i1, k1⟩, s1⟩ := side_of hl (ceL_at m1.1) m1.2
  obtain ⟨i'', k'', hik'', hk'', e2, ⟨i2, k2⟩, s2⟩ := side_of hl (ceL_at m2.1) m2.2
  simp only [List.cons.injEq, and_true] at e1 e2
  obtain rfl : i = i' := by omega
  obtain rfl : k = k' := by omega
  obtain rfl : i = i'' := by omega
  obtain rfl : k = k'' := by omega
  have hne := ptO_ne hl (show i < l.length by omega) hk (by omega : i ≠ k)
  have up := fun {c d : Nat} (hc : c < (ceL l).length) (hd : d < (ceL l).length) => fun (ic : (i : Int) ∈ (ceL l).getD c []) (kc : (k : Int) ∈ (ceL l).getD c []) (id : (i : Int) ∈ (ceL l).getD d []) (kd : (k : Int) ∈ (ceL l).getD d []) (h : (LefC l ((ceL l).getD c []) i k ∧ LefC l ((ceL l).getD d []) i k) ∨ (LefC l ((ceL l).getD c []) k i ∧ LefC l ((ceL l).getD d []) k i)) => show c = d from by
    rcases h with ⟨h1, h2⟩ | ⟨h1, h2⟩
    · exact ceL_nodup l hc hd (same_cell (ceL_at hc) (ceL_at hd) hne ic kc id kd h1 h2)
    · exact ceL_nodup l hc hd (same_cell (ceL_at hc) (ceL_at hd) (fun e => hne e.symm) kc ic kd id h1 h2)
  rcases s0 with s0 | s0 <;> rcases s1 with s1 | s1 <;> rcases s2 with s2 | s2
  · have := up m0.1 m1.1 i0 k0 i1 k1 (.inl ⟨s0, s1⟩); omega
  · have := up m0.1 m1.1 i0 k0 i1 k1 (.inl ⟨s0, s1⟩); omega
  · have := up m0.1 m2.1 i0 k0 i2 k2 (.inl ⟨s0, s2⟩); omega
  · have := up m1.1 m2.1 i1 k1 i2 k2 (.inr ⟨s1, s2⟩); omega
  · have := up m1.1 m2.1 i1 k1 i2 k2 (.inl ⟨s1, s2⟩); omega
  · have := up m0.1 m2.1 i0 k0 i2 k2 (.inr ⟨s0, s2⟩); omega
  · have := up m0.1 m1.1 i0 k0 i1 k1 (.inr ⟨s0, s1⟩); omega
  · have := up m0.1 m1.1 i0 k0 i1 k1 (.inr ⟨s0, s1⟩); omega

def loR (l : List Tm) : Int := if plB l = true then (if (ceL l).length = 0 then 0 else ((edM2 l 2).length : Int) - ((ceL l).length : Int) + 1) else 0
theorem loR_no {l : List Tm} (h : plB l = false) : loR l = 0 := if_neg (by simp [h])
theorem loR_zero {l : List Tm} (h : plB l = true) (h0 : (ceL l).length = 0) : loR l = 0 := by unfold loR; rw [if_pos h, if_pos h0]
theorem loR_yes {l : List Tm} (h : plB l = true) (h0 : ¬ (ceL l).length = 0) : loR l = ((edM2 l 2).length : Int) - ((ceL l).length : Int) + 1 := by unfold loR; rw [if_pos h, if_neg h0]
set_option maxHeartbeats 1000000 in
theorem specLoopsOf_any (w : World) (B : Nat) (v : Value) (l : List Tm) (h : TmS w B v l) : Calls Tryz.prog 28 #[v] w fun e w' => GivesIL (loR l) (plB l) w e w' := by
  cases hl : plB l
  · have HL := Lib.hid hl
    clear hl
    go_enter Tryz.func28, Tryz.ntmps28
    go_wp2_with fail
    refine (plGood_any _ B _ l h).mono ?_
    rintro e w1 ⟨rfl, b1⟩
    rw [HL.out]
    go_wp2
    go_ret2
    exact ⟨ret_il (loR_no HL.out).symm rfl, b1⟩
  · have HL := Lib.hid hl
    clear hl
    go_enter Tryz.func28, Tryz.ntmps28
    go_wp2_with fail
    refine (plGood_any _ B _ l h).mono ?_
    rintro e w1 ⟨rfl, b1⟩
    rw [HL.out]
    go_wp2_with fail
    refine (ceOf_any w1 B _ l (FS.below h b1) HL.out).mono ?_
    rintro e w2 ⟨r, P, rfl, hLS, hP, b2⟩
    have H2 := Lib.hid (FS.below (FS.below h b1) b2)
    have HB := Lib.hid (bel2 b1 b2)
    obtain ⟨A, cap, rfl, -, -⟩ := hLS.parts
    have hle := ceL_len (plB_le HL.out).2
    have hnp : P.length = (ceL l).length := by rw [← hP, lls_len]
    rw [hnp]
    obtain ⟨n, hn⟩ : ∃ n, n = (ceL l).length := ⟨_, rfl⟩
    have HN := Lib.hid hn
    rw [← hn] at hle ⊢
    obtain ⟨At, capt, rfl, -, -⟩ := TmS.parts h
    clear h b1 b2 hLS hP hnp hn
    by_cases h0 : n = 0
    · have HZ := Lib.hid (show loR l = 0 from loR_zero HL.out (by rw [← HN.out]; exact h0))
      subst h0
      go_wp2
      go_ret2
      exact ⟨ret_il HZ.out.symm rfl, HB.out⟩
    · have h0' : ¬ (n : Int) = 0 := by omega
      go_wp2_with fail
      refine (ceEdges_any w2 B _ l true H2.out HL.out).mono ?_
      rintro e w3 ⟨r3, P3, rfl, hLS3, hP3, b3⟩
      have hP3' : lls P3 = edM2 l 2 := hP3
      obtain ⟨A3, cap3, rfl, -, -⟩ := hLS3.parts
      have hm3 : P3.length = (edM2 l 2).length := by rw [← hP3', lls_len]
      have hme := edM2_le (n := 2) (plB_le HL.out).2
      rw [hm3]
      have HR := Lib.hid (show loR l = ((edM2 l 2).length : Int) - (n : Int) + 1 by rw [HN.out]; exact loR_yes HL.out (by rw [← HN.out]; exact h0))
      obtain ⟨m, hm⟩ : ∃ m, m = (edM2 l 2).length := ⟨_, rfl⟩
      rw [← hm] at HR hme ⊢
      have q1 : IntKind.i64.wrap ((m : Int) - (n : Int)) = (m : Int) - (n : Int) := IntWalk.i64_in _ (by omega)
      have q2 : IntKind.i64.wrap ((m : Int) - (n : Int) + 1) = (m : Int) - (n : Int) + 1 := IntWalk.i64_in _ (by omega)
      clear hLS3 hP3 hP3' hm3 hm
      go_wp2
      go_ret2
      exact ⟨ret_il HR.out.symm rfl, bel2 HB.out b3⟩
set_option maxHeartbeats 1000000 in
theorem implLoopsOf_any (w : World) (B : Nat) (v : Value) (l : List Tm) (h : TmS w B v l) : Calls Tryz.prog 29 #[v] w fun e w' => GivesIL (loR l) (plB l) w e w' := by
  cases hl : plB l
  · have HL := Lib.hid hl
    clear hl
    go_enter Tryz.func29, Tryz.ntmps29
    go_wp2_with fail
    refine (implCellsOf_any _ B _ l h).mono ?_
    rintro e w1 ⟨r, P, rfl, hLS, hP, b1⟩
    rw [HL.out]
    clear hLS hP
    go_wp2
    go_ret2
    exact ⟨ret_il (loR_no HL.out).symm rfl, b1⟩
  · have HL := Lib.hid hl
    clear hl
    go_enter Tryz.func29, Tryz.ntmps29
    go_wp2_with fail
    refine (implCellsOf_any _ B _ l h).mono ?_
    rintro e w2 ⟨r, P, rfl, hLS, hP, b1⟩
    rw [ceR_yes HL.out] at hP
    rw [HL.out]
    have H2 := Lib.hid (FS.below h b1)
    have HB := Lib.hid b1
    obtain ⟨A, cap, rfl, -, -⟩ := hLS.parts
    have hle := ceL_len (plB_le HL.out).2
    have hnp : P.length = (ceL l).length := by rw [← hP, lls_len]
    rw [hnp]
    obtain ⟨n, hn⟩ : ∃ n, n = (ceL l).length := ⟨_, rfl⟩
    have HN := Lib.hid hn
    rw [← hn] at hle ⊢
    obtain ⟨At, capt, rfl, -, -⟩ := TmS.parts h
    clear h b1 hLS hP hnp hn
    by_cases h0 : n = 0
    · have HZ := Lib.hid (show loR l = 0 from loR_zero HL.out (by rw [← HN.out]; exact h0))
      subst h0
      go_wp2
      go_ret2
      exact ⟨ret_il HZ.out.symm rfl, HB.out⟩
    · have h0' : ¬ (n : Int) = 0 := by omega
      go_wp2_with fail
      refine (edgesOfMany_any w2 B _ l 2 H2.out HL.out (by omega) (by omega)).mono ?_
      rintro e w3 ⟨r3, P3, rfl, hLS3, hP3, b3⟩
      obtain ⟨A3, cap3, rfl, -, -⟩ := hLS3.parts
      have hm3 : P3.length = (edM2 l 2).length := by rw [← hP3, lls_len]
      have hme := edM2_le (n := 2) (plB_le HL.out).2
      rw [hm3]
      have HR := Lib.hid (show loR l = ((edM2 l 2).length : Int) - (n : Int) + 1 by rw [HN.out]; exact loR_yes HL.out (by rw [← HN.out]; exact h0))
      obtain ⟨m, hm⟩ : ∃ m, m = (edM2 l 2).length := ⟨_, rfl⟩
      rw [← hm] at HR hme ⊢
      have q1 : IntKind.i64.wrap ((m : Int) - (n : Int)) = (m : Int) - (n : Int) := IntWalk.i64_in _ (by omega)
      have q2 : IntKind.i64.wrap ((m : Int) - (n : Int) + 1) = (m : Int) - (n : Int) + 1 := IntWalk.i64_in _ (by omega)
      clear hLS3 hP3 hm3 hm
      go_wp2
      go_ret2
      exact ⟨ret_il HR.out.symm rfl, bel2 HB.out b3⟩
end Go.Proofs.YtbapepflfgcioaaGreat

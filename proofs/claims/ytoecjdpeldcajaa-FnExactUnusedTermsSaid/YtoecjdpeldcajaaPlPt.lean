/-
  The points of the exponents: what the program's and the model's calls return.
  Condition: the slice reads as the list that is named.
-/
import Derived.Test.YtoecjdpeldcajaaPlRow
import Derived.Test.YtoecjdpeldcajaaPt
import Derived.Test.YtoecjdpeldcajaaPg
import Derived.Test.YtoecjdpeldcajaaSPoint
namespace Go.Proofs.Ytoecjdpeldcajaa
set_option linter.unusedSimpArgs false
set_option linter.unusedVariables false
open Go.ChangeShapes Go.WideShapes Go.ChangeAt Go.RowKit
open Go.Sort (grow)

theorem ptsL_len (l : List Tm) : (ptsL l).length = l.length := by simp [ptsL]
theorem ptq_next (l : List Tm) (k : Nat) (hk : k < l.length) : ptsL (l.take (k + 1)) = ptsL (l.take k) ++ [((td l k).1, (td l k).2.1)] := by
  rw [take_td l k hk]; simp [ptsL]
theorem ptsR_no {l : List Tm} (h : plB l = false) : ptsR l = [] := if_neg (by simp [h])
theorem ptsR_yes {l : List Tm} (h : plB l = true) : ptsR l = ptsL l := if_pos h
theorem ptsR_le (l : List Tm) : (ptsR l).length ≤ 12 := by
  cases h : plB l
  · rw [ptsR_no h]; simp
  · rw [ptsR_yes h, ptsL_len]; exact (plB_le h).2
set_option maxHeartbeats 1000000 in
set_option maxRecDepth 100000 in
theorem plPoints_any (w : World) (B : Nat) (v : Value) (l : List Tm) (h : TmS w B v l) (hle : l.length ≤ 1000000) : Calls Try.prog 44 #[v] w fun e w' => GivesPt (ptsL l) w e w' := by
  obtain ⟨A, cap, rfl, hm, hp⟩ := TmS.parts h
  have HP := Lib.hid hp
  obtain ⟨n, hn⟩ : ∃ n, n = l.length := ⟨_, rfl⟩
  have HN := Lib.hid hn
  rw [← hn] at hle ⊢
  obtain ⟨i0, hi, hz0, hz1, hz2⟩ := info_parts infoPoint
  clear hp h hn hm
  go_enter Try.func44, Try.ntmps44
  go_wp2
  go_loopw [3, 8] (fun o i wr => ∃ k : Nat, k ≤ n ∧ i = .int .i64 k ∧ FS 57 2 wr w.heap.size o k (flatP (ptsL (l.take k))) ∧ Below w.heap.size w wr) (fun _ i _ => n - (intOf i).toNat)
  case atStart => exact ⟨0, by omega, rfl, by simpa [ptsL, flatP] using FS.nil_ 57 2 w w.heap.size, Below.refl _ _⟩
  case round =>
    obtain ⟨k, hk, rfl, ho, hb⟩ := hrel
    by_cases hlt : k < n
    · have hkl : k < l.length := by rw [← HN.out]; exact hlt
      obtain ⟨g, rfl, hc0⟩ := HP.out k hkl
      obtain ⟨c0, c1, c2⟩ := X3.below hc0 hb
      have hnx := Lib.hid (ptq_next l k hkl)
      have hbA := hb.alloc hb.size (.cells #[.int .i64 (td l k).1, .int .i64 (td l k).2.1, .int .i64 (td l k).2.2] 53)
      have ho' : wr.ownsRow w.heap.size 57 2 u3 k (ints (flatP (ptsL (l.take k)))) := ho
      clear hc0
      go_wp2_with (at_builtin; refine wpList_append_own _ rfl _ _ 24 rfl w.heap.size 57 i0 (.agg #[.int .i64 0, .int .i64 0]) 2 16 Try.underlying24 hi hz0 hz1 hz2 rfl (by decide) _ _ _ rfl ((ho'.alloc _).alloc _) ⟨wr.heap.size + 1, 0, none⟩ 1 1 [.int .i64 (td l k).1, .int .i64 (td l k).2.1] rfl rfl (new_cells_at (wr.alloc (.cells #[.int .i64 (td l k).1, .int .i64 (td l k).2.1, .int .i64 (td l k).2.2] 53)) 57 #[.int .i64 (td l k).1, .int .i64 (td l k).2.1] (wr.heap.size + 1) (by rw [World.size_alloc])) (by simp [Value.oneCell']) (by unfold maxLen; omega) (by omega) (by have := hb.size; simp; omega) ?_; intro v' w1 hown' hgrow hnil)
      have hb' : Below w.heap.size w w1 := (hbA.alloc hbA.size _).grown hgrow (by have := hb.size; simp; omega) (fun g' hg' => (World.ownsRow.lt ho' g' hg').1)
      have hrow : FS 57 2 w1 w.heap.size v' (k + 1) (flatP (ptsL (l.take k)) ++ encP ((td l k).1, (td l k).2.1)) := FS.snoc hown'
      rw [← flatP_snoc, ← hnx.out] at hrow
      go_wp2
      go_roundw
      case rel => exact ⟨k + 1, by omega, by go_num, hrow, hb'⟩
      case measure => simp [intOf]; omega
    · go_wp2
      go_ret
      obtain rfl : k = n := by omega
      rw [HN.out, List.take_length] at ho
      exact ⟨_, rfl, by unfold PtS; rw [ptsL_len]; exact ho, hb⟩
theorem specNewtonPoints_any (w : World) (B : Nat) (v : Value) (l : List Tm) (h : TmS w B v l) : Calls Try.prog 13 #[v] w fun e w' => GivesPtB (plB l) (ptsR l) w e w' := by
  cases hl : plB l
  · have HL := Lib.hid hl
    clear hl
    go_enter Try.func13, Try.ntmps13
    go_wp2_with fail
    refine (plGood_any _ B _ l h).mono ?_
    rintro e w1 ⟨rfl, b1⟩
    rw [HL.out]
    go_wp2
    go_ret2
    exact givesPtB_nil rfl (ptsR_no HL.out) b1
  · have HL := Lib.hid hl
    clear hl
    go_enter Try.func13, Try.ntmps13
    go_wp2_with fail
    refine (plGood_any _ B _ l h).mono ?_
    rintro e w1 ⟨rfl, b1⟩
    have h1 := FS.below h b1
    rw [HL.out]
    go_wp2_with fail
    refine (plPoints_any _ B _ l h1 (by have := (plB_le HL.out).2; omega)).mono ?_
    rintro e w2 ⟨r, rfl, hr, b2⟩
    go_wp2
    go_ret2
    exact givesPtB_yes rfl (by rw [ptsR_yes HL.out]; exact FS.base hr b1.size) (bel2 b1 b2)
theorem pointOf_any (t : Tm) (w : World) : Calls Try.prog 47 #[tmV t] w fun e w' => e = .returned (ptV (t.1, t.2.1)) ∧ Gr w w' := by
  obtain ⟨a, b, c⟩ := t
  go_enter Try.func47, Try.ntmps47
  go_wp2
  refine bodyPost_ret (P2.result (t := (a, b)) (g := w.heap.size + 1) ?_ rfl rfl) rfl ⟨rfl, gr2 _ _ _⟩
  have := P2.new (w.alloc (.cells #[.int .i64 a, .int .i64 b, .int .i64 c] 53)) (a, b) 57
  rwa [World.size_alloc] at this
theorem part_pt (zs : List Int) (j : Nat) (hj : j * 2 + 1 < zs.length) : ((part zs (j * 2)).set (j * 2) (gd zs (j * 2))).set (j * 2 + 1) (gd zs (j * 2 + 1)) = part zs ((j + 1) * 2) := by
  rw [part_set zs (j * 2) (by omega), part_set zs (j * 2 + 1) hj]
  congr 1
  omega
theorem pts_gd (l : List Tm) (k : Nat) (hk : k < l.length) : gd (flatP (ptsL l)) (k * 2) = (td l k).1 ∧ gd (flatP (ptsL l)) (k * 2 + 1) = (td l k).2.1 := by
  have h := flatP_gd (ps := ptsL l) (j := k) (by rw [ptsL_len]; exact hk)
  have e : pd (ptsL l) k = ((td l k).1, (td l k).2.1) := by
    rw [pd_eq _ _ (by rw [ptsL_len]; exact hk), td_eq l k hk]; simp [ptsL]
  rw [e] at h
  exact h
set_option maxHeartbeats 1000000 in
set_option maxRecDepth 100000 in
theorem implNewtonPoints_any (w : World) (B : Nat) (v : Value) (l : List Tm) (h : TmS w B v l) : Calls Try.prog 15 #[v] w fun e w' => GivesPtB (plB l) (ptsR l) w e w' := by
  cases hl : plB l
  · have HL := Lib.hid hl
    clear hl
    go_enter Try.func15, Try.ntmps15
    go_wp2_with fail
    refine (isPlane_any _ B _ l h).mono ?_
    rintro e w1 ⟨rfl, b1⟩
    rw [HL.out]
    go_wp2
    go_ret2
    exact givesPtB_nil rfl (ptsR_no HL.out) b1
  · have HL := Lib.hid hl
    have H0 := Lib.hid h
    obtain ⟨A, cap, rfl, hm, hp⟩ := TmS.parts h
    have HP := Lib.hid hp
    have h2n := (plB_le hl).2
    obtain ⟨n, hn⟩ : ∃ n, n = l.length := ⟨_, rfl⟩
    have HN := Lib.hid hn
    obtain ⟨zs, hzs⟩ : ∃ zs, zs = flatP (ptsL l) := ⟨_, rfl⟩
    have HZ := Lib.hid hzs
    have HZL := Lib.hid (show zs.length = n * 2 by rw [hzs, flatP_len, ptsL_len, hn])
    obtain ⟨i0, hi, hz0, hz1, hz2⟩ := info_parts infoPoint
    clear hp h hm hl hzs
    go_enter Try.func15, Try.ntmps15
    go_wp2_with fail
    refine (isPlane_any _ B _ l H0.out).mono ?_
    rintro e w1 ⟨rfl, b1⟩
    rw [HL.out]
    rw [← hn] at h2n ⊢
    clear hn
    go_wp2_with (refine wpList_make_full _ rfl _ _ 24 rfl w1.heap.size 57 i0 (.agg #[.int .i64 0, .int .i64 0]) 2 Try.underlying24 hi hz0 hz1 .i64 .i64 _ _ n rfl rfl rfl rfl (by rw [hz2]; omega) (by simp only [maxLen]; omega) (Nat.le_refl _) ?_; intro w2 hown hgrow)
    have hrow0 : w2.ownsRow w1.heap.size 57 2 (.slice (some ⟨w1.heap.size, 0, none⟩) n n) n (ints (part zs 0)) := by
      rw [show (madeCells (.agg #[.int .i64 0, .int .i64 0] : Value).cells (n * 2)).toList = ints (part zs 0) from by
        rw [show part zs 0 = List.replicate (n * 2) 0 by simp [part, HZL.out]]
        exact made_ints 2 _ (by omega)] at hown
      exact hown
    have hb0 : Below w.heap.size w w2 := b1.grown hgrow b1.size (fun _ h => by cases h)
    have hB := b1.size
    clear hown hgrow
    go_loopw [15] (fun i wr => ∃ j : Nat, j ≤ n ∧ i = .int .i64 j ∧ wr.ownsRow w1.heap.size 57 2 (.slice (some ⟨w1.heap.size, 0, none⟩) n n) n (ints (part zs (j * 2))) ∧ Below w.heap.size w wr) (fun i _ => n - (intOf i).toNat)
    case atStart => exact ⟨0, by omega, rfl, by rw [Nat.zero_mul]; exact hrow0, hb0⟩
    case round =>
      obtain ⟨j, hj, rfl, hrow, hb⟩ := hrel
      clear hrow0 hb0
      by_cases hlt : j < n
      · have hl := HZL.out
        have hjl : j < l.length := by rw [← HN.out]; exact hlt
        obtain ⟨e0, e1⟩ := pts_gd l j hjl
        rw [← HZ.out] at e0 e1
        obtain ⟨g, rfl, hc0⟩ := HP.out j hjl
        obtain ⟨c0, c1, c2⟩ := X3.below hc0 hb
        go_wp2_with fail
        refine (pointOf_any _ _).mono ?_
        rintro e w3 ⟨rfl, hg⟩
        have bw : Below wr.heap.size wr w3 := bel2 ((Below.refl _ wr).alloc (Nat.le_refl _) _) hg.below
        have hrow' : w3.ownsRow w1.heap.size 57 2 (.slice (some ⟨w1.heap.size, 0, none⟩) n n) n (ints (part zs (j * 2))) := FS.below (zs := part zs (j * 2)) hrow bw
        have hb' := bel2 hb bw
        clear bw hg c0 c1 c2
        have f0 := World.ownsRow.frozenAt hrow' (j * 2)
        have f1 := World.ownsRow.frozenAt hrow' (j * 2 + 1)
        have hcell : ∀ m, m < n * 2 → w3.cell? ⟨w1.heap.size, m, none⟩ = some (.int .i64 (gd (part zs (j * 2)) m)) := fun m hm => by
          rw [World.ownsRow.cellAt hrow' m hm, getD_ints _ m (by rw [part_len zs _ (by omega)]; omega)]
        have d0 := hcell (j * 2) (by omega)
        have d1 := hcell (j * 2 + 1) (by omega)
        have s0 := World.ownsRow.stored hrow' (j * 2) (.int .i64 (gd zs (j * 2)))
        have s1 := World.ownsRow.stored s0.1 (j * 2 + 1) (.int .i64 (gd zs (j * 2 + 1)))
        have hrow3 := s1.1
        rw [show ((ints (part zs (j * 2))).set (j * 2) (.int .i64 (gd zs (j * 2)))).set (j * 2 + 1) (.int .i64 (gd zs (j * 2 + 1))) = ints (part zs ((j + 1) * 2)) from by rw [← part_pt zs j (by omega)]; unfold ints; simp only [List.map_set]] at hrow3
        have hb3 := (hb'.setCell (p := ⟨w1.heap.size, j * 2, none⟩) hB (.int .i64 (gd zs (j * 2)))).setCell (p := ⟨w1.heap.size, j * 2 + 1, none⟩) hB (.int .i64 (gd zs (j * 2 + 1)))
        rw [e0, e1] at hrow3 hb3
        have HF := Lib.hid (And.intro hrow3 hb3)
        clear s0 s1 hrow3 hb3 hrow' hrow hcell hl e0 e1 hb hb'
        go_wp2
        go_roundw
        case rel => exact ⟨j + 1, by omega, by go_num, HF.out.1, HF.out.2⟩
        case measure => simp [intOf]; omega
      · go_wp2
        go_ret2
        have hl := HZL.out
        rw [part_end zs _ (by omega)] at hrow
        refine givesPtB_yes rfl ?_ hb
        rw [ptsR_yes HL.out]
        unfold PtS
        rw [ptsL_len, ← HN.out, ← HZ.out]
        exact FS.base (zs := zs) hrow hB
end Go.Proofs.Ytoecjdpeldcajaa

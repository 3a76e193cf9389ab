/-
  Is a list a plane polynomial: what the program's and the model's calls return.
  Condition: the slice reads as the list that is named.
-/
import Derived.Test.YtoecjdpeldcajaaGreatTmC
namespace Go.Proofs.YtoecjdpeldcajaaGreat
set_option linter.unusedSimpArgs false
set_option linter.unusedVariables false
open Go.ChangeShapes Go.WideShapes Go.ChangeAt Go.RowKit
open Go.Sort (grow)

theorem X3.grown {w : World} {g i : Nat} {t : Tm} (h : X3 w g i t) : (∀ n os, (grow (w.drewN n) os).cell? ⟨g, i, none⟩ = some (.int .i64 t.1)) ∧ (∀ n os, (grow (w.drewN n) os).cell? ⟨g, i + 1, none⟩ = some (.int .i64 t.2.1)) ∧ (∀ n os, (grow (w.drewN n) os).cell? ⟨g, i + 2, none⟩ = some (.int .i64 t.2.2)) :=
  ⟨cell_grown (cell_lt h.1) h.1, cell_grown (cell_lt h.2.1) h.2.1, cell_grown (cell_lt h.2.2) h.2.2⟩
theorem T3.grown {w : World} {g : Nat} {t : Tm} (h : T3 w g t) : (∀ n os, (grow (w.drewN n) os).cell? ⟨g, 0, none⟩ = some (.int .i64 t.1)) ∧ (∀ n os, (grow (w.drewN n) os).cell? ⟨g, 1, none⟩ = some (.int .i64 t.2.1)) ∧ (∀ n os, (grow (w.drewN n) os).cell? ⟨g, 2, none⟩ = some (.int .i64 t.2.2)) := X3.grown (i := 0) h
theorem plAt_no1 {l : List Tm} {k : Nat} (h : plT (td l k) = false) : plAt l k = false := by simp [plAt, h]
theorem plAt_no2 {l : List Tm} {k : Nat} (h0 : 0 < k) (h : plLt (td l (k - 1)) (td l k) = false) : plAt l k = false := by
  unfold plAt; rw [h, decide_eq_false (by omega)]; simp
theorem plAt_yes {l : List Tm} {k : Nat} (h : plT (td l k) = true) (h' : k = 0 ∨ plLt (td l (k - 1)) (td l k) = true) : plAt l k = true := by
  unfold plAt
  rcases h' with rfl | h' <;> simp [h, *]
theorem plUp_next {l : List Tm} {k : Nat} (h : plUp l k = true) (h' : plAt l k = true) : plUp l (k + 1) = true := by simp [plUp, h, h']
set_option maxHeartbeats 1000000 in
set_option maxRecDepth 100000 in
theorem plGood_any (w : World) (B : Nat) (v : Value) (l : List Tm) (h : TmS w B v l) : Calls Tryz.prog 19 #[v] w fun e w' => e = .returned (.bool (plB l)) ∧ Below w.heap.size w w' := by
  obtain ⟨A, cap, rfl, hm, hp⟩ := TmS.parts h
  have HP := Lib.hid hp
  obtain ⟨n, hn⟩ : ∃ n, n = l.length := ⟨_, rfl⟩
  have HN := Lib.hid hn
  rw [← hn] at hm ⊢
  unfold maxLen at hm
  have HT := Lib.hid (fun t W => plTerm_any t W)
  have HL := Lib.hid (fun s t W => plBefore_any s t W)
  clear hp h hn
  go_enter Tryz.func19, Tryz.ntmps19
  go_wp2
  go_loopw [7] (fun i wr => ∃ k : Nat, k ≤ n ∧ i = .int .i64 k ∧ Hid (plUp l k = true) ∧ Below w.heap.size w wr) (fun i _ => n - (intOf i).toNat)
  case atStart => exact ⟨0, by omega, rfl, Lib.hid rfl, Below.refl _ _⟩
  case round =>
    obtain ⟨k, hk, rfl, hup, hb⟩ := hrel
    by_cases hlt : k < n
    · obtain ⟨g, rfl, hc0⟩ := HP.out k (by rw [← HN.out]; exact hlt)
      have hc := X3.below hc0 hb
      have HX := Lib.hid hc
      have hb2 := hb.alloc hb.size (.cells #[.int .i64 (td l k).1, .int .i64 (td l k).2.1, .int .i64 (td l k).2.2] 40)
      have hS := T3.new wr (td l k) 40
      have hs : wr.heap.size < (wr.alloc (.cells #[.int .i64 (td l k).1, .int .i64 (td l k).2.1, .int .i64 (td l k).2.2] 40)).heap.size := cell_lt hS.1
      obtain ⟨c0, c1, c2⟩ := hc
      clear hc0
      cases hq : plT (td l k)
      · have HQ := Lib.hid (plAt_no1 (l := l) (k := k) hq)
        have HT' := Lib.hid (fun W => show Calls Tryz.prog 34 #[tmV (td l k)] W fun e w' => e = .returned (.bool false) ∧ Gr W w' by rw [← hq]; exact HT.out (td l k) W)
        clear hq
        go_wp2
        generalize wr.alloc (.cells #[.int .i64 (td l k).1, .int .i64 (td l k).2.1, .int .i64 (td l k).2.2] 40) = W0 at hS hb2 hs ⊢
        obtain ⟨g0, g1, g2⟩ := T3.grown hS
        refine wp_region_quiet_grown (by kernel_rfl) (by kernel_rfl) ?_
        repeat (go_big_quiet_step (first | (go_at_call 34; refine Calls.grown_of (HT'.out _))))
        refine wpQuiet_nil ?_
        intro _ hw'
        obtain ⟨⟨nq, osq⟩, hw''⟩ := hw'
        subst hw''
        go_wp2
        go_ret
        exact ⟨ret_bool (by symm; exact plB_bad (by rw [← HN.out]; exact hlt) HQ.out), bel2 hb2 (grB _ _)⟩
      · have HQ := Lib.hid hq
        have HT' := Lib.hid (fun W => show Calls Tryz.prog 34 #[tmV (td l k)] W fun e w' => e = .returned (.bool true) ∧ Gr W w' by rw [← hq]; exact HT.out (td l k) W)
        clear hq
        by_cases h0 : 0 < k
        · have hd : (0 : Int) < (k : Int) := by omega
          obtain ⟨g', hg', hp0⟩ := HP.out (k - 1) (by rw [← HN.out]; omega)
          cases hg'
          have hpx := X3.below (X3.below hp0 hb) ((Below.refl _ _).alloc (Nat.le_refl _) (.cells #[.int .i64 (td l k).1, .int .i64 (td l k).2.1, .int .i64 (td l k).2.2] 40))
          have q1 : IntKind.i64.wrap ((k : Int) - 1) = ((k - 1 : Nat) : Int) := by rw [IntWalk.i64_in _ (by omega)]; omega
          have l1 : k - 1 < n := by omega
          have z1 : ((k - 1 : Nat) : Int) < (n : Int) := by omega
          have z2 : (0 : Int) ≤ ((k - 1 : Nat) : Int) := by omega
          clear hp0
          cases hl : plLt (td l (k - 1)) (td l k)
          · have HQ2 := Lib.hid (plAt_no2 (l := l) (k := k) h0 hl)
            have HL' := Lib.hid (fun W => show Calls Tryz.prog 35 #[tmV (td l (k - 1)), tmV (td l k)] W fun e w' => e = .returned (.bool false) ∧ Gr W w' by rw [← hl]; exact HL.out _ _ W)
            clear hl
            go_wp2
            generalize wr.alloc (.cells #[.int .i64 (td l k).1, .int .i64 (td l k).2.1, .int .i64 (td l k).2.2] 40) = W0 at hS hb2 hs hpx ⊢
            obtain ⟨g0, g1, g2⟩ := T3.grown hS
            obtain ⟨p0, p1, p2⟩ := X3.grown hpx
            refine wp_region_quiet_grown (by kernel_rfl) (by kernel_rfl) ?_
            repeat (go_big_quiet_step (first | (go_at_call 34; refine Calls.grown_of (HT'.out _)) | (go_at_call 35; refine Calls.grown_of (HL'.out _))))
            refine wpQuiet_nil ?_
            intro _ hw'
            obtain ⟨⟨nq, osq⟩, hw''⟩ := hw'
            subst hw''
            go_wp2
            go_ret
            exact ⟨ret_bool (by symm; exact plB_bad (by rw [← HN.out]; exact hlt) HQ2.out), bel2 hb2 (grB _ _)⟩
          · have HQ2 := Lib.hid (plAt_yes (l := l) (k := k) HQ.out (.inr hl))
            have HL' := Lib.hid (fun W => show Calls Tryz.prog 35 #[tmV (td l (k - 1)), tmV (td l k)] W fun e w' => e = .returned (.bool true) ∧ Gr W w' by rw [← hl]; exact HL.out _ _ W)
            clear hl
            go_wp2
            generalize wr.alloc (.cells #[.int .i64 (td l k).1, .int .i64 (td l k).2.1, .int .i64 (td l k).2.2] 40) = W0 at hS hb2 hs hpx ⊢
            obtain ⟨g0, g1, g2⟩ := T3.grown hS
            obtain ⟨p0, p1, p2⟩ := X3.grown hpx
            refine wp_region_quiet_grown (by kernel_rfl) (by kernel_rfl) ?_
            repeat (go_big_quiet_step (first | (go_at_call 34; refine Calls.grown_of (HT'.out _)) | (go_at_call 35; refine Calls.grown_of (HL'.out _))))
            refine wpQuiet_nil ?_
            intro _ hw'
            obtain ⟨⟨nq, osq⟩, hw''⟩ := hw'
            subst hw''
            clear q1
            go_wp2
            go_roundw
            case rel => exact ⟨k + 1, by omega, by go_num, Lib.hid (plUp_next hup.out HQ2.out), bel2 hb2 (grB _ _)⟩
            case measure => simp [intOf]; omega
        · obtain rfl : k = 0 := by omega
          have HQ2 := Lib.hid (plAt_yes (l := l) (k := 0) HQ.out (.inl rfl))
          go_wp2
          generalize wr.alloc (.cells #[.int .i64 (td l 0).1, .int .i64 (td l 0).2.1, .int .i64 (td l 0).2.2] 40) = W0 at hS hb2 hs ⊢
          obtain ⟨g0, g1, g2⟩ := T3.grown hS
          refine wp_region_quiet_grown (by kernel_rfl) (by kernel_rfl) ?_
          repeat (go_big_quiet_step (first | (go_at_call 34; refine Calls.grown_of (HT'.out _))))
          refine wpQuiet_nil ?_
          intro _ hw'
          obtain ⟨⟨nq, osq⟩, hw''⟩ := hw'
          subst hw''
          go_wp2
          go_roundw
          case rel => exact ⟨0 + 1, by omega, by go_num, Lib.hid (plUp_next hup.out HQ2.out), bel2 hb2 (grB _ _)⟩
          case measure => simp [intOf]; omega
    · go_wp2_with (go_at_call 36; refine (l1In_any _ _ _ _).mono ?_; rintro e w' ⟨rfl, rfl⟩)
      go_ret
      obtain rfl : k = n := by omega
      exact ⟨ret_bool (by unfold plB; rw [← HN.out, hup.out]; simp), hb⟩
set_option maxHeartbeats 1000000 in
set_option maxRecDepth 100000 in
theorem isPlane_any (w : World) (B : Nat) (v : Value) (l : List Tm) (h : TmS w B v l) : Calls Tryz.prog 22 #[v] w fun e w' => e = .returned (.bool (plB l)) ∧ Below w.heap.size w w' := by
  obtain ⟨A, cap, rfl, hm, hp⟩ := TmS.parts h
  have HP := Lib.hid hp
  obtain ⟨n, hn⟩ : ∃ n, n = l.length := ⟨_, rfl⟩
  have HN := Lib.hid hn
  rw [← hn] at hm ⊢
  unfold maxLen at hm
  have HT := Lib.hid (fun t W => isTerm_any t W)
  have HL := Lib.hid (fun s t W => compareTerms_any s t W)
  have HO := Lib.hid (fun t W => without_any t W)
  clear hp h hn
  by_cases hn1 : n < 1
  · go_enter Tryz.func22, Tryz.ntmps22
    go_wp2
    go_ret
    exact ⟨ret_bool (by symm; exact plB_len (by rw [← HN.out]; omega)), Below.refl _ _⟩
  · by_cases hn2 : 12 < n
    · go_enter Tryz.func22, Tryz.ntmps22
      go_wp2
      go_ret
      exact ⟨ret_bool (by symm; exact plB_len (by rw [← HN.out]; omega)), Below.refl _ _⟩
    · have hn3 : 1 ≤ n := by omega
      have hn4 : n ≤ 12 := by omega
      clear hn1 hn2
      go_enter Tryz.func22, Tryz.ntmps22
      go_wp2
      go_loopw [15] (fun i wr => ∃ k : Nat, k ≤ n ∧ i = .int .i64 k ∧ Hid (plUp l k = true) ∧ Below w.heap.size w wr) (fun i _ => n - (intOf i).toNat)
      case atStart => exact ⟨0, by omega, rfl, Lib.hid rfl, Below.refl _ _⟩
      case round =>
        obtain ⟨k, hk, rfl, hup, hb⟩ := hrel
        by_cases hlt : k < n
        · obtain ⟨g, rfl, hc0⟩ := HP.out k (by rw [← HN.out]; exact hlt)
          have hc := X3.below hc0 hb
          have hb2 := hb.alloc hb.size (.cells #[.int .i64 (td l k).1, .int .i64 (td l k).2.1, .int .i64 (td l k).2.2] 40)
          have hS := T3.new wr (td l k) 40
          have hs : wr.heap.size < (wr.alloc (.cells #[.int .i64 (td l k).1, .int .i64 (td l k).2.1, .int .i64 (td l k).2.2] 40)).heap.size := cell_lt hS.1
          obtain ⟨c0, c1, c2⟩ := hc
          clear hc0
          cases hq : plT (td l k)
          · have HQ := Lib.hid (plAt_no1 (l := l) (k := k) hq)
            have HT' := Lib.hid (fun W => show Calls Tryz.prog 40 #[tmV (td l k)] W fun e w' => e = .returned (.bool false) ∧ Gr W w' by rw [← hq]; exact HT.out (td l k) W)
            clear hq
            go_wp2_with fail
            refine (HT'.out _).mono ?_
            rintro e w1 ⟨rfl, b1⟩
            have B1 := bel2 hb2 b1.below
            clear b1
            go_wp2
            go_ret
            exact ⟨ret_bool (by symm; exact plB_bad (by rw [← HN.out]; exact hlt) HQ.out), B1⟩
          · have HQ := Lib.hid hq
            have HT' := Lib.hid (fun W => show Calls Tryz.prog 40 #[tmV (td l k)] W fun e w' => e = .returned (.bool true) ∧ Gr W w' by rw [← hq]; exact HT.out (td l k) W)
            clear hq
            by_cases h0 : 0 < k
            · obtain ⟨g', hg', hp0⟩ := HP.out (k - 1) (by rw [← HN.out]; omega)
              cases hg'
              have hpx := X3.below (X3.below hp0 hb) ((Below.refl _ _).alloc (Nat.le_refl _) (.cells #[.int .i64 (td l k).1, .int .i64 (td l k).2.1, .int .i64 (td l k).2.2] 40))
              have q1 : IntKind.i64.wrap ((k : Int) - 1) = ((k - 1 : Nat) : Int) := by rw [IntWalk.i64_in _ (by omega)]; omega
              have l1 : k - 1 < n := by omega
              have z1 : ((k - 1 : Nat) : Int) < (n : Int) := by omega
              have z2 : (0 : Int) ≤ ((k - 1 : Nat) : Int) := by omega
              clear hp0
              obtain ⟨c, hce⟩ : ∃ c, c = cmpT (woT (td l (k - 1))) (woT (td l k)) := ⟨_, rfl⟩
              have HL' := Lib.hid (fun W => show Calls Tryz.prog 41 #[tmV (woT (td l (k - 1))), tmV (woT (td l k))] W fun e w' => e = .returned (.int .i64 c) ∧ Gr W w' by rw [hce]; exact HL.out _ _ W)
              cases hl : plLt (td l (k - 1)) (td l k)
              · have HQ2 := Lib.hid (plAt_no2 (l := l) (k := k) h0 hl)
                have hc0 : 0 ≤ c := by
                  rcases Int.lt_or_le c 0 with h | h
                  · rw [hce, cmpT_wo, hl] at h; cases h
                  · exact h
                clear hl hce
                go_wp2_with fail
                refine (HT'.out _).mono ?_
                rintro e w1 ⟨rfl, b1⟩
                have B1 := bel2 hb2 b1.below
                obtain ⟨g0, g1, g2⟩ := T3.grown (T3.below hS b1.below)
                obtain ⟨p0, p1, p2⟩ := X3.grown (X3.below hpx b1.below)
                clear b1 hS hpx
                go_wp2_with fail
                refine wp_region_quiet_grown (by kernel_rfl) (by kernel_rfl) ?_
                repeat (go_big_quiet_step ((first | (go_at_call 42; refine Calls.grown_of (HO.out _ _)) | (go_at_call 41; refine Calls.grown_of (HL'.out _)))))
                refine wpQuiet_nil ?_
                intro _ hw'
                obtain ⟨⟨nq, osq⟩, hw''⟩ := hw'
                subst hw''
                go_wp2
                go_ret
                exact ⟨ret_bool (by symm; exact plB_bad (by rw [← HN.out]; exact hlt) HQ2.out), bel2 B1 (grB _ _)⟩
              · have HQ2 := Lib.hid (plAt_yes (l := l) (k := k) HQ.out (.inr hl))
                have hc0 : c < 0 := by rw [hce, cmpT_wo]; exact hl
                clear hl hce
                go_wp2_with fail
                refine (HT'.out _).mono ?_
                rintro e w1 ⟨rfl, b1⟩
                have B1 := bel2 hb2 b1.below
                obtain ⟨g0, g1, g2⟩ := T3.grown (T3.below hS b1.below)
                obtain ⟨p0, p1, p2⟩ := X3.grown (X3.below hpx b1.below)
                clear b1 hS hpx
                go_wp2_with fail
                refine wp_region_quiet_grown (by kernel_rfl) (by kernel_rfl) ?_
                repeat (go_big_quiet_step ((first | (go_at_call 42; refine Calls.grown_of (HO.out _ _)) | (go_at_call 41; refine Calls.grown_of (HL'.out _)))))
                refine wpQuiet_nil ?_
                intro _ hw'
                obtain ⟨⟨nq, osq⟩, hw''⟩ := hw'
                subst hw''
                clear q1
                go_wp2
                go_roundw
                case rel => exact ⟨k + 1, by omega, by go_num, Lib.hid (plUp_next hup.out HQ2.out), bel2 B1 (grB _ _)⟩
                case measure => simp [intOf]; omega
            · obtain rfl : k = 0 := by omega
              have HQ2 := Lib.hid (plAt_yes (l := l) (k := 0) HQ.out (.inl rfl))
              go_wp2_with fail
              refine (HT'.out _).mono ?_
              rintro e w1 ⟨rfl, b1⟩
              have B1 := bel2 hb2 b1.below
              clear b1 hS
              go_wp2_with fail
              refine wp_region_quiet_grown (by kernel_rfl) (by kernel_rfl) ?_
              repeat (go_big_quiet_step ((fail)))
              refine wpQuiet_nil ?_
              intro _ hw'
              obtain ⟨⟨nq, osq⟩, hw''⟩ := hw'
              subst hw''
              go_wp2
              go_roundw
              case rel => exact ⟨0 + 1, by omega, by go_num, Lib.hid (plUp_next hup.out HQ2.out), bel2 B1 (grB _ _)⟩
              case measure => simp [intOf]; omega
        · go_wp2
          go_ret
          obtain rfl : k = n := by omega
          exact ⟨ret_bool (by symm; exact plB_end (by rw [← HN.out]; exact hn3) (by rw [← HN.out]; exact hn4) (by rw [← HN.out]; exact hup.out)), hb⟩
end Go.Proofs.YtoecjdpeldcajaaGreat

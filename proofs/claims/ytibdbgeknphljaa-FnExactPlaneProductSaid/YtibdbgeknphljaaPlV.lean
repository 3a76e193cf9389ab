/-
  Values of plane polynomials, the places of their least terms, degrees: what the program's and the model's calls return.
  Condition: the slice reads as the list that is named.
-/
import Derived.Test.YtibdbgeknphljaaPlA
namespace Go.Proofs.Ytibdbgeknphljaa
set_option linter.unusedSimpArgs false
set_option linter.unusedVariables false
open Go.ChangeShapes Go.WideShapes Go.ChangeAt Go.RowKit
open Go.Sort (grow)

theorem one_new_at (w : World) (x : Int) (n : Nat) (hn : n = w.heap.size) : ∀ j u, [Value.int .i64 x][j]? = some u → (w.alloc (.cells #[.int .i64 x] 3)).cell? ((⟨n, 0, none⟩ : Addr).add j) = some u := by
  subst hn
  exact one_new w x
set_option maxHeartbeats 1000000 in
set_option maxRecDepth 100000 in
theorem plValues_any (w : World) (B : Nat) (v : Value) (l : List Tm) (x y : Int) (h : TmS w B v l) (hl : plB l = true) (hx : -1000000 ≤ x ∧ x ≤ 1000000) (hy : -1000000 ≤ y ∧ y ≤ 1000000) : Calls Try.prog 55 #[v, .int .i64 x, .int .i64 y] w fun e w' => GivesI (tvs l x y) w e w' := by
  obtain ⟨A, cap, rfl, hm, hp⟩ := TmS.parts h
  have HP := Lib.hid hp
  obtain ⟨n, hn⟩ : ∃ n, n = l.length := ⟨_, rfl⟩
  have HN := Lib.hid hn
  have hle := (plB_le hl).2
  have HL := Lib.hid hl
  rw [← hn] at hm hle ⊢
  obtain ⟨i0, hi, hz0, hz1, hz2⟩ := info_parts infoInt
  have HX := Lib.hid (And.intro hx hy)
  clear hp h hn hm hl hx hy
  go_enter Try.func55, Try.ntmps55
  go_wp2
  go_loopw [7, 12] (fun o i wr => ∃ k : Nat, k ≤ n ∧ i = .int .i64 k ∧ IS wr w.heap.size o (tvs (l.take k) x y) ∧ Below w.heap.size w wr) (fun _ i _ => n - (intOf i).toNat)
  case atStart => exact ⟨0, by omega, rfl, by simpa [tvs] using IS.nil_ _ _, Below.refl _ _⟩
  case round =>
    obtain ⟨k, hk, rfl, ho, hb⟩ := hrel
    by_cases hlt : k < n
    · have hkl : k < l.length := by rw [← HN.out]; exact hlt
      obtain ⟨g, rfl, hc0⟩ := HP.out k hkl
      have hc := X3.below hc0 hb
      have hnx := Lib.hid (tvs_next l x y k hkl)
      obtain ⟨b1, b2, b3⟩ := tv_bd (plB_at HL.out hkl) HX.out.1 HX.out.2
      have b4 := (plT_parts (plB_at HL.out hkl)).2.2.2
      have HV := Lib.hid (show tv (td l k) x y = (td l k).2.2 + (td l k).1 * x + (td l k).2.1 * y from rfl)
      obtain ⟨X, hX⟩ : ∃ X, X = tv (td l k) x y := ⟨_, rfl⟩
      rw [← hX] at hnx b3 HV
      have hv := HV.out
      generalize td l k = t at hc b1 b2 b4 hv
      obtain ⟨a, b, c⟩ := t
      dsimp only at hc b1 b2 b4 hv
      have q1 : IntKind.i64.wrap (a * x) = a * x := IntWalk.i64_in _ (by omega)
      have q2 : IntKind.i64.wrap (c + a * x) = c + a * x := IntWalk.i64_in _ (by omega)
      have q3 : IntKind.i64.wrap (b * y) = b * y := IntWalk.i64_in _ (by omega)
      have q4 : IntKind.i64.wrap (c + a * x + b * y) = X := by rw [hv]; exact IntWalk.i64_in _ (by omega)
      have hlen : (tvs (l.take k) x y).length ≤ 12 := by rw [tvs_len, List.length_take]; omega
      have ho' : wr.ownsRow w.heap.size 3 1 u7 (tvs (l.take k) x y).length (ints (tvs (l.take k) x y)) := ho
      obtain ⟨c0, c1, c2⟩ := hc
      have hbA := hb.alloc hb.size (.cells #[.int .i64 a, .int .i64 b, .int .i64 c] 54)
      have hgl : g < wr.heap.size := cell_lt c0
      clear hc0 hX hv b1 b2 b3 b4
      go_wp2_with (at_builtin; refine wpList_append_own _ rfl _ _ 32 rfl w.heap.size 3 i0 (.int .i64 0) 1 8 Try.underlying32 hi hz0 hz1 hz2 rfl (by decide) _ _ _ rfl ((ho'.alloc _).alloc _) ⟨wr.heap.size + 1, 0, none⟩ 1 1 [.int .i64 X] rfl rfl (one_new_at (wr.alloc (.cells #[.int .i64 a, .int .i64 b, .int .i64 c] 54)) X (wr.heap.size + 1) (by rw [World.size_alloc])) (by simp [Value.oneCell']) (by unfold maxLen; omega) (by omega) (by have := hb.size; simp; omega) ?_; intro v' w1 hown' hgrow hnil)
      have hb' : Below w.heap.size w w1 := (hbA.alloc hbA.size _).grown hgrow (by have := hb.size; simp; omega) (fun g' hg' => (World.ownsRow.lt ho' g' hg').1)
      have hrow := IS.snoc rfl hown'
      rw [← hnx.out] at hrow
      clear q1 q2 q3 q4
      go_wp2
      go_roundw
      case rel => exact ⟨k + 1, by omega, by go_num, hrow, hb'⟩
      case measure => simp [intOf]; omega
    · go_wp2
      go_ret
      obtain rfl : k = n := by omega
      rw [HN.out, List.take_length] at ho
      exact ⟨_, rfl, ho, hb⟩
set_option maxHeartbeats 400000 in
theorem plAsked_any (w : World) (B : Nat) (v : Value) (l : List Tm) (x y : Int) (h : TmS w B v l) : Calls Try.prog 53 #[v, .int .i64 x, .int .i64 y] w fun e w' => e = .returned (.bool (askPl l x y)) ∧ Below w.heap.size w w' := by
  cases hl : plB l
  · have HA := Lib.hid (askPl_no1 (x := x) (y := y) hl).1
    have HL := Lib.hid hl
    clear hl
    go_enter Try.func53, Try.ntmps53
    go_wp2_with fail
    refine (plGood_any _ B _ l h).mono ?_
    rintro e w1 ⟨rfl, b1⟩
    rw [HL.out]
    go_wp2
    go_ret
    exact ⟨ret_bool HA.out.symm, b1⟩
  · have HL := Lib.hid hl
    clear hl
    cases hx : finB x
    · have HA := Lib.hid (askPl_no2 (l := l) (y := y) hx).1
      have HX := Lib.hid hx
      clear hx
      go_enter Try.func53, Try.ntmps53
      go_wp2_with fail
      refine (plGood_any _ B _ l h).mono ?_
      rintro e w1 ⟨rfl, b1⟩
      rw [HL.out]
      go_wp2_with fail
      refine (poFinite_any _ _).mono ?_
      rintro e w' ⟨rfl, rfl⟩
      rw [HX.out]
      go_wp2
      go_ret
      exact ⟨ret_bool HA.out.symm, b1⟩
    · have HX := Lib.hid hx
      clear hx
      cases hy : finB y
      · have HA := Lib.hid (askPl_no3 (l := l) (x := x) hy).1
        have HY := Lib.hid hy
        clear hy
        go_enter Try.func53, Try.ntmps53
        go_wp2_with fail
        refine (plGood_any _ B _ l h).mono ?_
        rintro e w1 ⟨rfl, b1⟩
        rw [HL.out]
        go_wp2_with fail
        refine (poFinite_any _ _).mono ?_
        rintro e w' ⟨rfl, rfl⟩
        rw [HX.out]
        go_wp2_with fail
        refine (poFinite_any _ _).mono ?_
        rintro e w' ⟨rfl, rfl⟩
        rw [HY.out]
        go_wp2
        go_ret
        exact ⟨ret_bool HA.out.symm, b1⟩
      · have HY := Lib.hid hy
        clear hy
        go_enter Try.func53, Try.ntmps53
        go_wp2_with fail
        refine (plGood_any _ B _ l h).mono ?_
        rintro e w1 ⟨rfl, b1⟩
        have h1 := FS.below h b1
        rw [HL.out]
        go_wp2_with fail
        refine (poFinite_any _ _).mono ?_
        rintro e w' ⟨rfl, rfl⟩
        rw [HX.out]
        go_wp2_with fail
        refine (poFinite_any _ _).mono ?_
        rintro e w' ⟨rfl, rfl⟩
        rw [HY.out]
        go_wp2_with fail
        refine (plValues_any _ B _ l x y h1 HL.out ((finB_iff _).1 HX.out) ((finB_iff _).1 HY.out)).mono ?_
        rintro e w2 ⟨r, rfl, hr, b2⟩
        go_wp2_with fail
        refine (nuSum_any _ _ _ _ hr).mono ?_
        rintro e w' ⟨rfl, rfl⟩
        go_wp2_with fail
        refine (poFinite_any _ _).mono ?_
        rintro e w' ⟨rfl, rfl⟩
        have HA := Lib.hid (show finB (leastL (tvs l x y)) = askPl l x y by unfold askPl; rw [HL.out, HX.out, HY.out]; rfl)
        rw [HA.out]
        go_wp2
        go_ret
        exact ⟨rfl, bel2 b1 b2⟩
theorem specPlaneValue_any (w : World) (B : Nat) (v : Value) (l : List Tm) (x y : Int) (h : TmS w B v l) : Calls Try.prog 19 #[v, .int .i64 x, .int .i64 y] w fun e w' => e = .returned (.tuple #[.int .i64 (pvPl l x y), .bool (askPl l x y)]) ∧ Below w.heap.size w w' := by
  cases hq : askPl l x y
  · have HQ := Lib.hid hq
    clear hq
    go_enter Try.func19, Try.ntmps19
    go_wp2_with fail
    refine (plAsked_any _ B _ l x y h).mono ?_
    rintro e w1 ⟨rfl, b1⟩
    rw [HQ.out]
    go_wp2
    go_ret2
    exact ⟨ret_ib (by unfold pvPl; rw [HQ.out]; rfl) rfl, b1⟩
  · have HQ := Lib.hid hq
    clear hq
    go_enter Try.func19, Try.ntmps19
    go_wp2_with fail
    refine (plAsked_any _ B _ l x y h).mono ?_
    rintro e w1 ⟨rfl, b1⟩
    have h1 := FS.below h b1
    rw [HQ.out]
    obtain ⟨a1, a2, a3, -⟩ := askPl_parts HQ.out
    go_wp2_with fail
    refine (plValues_any _ B _ l x y h1 a1 ((finB_iff _).1 a2) ((finB_iff _).1 a3)).mono ?_
    rintro e w2 ⟨r, rfl, hr, b2⟩
    go_wp2_with fail
    refine (nuSum_any _ _ _ _ hr).mono ?_
    rintro e w' ⟨rfl, rfl⟩
    go_wp2
    go_ret2
    exact ⟨ret_ib (pvPl_yes HQ.out).symm rfl, bel2 b1 b2⟩
theorem specPlaneLeast_any (w : World) (B : Nat) (v : Value) (l : List Tm) (x y : Int) (h : TmS w B v l) : Calls Try.prog 21 #[v, .int .i64 x, .int .i64 y] w fun e w' => GivesIB (askPl l x y) (plR l x y) w e w' := by
  cases hq : askPl l x y
  · have HQ := Lib.hid hq
    clear hq
    go_enter Try.func21, Try.ntmps21
    go_wp2_with fail
    refine (plAsked_any _ B _ l x y h).mono ?_
    rintro e w1 ⟨rfl, b1⟩
    rw [HQ.out]
    go_wp2
    go_ret2
    exact givesIB_nil rfl (plR_no HQ.out) b1
  · have HQ := Lib.hid hq
    clear hq
    go_enter Try.func21, Try.ntmps21
    go_wp2_with fail
    refine (plAsked_any _ B _ l x y h).mono ?_
    rintro e w1 ⟨rfl, b1⟩
    have h1 := FS.below h b1
    rw [HQ.out]
    obtain ⟨a1, a2, a3, -⟩ := askPl_parts HQ.out
    go_wp2_with fail
    refine (plValues_any _ B _ l x y h1 a1 ((finB_iff _).1 a2) ((finB_iff _).1 a3)).mono ?_
    rintro e w2 ⟨r, rfl, hr, b2⟩
    go_wp2_with fail
    refine (nuPlaces_any _ _ _ _ hr (by rw [tvs_len]; have := (plB_le a1).2; omega)).mono ?_
    rintro e w3 ⟨r3, rfl, hr3, b3⟩
    have B2 := bel2 b1 b2
    go_wp2
    go_ret2
    exact givesIB_yes rfl (by rw [plR_yes HQ.out]; exact hr3.base B2.size) (bel2 B2 b3)
def ocB (l : List Tm) (x y : Int) : Bool := askPl l x y && decide (1 < (places (tvs l x y)).length)
theorem specIsOnCurve_any (w : World) (B : Nat) (v : Value) (l : List Tm) (x y : Int) (h : TmS w B v l) : Calls Try.prog 27 #[v, .int .i64 x, .int .i64 y] w fun e w' => SaysBB (ocB l x y) (askPl l x y) w e w' := by
  cases hq : askPl l x y
  · have HQ := Lib.hid hq
    clear hq
    go_enter Try.func27, Try.ntmps27
    go_wp2_with fail
    refine (plAsked_any _ B _ l x y h).mono ?_
    rintro e w1 ⟨rfl, b1⟩
    rw [HQ.out]
    go_wp2
    go_ret2
    exact ⟨ret_bb (by unfold ocB; rw [HQ.out]; rfl) rfl, b1⟩
  · have HQ := Lib.hid hq
    clear hq
    go_enter Try.func27, Try.ntmps27
    go_wp2_with fail
    refine (plAsked_any _ B _ l x y h).mono ?_
    rintro e w1 ⟨rfl, b1⟩
    have h1 := FS.below h b1
    rw [HQ.out]
    obtain ⟨a1, a2, a3, -⟩ := askPl_parts HQ.out
    go_wp2_with fail
    refine (plValues_any _ B _ l x y h1 a1 ((finB_iff _).1 a2) ((finB_iff _).1 a3)).mono ?_
    rintro e w2 ⟨r, rfl, hr, b2⟩
    go_wp2_with fail
    refine (nuPlaces_any _ _ _ _ hr (by rw [tvs_len]; have := (plB_le a1).2; omega)).mono ?_
    rintro e w3 ⟨r3, rfl, hr3, b3⟩
    have HO := Lib.hid (show decide (1 < (places (tvs l x y)).length) = ocB l x y by unfold ocB; rw [HQ.out]; rfl)
    obtain ⟨A3, cap3, rfl, -, -⟩ := hr3.parts
    obtain ⟨m, hm⟩ : ∃ m, m = (places (tvs l x y)).length := ⟨_, rfl⟩
    rw [← hm] at HO ⊢
    clear hm
    go_wp2
    go_ret2
    exact ⟨ret_bb (by rw [← HO.out]; exact decide_eq_decide.2 (by omega)) rfl, bel2 (bel2 b1 b2) b3⟩
set_option maxHeartbeats 1000000 in
set_option maxRecDepth 100000 in
theorem implPlaneValue_any (w : World) (B : Nat) (v : Value) (l : List Tm) (x y : Int) (h : TmS w B v l) : Calls Try.prog 20 #[v, .int .i64 x, .int .i64 y] w fun e w' => e = .returned (.tuple #[.int .i64 (pvPl l x y), .bool (askPl l x y)]) ∧ Below w.heap.size w w' := by
  cases hl : plB l
  · obtain ⟨ha, hb⟩ := askPl_no1 (x := x) (y := y) hl
    have HL := Lib.hid hl
    rw [ha, hb]
    clear hl ha hb
    go_enter Try.func20, Try.ntmps20
    go_wp2_with fail
    refine (isPlane_any _ B _ l h).mono ?_
    rintro e w1 ⟨rfl, b1⟩
    rw [HL.out]
    go_wp2
    go_ret2
    exact ⟨rfl, b1⟩
  · have HL := Lib.hid hl
    clear hl
    cases hx : finB x
    · obtain ⟨ha, hb⟩ := askPl_no2 (l := l) (y := y) hx
      have HX := Lib.hid hx
      rw [ha, hb]
      clear hx ha hb
      go_enter Try.func20, Try.ntmps20
      go_wp2_with fail
      refine (isPlane_any _ B _ l h).mono ?_
      rintro e w1 ⟨rfl, b1⟩
      rw [HL.out]
      go_wp2_with fail
      refine (isFin_any _ _).mono ?_
      rintro e w' ⟨rfl, rfl⟩
      rw [HX.out]
      go_wp2
      go_ret2
      exact ⟨rfl, b1⟩
    · have HX := Lib.hid hx
      clear hx
      cases hy : finB y
      · obtain ⟨ha, hb⟩ := askPl_no3 (l := l) (x := x) hy
        have HY := Lib.hid hy
        rw [ha, hb]
        clear hy ha hb
        go_enter Try.func20, Try.ntmps20
        go_wp2_with fail
        refine (isPlane_any _ B _ l h).mono ?_
        rintro e w1 ⟨rfl, b1⟩
        rw [HL.out]
        go_wp2_with fail
        refine (isFin_any _ _).mono ?_
        rintro e w' ⟨rfl, rfl⟩
        rw [HX.out]
        go_wp2_with fail
        refine (isFin_any _ _).mono ?_
        rintro e w' ⟨rfl, rfl⟩
        rw [HY.out]
        go_wp2
        go_ret2
        exact ⟨rfl, b1⟩
      · have HY := Lib.hid hy
        clear hy
        have hxb := (finB_iff _).1 HX.out
        have hyb := (finB_iff _).1 HY.out
        obtain ⟨r1, r2⟩ := askPl_num HL.out HX.out HY.out
        rw [r1, r2]
        clear r1 r2
        have HV := Lib.hid (fun (k : Nat) (hk : k < l.length) W => valueOfTerm_any (td l k) x y W (plB_at HL.out hk) hxb hyb)
        have HE := Lib.hid (lwV_end HL.out hxb hyb)
        have H0 := Lib.hid h
        obtain ⟨A, cap, rfl, hm, hp⟩ := TmS.parts h
        have HP := Lib.hid hp
        have h1n := (plB_le HL.out).1
        have h2n := (plB_le HL.out).2
        obtain ⟨n, hn⟩ : ∃ n, n = l.length := ⟨_, rfl⟩
        have HN := Lib.hid hn
        clear hp h hm hxb hyb
        go_enter Try.func20, Try.ntmps20
        go_wp2_with fail
        refine (isPlane_any _ B _ l H0.out).mono ?_
        rintro e w1 ⟨rfl, b1⟩
        rw [HL.out]
        go_wp2_with fail
        refine (isFin_any _ _).mono ?_
        rintro e w' ⟨rfl, rfl⟩
        rw [HX.out]
        go_wp2_with fail
        refine (isFin_any _ _).mono ?_
        rintro e w' ⟨rfl, rfl⟩
        rw [HY.out]
        rw [← hn] at h1n h2n ⊢
        obtain ⟨g, rfl, hc0⟩ := HP.out 0 (by rw [← HN.out]; exact h1n)
        obtain ⟨c0, c1, c2⟩ := X3.below hc0 b1
        rw [Nat.zero_mul] at c0 c1 c2
        clear hc0 hn
        go_wp2_with fail
        refine (HV.out 0 (by rw [← HN.out]; exact h1n) _).mono ?_
        rintro e w2 ⟨rfl, b2⟩
        have B2 := bel2 b1 b2.below
        have HS := Lib.hid (show tv (td l 0) x y = lwV l x y 0 by simp [lwV, tvs])
        rw [HS.out]
        clear c0 c1 c2 b1 b2
        go_wp2
        go_loopw [8, 32] (fun m i wr => ∃ k : Nat, k ≤ n ∧ i = .int .i64 k ∧ m = .int .i64 (lwV l x y k) ∧ Below w.heap.size w wr) (fun _ i _ => n - (intOf i).toNat)
        case atStart => exact ⟨0, by omega, rfl, rfl, B2⟩
        case round =>
          obtain ⟨k, hk, rfl, rfl, hb⟩ := hrel
          by_cases hlt : k < n
          · have hkl : k < l.length := by rw [← HN.out]; exact hlt
            obtain ⟨g', hg', hc0⟩ := HP.out k hkl
            cases hg'
            obtain ⟨c0, c1, c2⟩ := X3.below hc0 hb
            have hnx := Lib.hid (lwV_next l x y k hkl)
            have hbA := hb.alloc hb.size (.cells #[.int .i64 (td l k).1, .int .i64 (td l k).2.1, .int .i64 (td l k).2.2] 54)
            clear hc0
            go_wp2_with fail
            refine (HV.out k hkl _).mono ?_
            rintro e w3 ⟨rfl, b3⟩
            have B3 := bel2 hbA b3.below
            clear b3
            go_wp2
            all_goals
              go_roundw
              case rel => exact ⟨k + 1, by omega, by go_num, by rw [hnx.out]; unfold lessI; split <;> go_num, B3⟩
              case measure => simp [intOf]; omega
          · obtain rfl : k = n := by omega
            rw [HN.out, HE.out]
            go_wp2_with fail
            refine (numberOrNone_any _ _).mono ?_
            rintro e w' ⟨rfl, rfl⟩
            go_wp2
            go_ret2
            exact ⟨rfl, hb⟩
end Go.Proofs.Ytibdbgeknphljaa

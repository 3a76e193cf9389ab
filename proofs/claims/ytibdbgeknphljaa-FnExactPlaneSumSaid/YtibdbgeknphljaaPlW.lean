/-
  The places of the least terms in the program; degrees: what the calls return.
  Condition: the slice reads as the list that is named.
-/
import Derived.Test.YtibdbgeknphljaaPlV
namespace Go.Proofs.Ytibdbgeknphljaa
set_option linter.unusedSimpArgs false
set_option linter.unusedVariables false
open Go.ChangeShapes Go.WideShapes Go.ChangeAt Go.RowKit
open Go.Sort (grow)

set_option maxHeartbeats 1000000 in
set_option maxRecDepth 100000 in
theorem implPlaneLeast_any (w : World) (B : Nat) (v : Value) (l : List Tm) (x y : Int) (h : TmS w B v l) : Calls Try.prog 22 #[v, .int .i64 x, .int .i64 y] w fun e w' => GivesIB (askPl l x y) (plR l x y) w e w' := by
  cases hq : askPl l x y
  · have HQ := Lib.hid hq
    clear hq
    go_enter Try.func22, Try.ntmps22
    go_wp2_with fail
    refine (implPlaneValue_any _ B _ l x y h).mono ?_
    rintro e w1 ⟨rfl, b1⟩
    rw [HQ.out]
    go_wp2
    go_ret2
    exact givesIB_nil rfl (plR_no HQ.out) b1
  · have HQ := Lib.hid hq
    obtain ⟨hl, hx, hy, -⟩ := askPl_parts hq
    have hxb := (finB_iff _).1 hx
    have hyb := (finB_iff _).1 hy
    have hvb := least_tvs hl hxb hyb
    have HV := Lib.hid (fun (k : Nat) (hk : k < l.length) W => valueOfTerm_any (td l k) x y W (plB_at hl hk) hxb hyb)
    have HG := Lib.hid (fun k hk => tvs_gd l x y k hk)
    have HR := Lib.hid (plR_yes hq)
    have HS := Lib.hid (pvPl_yes hq)
    have H0 := Lib.hid h
    obtain ⟨A, cap, rfl, hm, hp⟩ := TmS.parts h
    have HP := Lib.hid hp
    have h2n := (plB_le hl).2
    obtain ⟨n, hn⟩ : ∃ n, n = l.length := ⟨_, rfl⟩
    have HN := Lib.hid hn
    obtain ⟨i0, hi, hz0, hz1, hz2⟩ := info_parts infoInt
    obtain ⟨zs, hzs⟩ : ∃ zs, zs = tvs l x y := ⟨_, rfl⟩
    have HZ := Lib.hid (show zs.length = n by rw [hzs, tvs_len, hn])
    have HP2 := Lib.hid (show plR l x y = plc zs (leastL zs) n by rw [HR.out, ← hzs, places, HZ.out])
    rw [← hzs] at HG HS
    obtain ⟨m, hmm⟩ : ∃ m, m = leastL zs := ⟨_, rfl⟩
    rw [← hmm] at HP2 HS
    clear hp h hm hxb hyb hq hl hx hy hzs hmm HR hvb
    go_enter Try.func22, Try.ntmps22
    go_wp2_with fail
    refine (implPlaneValue_any _ B _ l x y H0.out).mono ?_
    rintro e w1 ⟨rfl, b1⟩
    rw [HQ.out, HS.out]
    rw [← hn] at h2n ⊢
    clear hn
    go_wp2
    go_loopw [10, 24] (fun o i wr => ∃ k : Nat, k ≤ n ∧ i = .int .i64 k ∧ IS wr w.heap.size o (plc zs m k) ∧ Below w.heap.size w wr) (fun _ i _ => n - (intOf i).toNat)
    case atStart => exact ⟨0, by omega, rfl, IS.nil_ _ _, b1⟩
    case round =>
      obtain ⟨k, hk, rfl, ho, hb⟩ := hrel
      by_cases hlt : k < n
      · have hkl : k < l.length := by rw [← HN.out]; exact hlt
        obtain ⟨g, rfl, hc0⟩ := HP.out k hkl
        obtain ⟨c0, c1, c2⟩ := X3.below hc0 hb
        have hgk := Lib.hid (HG.out k hkl)
        have hbA := hb.alloc hb.size (.cells #[.int .i64 (td l k).1, .int .i64 (td l k).2.1, .int .i64 (td l k).2.2] 54)
        have hoA := ho.alloc (.cells #[.int .i64 (td l k).1, .int .i64 (td l k).2.1, .int .i64 (td l k).2.2] 54)
        have HVk := Lib.hid (fun W => show Calls Try.prog 57 #[tmV (td l k), .int .i64 x, .int .i64 y] W fun e w' => e = .returned (.int .i64 (gd zs k)) ∧ Gr W w' by rw [hgk.out]; exact HV.out k hkl W)
        clear hc0
        cases hq : gd zs k == m
        · have HPL := Lib.hid (plc_no hq)
          go_wp2_with fail
          refine (HVk.out _).mono ?_
          rintro e w3 ⟨rfl, b3⟩
          have B3 := bel2 hbA b3.below
          have ho3 := hoA.below b3.below
          clear b3
          go_wp2
          go_roundw
          case rel => exact ⟨k + 1, by omega, by go_num, by rw [HPL.out]; exact ho3, B3⟩
          case measure => simp [intOf]; omega
        · have HPL := Lib.hid (plc_yes hq)
          have hpl := plc_len zs m k
          go_wp2_with fail
          refine (HVk.out _).mono ?_
          rintro e w3 ⟨rfl, b3⟩
          have B3 := bel2 hbA b3.below
          have ho3 : w3.ownsRow w.heap.size 3 1 u10 (plc zs m k).length (ints (plc zs m k)) := hoA.below b3.below
          clear b3 hoA
          go_wp2_with (at_builtin; refine wpList_append_own _ rfl _ _ 32 rfl w.heap.size 3 i0 (.int .i64 0) 1 8 Try.underlying32 hi hz0 hz1 hz2 rfl (by decide) _ _ _ rfl (ho3.alloc _) ⟨w3.heap.size, 0, none⟩ 1 1 [.int .i64 (k : Int)] rfl rfl (one_new _ _) (by simp [Value.oneCell']) (by unfold maxLen; omega) (by omega) (by have := B3.size; simp; omega) ?_; intro v' w4 hown' hgrow hnil)
          have hb' : Below w.heap.size w w4 := (B3.alloc B3.size _).grown hgrow (by have := B3.size; simp; omega) (fun g' hg' => (World.ownsRow.lt ho3 g' hg').1)
          have hrow := IS.snoc rfl hown'
          rw [← HPL.out] at hrow
          go_wp2
          go_roundw
          case rel => exact ⟨k + 1, by omega, by go_num, hrow, hb'⟩
          case measure => simp [intOf]; omega
      · go_wp2
        go_ret2
        obtain rfl : k = n := by omega
        exact givesIB_yes rfl (by rw [HP2.out]; exact ho) hb
theorem plR_oc (l : List Tm) (x y : Int) : ocB l x y = decide (2 ≤ (plR l x y).length) := by
  unfold ocB
  cases h : askPl l x y
  · rw [plR_no h]; simp
  · rw [plR_yes h]; simp; omega
theorem implIsOnCurve_any (w : World) (B : Nat) (v : Value) (l : List Tm) (x y : Int) (h : TmS w B v l) : Calls Try.prog 28 #[v, .int .i64 x, .int .i64 y] w fun e w' => SaysBB (ocB l x y) (askPl l x y) w e w' := by
  go_enter Try.func28, Try.ntmps28
  go_wp2_with fail
  refine (implPlaneLeast_any _ B _ l x y h).mono ?_
  rintro e w1 ⟨r, rfl, hr, b1⟩
  have HO := Lib.hid (plR_oc l x y)
  obtain ⟨A3, cap3, rfl, -, -⟩ := hr.parts
  obtain ⟨m, hm⟩ : ∃ m, m = (plR l x y).length := ⟨_, rfl⟩
  rw [← hm] at HO ⊢
  clear hm
  go_wp2
  go_ret2
  exact ⟨ret_bb (by rw [HO.out]; exact decide_eq_decide.2 (by omega)) rfl, b1⟩
def moreI (a b : Int) : Int := if a < b then b else a
theorem l1MostP_any (a b : Int) (w : World) : Calls Try.prog 69 #[.int .i64 a, .int .i64 b] w fun e w' => e = .returned (.int .i64 (moreI a b)) ∧ w = w' := by
  by_cases h : b < a
  · go_enter Try.func69, Try.ntmps69
    go_wp2
    go_ret
    exact ⟨ret_i64 (by unfold moreI; split <;> omega), rfl⟩
  · go_enter Try.func69, Try.ntmps69
    go_wp2
    go_ret
    exact ⟨ret_i64 (by unfold moreI; split <;> omega), rfl⟩
theorem dgL_next (l : List Tm) (k : Nat) : dgL l (k + 1) = moreI (dgL l k) ((td l k).1 + (td l k).2.1) := rfl
theorem dgR_no {l : List Tm} (h : plB l = false) : dgR l = 0 := by unfold dgR; simp [h]
theorem dgR_yes {l : List Tm} (h : plB l = true) : dgR l = dgL l l.length := by unfold dgR; simp [h]
set_option maxHeartbeats 1000000 in
set_option maxRecDepth 100000 in
theorem specTotalDegree_any (w : World) (B : Nat) (v : Value) (l : List Tm) (h : TmS w B v l) : Calls Try.prog 38 #[v] w fun e w' => e = .returned (.tuple #[.int .i64 (dgR l), .bool (plB l)]) ∧ Below w.heap.size w w' := by
  cases hl : plB l
  · have HL := Lib.hid hl
    rw [dgR_no hl]
    clear hl
    go_enter Try.func38, Try.ntmps38
    go_wp2_with fail
    refine (plGood_any _ B _ l h).mono ?_
    rintro e w1 ⟨rfl, b1⟩
    rw [HL.out]
    go_wp2
    go_ret2
    exact ⟨rfl, b1⟩
  · have HL := Lib.hid hl
    have HD := Lib.hid (dgR_yes hl)
    have H0 := Lib.hid h
    obtain ⟨A, cap, rfl, hm, hp⟩ := TmS.parts h
    have HP := Lib.hid hp
    have h2n := (plB_le hl).2
    obtain ⟨n, hn⟩ : ∃ n, n = l.length := ⟨_, rfl⟩
    have HN := Lib.hid hn
    clear hp h hm hl
    go_enter Try.func38, Try.ntmps38
    go_wp2_with fail
    refine (plGood_any _ B _ l H0.out).mono ?_
    rintro e w1 ⟨rfl, b1⟩
    rw [HL.out]
    rw [← hn] at h2n ⊢
    clear hn
    go_wp2
    go_loopw [4, 12] (fun m i wr => ∃ k : Nat, k ≤ n ∧ i = .int .i64 k ∧ m = .int .i64 (dgL l k) ∧ Below w.heap.size w wr) (fun _ i _ => n - (intOf i).toNat)
    case atStart => exact ⟨0, by omega, rfl, rfl, b1⟩
    case round =>
      obtain ⟨k, hk, rfl, rfl, hb⟩ := hrel
      by_cases hlt : k < n
      · have hkl : k < l.length := by rw [← HN.out]; exact hlt
        obtain ⟨g, rfl, hc0⟩ := HP.out k hkl
        obtain ⟨c0, c1, c2⟩ := X3.below hc0 hb
        have hnx := Lib.hid (dgL_next l k)
        have hbA := hb.alloc hb.size (.cells #[.int .i64 (td l k).1, .int .i64 (td l k).2.1, .int .i64 (td l k).2.2] 54)
        have ht := plT_parts (plB_at HL.out hkl)
        have q1 : IntKind.i64.wrap ((td l k).1 + (td l k).2.1) = (td l k).1 + (td l k).2.1 := IntWalk.i64_in _ (by omega)
        clear hc0 ht
        go_wp2_with fail
        refine (l1MostP_any _ _ _).mono ?_
        rintro e w' ⟨rfl, rfl⟩
        rw [← hnx.out]
        go_wp2
        go_roundw
        case rel => exact ⟨k + 1, by omega, by go_num, rfl, hbA⟩
        case measure => simp [intOf]; omega
      · go_wp2
        go_ret2
        obtain rfl : k = n := by omega
        exact ⟨ret_ib (by rw [HD.out, HN.out]) rfl, hb⟩
set_option maxHeartbeats 1000000 in
set_option maxRecDepth 100000 in
theorem implTotalDegree_any (w : World) (B : Nat) (v : Value) (l : List Tm) (h : TmS w B v l) : Calls Try.prog 39 #[v] w fun e w' => e = .returned (.tuple #[.int .i64 (dgR l), .bool (plB l)]) ∧ Below w.heap.size w w' := by
  cases hl : plB l
  · have HL := Lib.hid hl
    rw [dgR_no hl]
    clear hl
    go_enter Try.func39, Try.ntmps39
    go_wp2_with fail
    refine (isPlane_any _ B _ l h).mono ?_
    rintro e w1 ⟨rfl, b1⟩
    rw [HL.out]
    go_wp2
    go_ret2
    exact ⟨rfl, b1⟩
  · have HL := Lib.hid hl
    have HD := Lib.hid (dgR_yes hl)
    have H0 := Lib.hid h
    obtain ⟨A, cap, rfl, hm, hp⟩ := TmS.parts h
    have HP := Lib.hid hp
    have h2n := (plB_le hl).2
    obtain ⟨n, hn⟩ : ∃ n, n = l.length := ⟨_, rfl⟩
    have HN := Lib.hid hn
    clear hp h hm hl
    go_enter Try.func39, Try.ntmps39
    go_wp2_with fail
    refine (isPlane_any _ B _ l H0.out).mono ?_
    rintro e w1 ⟨rfl, b1⟩
    rw [HL.out]
    rw [← hn] at h2n ⊢
    clear hn
    go_wp2
    go_loopw [4, 12] (fun m i wr => ∃ k : Nat, k ≤ n ∧ i = .int .i64 k ∧ m = .int .i64 (dgL l k) ∧ Below w.heap.size w wr) (fun _ i _ => n - (intOf i).toNat)
    case atStart => exact ⟨0, by omega, rfl, rfl, b1⟩
    case round =>
      obtain ⟨k, hk, rfl, rfl, hb⟩ := hrel
      by_cases hlt : k < n
      · have hkl : k < l.length := by rw [← HN.out]; exact hlt
        obtain ⟨g, rfl, hc0⟩ := HP.out k hkl
        obtain ⟨c0, c1, c2⟩ := X3.below hc0 hb
        have hnx := Lib.hid (dgL_next l k)
        have hbA := hb.alloc hb.size (.cells #[.int .i64 (td l k).1, .int .i64 (td l k).2.1, .int .i64 (td l k).2.2] 54)
        have ht := plT_parts (plB_at HL.out hkl)
        have q1 : IntKind.i64.wrap ((td l k).1 + (td l k).2.1) = (td l k).1 + (td l k).2.1 := IntWalk.i64_in _ (by omega)
        clear hc0 ht
        go_wp2
        all_goals
          go_roundw
          case rel => exact ⟨k + 1, by omega, by go_num, by rw [hnx.out]; unfold moreI; split <;> go_num, hbA⟩
          case measure => simp [intOf]; omega
      · go_wp2
        go_ret2
        obtain rfl : k = n := by omega
        exact ⟨ret_ib (by rw [HD.out, HN.out]) rfl, hb⟩
end Go.Proofs.Ytibdbgeknphljaa

/-
  Widths of polygons, of the program and of the model: what the calls return.
  Condition: the slice reads as the list that is named.
-/
import Derived.Test.YtamejfeaniokfaaPgP
namespace Go.Proofs.Ytamejfeaniokfaa
set_option linter.unusedSimpArgs false
set_option linter.unusedVariables false
open Go.ChangeShapes Go.WideShapes Go.ChangeAt Go.RowKit
open Go.Sort (grow)

def mxS (zs : List Int) : Nat → Int
  | 0 => gd zs 0
  | k + 1 => max (mxS zs k) (gd zs k)
def mnS (zs : List Int) : Nat → Int
  | 0 => gd zs 0
  | k + 1 => lessI (mnS zs k) (gd zs k)
theorem mxS_1 (zs : List Int) : mxS zs 1 = gd zs 0 := by simp [mxS]
theorem mnS_1 (zs : List Int) : mnS zs 1 = gd zs 0 := by simp [mnS, lessI]
theorem mm_bd {zs : List Int} {M : Int} (h : ∀ k, k < zs.length → -M ≤ gd zs k ∧ gd zs k ≤ M) (h0 : 0 < zs.length) : ∀ k, k ≤ zs.length → (-M ≤ mxS zs k ∧ mxS zs k ≤ M) ∧ (-M ≤ mnS zs k ∧ mnS zs k ≤ M)
  | 0, _ => ⟨h 0 h0, h 0 h0⟩
  | k + 1, hk => by
    have ih := mm_bd h h0 k (by omega)
    have hx := h k (by omega)
    unfold mxS mnS lessI
    constructor
    · omega
    · split <;> omega
/-- The value of a point in a direction. -/
def vdP (d p : Pt) : Int := p.1 * d.1 + p.2 * d.2
def vdL (l : List Pt) (d : Pt) : List Int := l.map (vdP d)
theorem vdL_len (l : List Pt) (d : Pt) : (vdL l d).length = l.length := by simp [vdL]
theorem vdL_gd (l : List Pt) (d : Pt) (k : Nat) (hk : k < l.length) : gd (vdL l d) k = vdP d (pd l k) := by
  rw [gd_eq _ _ (by rw [vdL_len]; exact hk), pd_eq l k hk]; simp [vdL]
theorem vd_sm {d p : Pt} (hd : Sm 100 d) (hp : Sm 100 p) : (-10000 ≤ p.1 * d.1 ∧ p.1 * d.1 ≤ 10000) ∧ (-10000 ≤ p.2 * d.2 ∧ p.2 * d.2 ≤ 10000) := by
  unfold Sm at hd hp
  have h1 := mul_bd (a := p.1) (b := d.1) 100 100 (by omega) (by omega)
  have h2 := mul_bd (a := p.2) (b := d.2) 100 100 (by omega) (by omega)
  omega
theorem vdL_bd {l : List Pt} {d : Pt} (hl : ∀ q ∈ l, Sm 100 q) (hd : Sm 100 d) : ∀ k, k < (vdL l d).length → -20000 ≤ gd (vdL l d) k ∧ gd (vdL l d) k ≤ 20000 := fun k hk => by
  rw [vdL_len] at hk
  rw [vdL_gd l d k hk]
  have := vd_sm hd (hl _ (pd_mem hk))
  unfold vdP; omega
def wdL (l : List Pt) (d : Pt) : Int := mxS (vdL l d) l.length - mnS (vdL l d) l.length
def wdR (l : List Pt) (d : Pt) : Int := if hpB l d = true then wdL l d else 0
theorem wdR_no {l : List Pt} {d : Pt} (h : hpB l d = false) : wdR l d = 0 := if_neg (by simp [h])
theorem wdR_yes {l : List Pt} {d : Pt} (h : hpB l d = true) : wdR l d = wdL l d := if_pos h
set_option maxHeartbeats 1000000 in
theorem slicesMax_any (w : World) (B : Nat) (v : Value) (zs : List Int) (h : IS w B v zs) (h0 : 0 < zs.length) : Calls Try.prog 38 #[v] w fun e w' => e = .returned (.int .i64 (mxS zs zs.length)) ∧ w = w' := by
  obtain ⟨A, cap, rfl, hm, hp⟩ := h.parts
  unfold maxLen at hm
  have HP := Lib.hid hp
  obtain ⟨g, hgA, hc0⟩ := hp 0 h0
  subst hgA
  have hn1 : ¬ (zs.length : Int) < 1 := by omega
  clear hp h
  go_enter Try.func38, Try.ntmps38
  go_wp2
  go_loop [3, 4] (fun m i => ∃ k : Nat, 1 ≤ k ∧ k ≤ zs.length ∧ i = .int .i64 k ∧ m = .int .i64 (mxS zs k)) (fun _ i => zs.length - (intOf i).toNat)
  case atStart => exact ⟨1, by omega, by omega, rfl, by rw [mxS_1]⟩
  case round =>
    obtain ⟨k, hk1, hk, rfl, rfl⟩ := hrel
    by_cases hlt : k < zs.length
    · obtain ⟨g', hg', hc⟩ := HP.out k hlt
      cases hg'
      have HN := Lib.hid (show mxS zs (k + 1) = max (mxS zs k) (gd zs k) from rfl)
      obtain ⟨x, hx⟩ : ∃ x, x = mxS zs k := ⟨_, rfl⟩
      rw [← hx] at HN ⊢
      clear hx
      go_wp2
      all_goals
        go_round
        case rel => exact ⟨k + 1, by omega, by omega, by go_num, by (rw [HN.out]) <;> (first | rfl | (congr 1; omega))⟩
        case measure => simp [intOf]; omega
    · obtain rfl : k = zs.length := by omega
      go_wp2
      go_ret
      exact ⟨rfl, rfl⟩
set_option maxHeartbeats 1000000 in
theorem slicesMin_any (w : World) (B : Nat) (v : Value) (zs : List Int) (h : IS w B v zs) (h0 : 0 < zs.length) : Calls Try.prog 39 #[v] w fun e w' => e = .returned (.int .i64 (mnS zs zs.length)) ∧ w = w' := by
  obtain ⟨A, cap, rfl, hm, hp⟩ := h.parts
  unfold maxLen at hm
  have HP := Lib.hid hp
  obtain ⟨g, hgA, hc0⟩ := hp 0 h0
  subst hgA
  have hn1 : ¬ (zs.length : Int) < 1 := by omega
  clear hp h
  go_enter Try.func39, Try.ntmps39
  go_wp2
  go_loop [3, 4] (fun m i => ∃ k : Nat, 1 ≤ k ∧ k ≤ zs.length ∧ i = .int .i64 k ∧ m = .int .i64 (mnS zs k)) (fun _ i => zs.length - (intOf i).toNat)
  case atStart => exact ⟨1, by omega, by omega, rfl, by rw [mnS_1]⟩
  case round =>
    obtain ⟨k, hk1, hk, rfl, rfl⟩ := hrel
    by_cases hlt : k < zs.length
    · obtain ⟨g', hg', hc⟩ := HP.out k hlt
      cases hg'
      have HN := Lib.hid (show mnS zs (k + 1) = lessI (mnS zs k) (gd zs k) from rfl)
      obtain ⟨x, hx⟩ : ∃ x, x = mnS zs k := ⟨_, rfl⟩
      rw [← hx] at HN ⊢
      clear hx
      go_wp2
      all_goals
        go_round
        case rel => exact ⟨k + 1, by omega, by omega, by go_num, by (rw [HN.out]; unfold lessI) <;> (first | rfl | (congr 1; split <;> omega))⟩
        case measure => simp [intOf]; omega
    · obtain rfl : k = zs.length := by omega
      go_wp2
      go_ret
      exact ⟨rfl, rfl⟩
set_option maxHeartbeats 2000000 in
set_option maxRecDepth 100000 in
theorem specWidthIn_any (w : World) (B : Nat) (v : Value) (l : List Pt) (p : Pt) (h : PtS w B v l) : Calls Try.prog 20 #[v, ptV p] w fun e w' => GivesZB (wdR l p) (hpB l p) w e w' := by
  have H := Lib.hid (FS.below h ((Below.refl _ w).alloc (Nat.le_refl _) (.cells #[.int .i64 p.1, .int .i64 p.2] 35)))
  have HX := Lib.hid (P2.new w p 35)
  have HBX := Lib.hid ((Below.refl _ w).alloc (Nat.le_refl _) (.cells #[.int .i64 p.1, .int .i64 p.2] 35))
  have HO := Lib.hid (fun W => pyOne_any p W)
  cases hg : pgB l
  · have HG := Lib.hid hg
    have HN := Lib.hid (hp_no1 (p := p) hg)
    clear hg h
    go_enter Try.func20, Try.ntmps20
    go_wp2_with fail
    refine (pyGood_any _ B _ l H.out).mono ?_
    rintro e w1 ⟨rfl, b1⟩
    rw [HG.out]
    go_wp2
    go_ret2
    exact givesZB_no (wdR_no HN.out.1) HN.out.1 (bel2 HBX.out b1)
  · cases hp : ptG p
    · have HG := Lib.hid hg
      have HP := Lib.hid hp
      have HN := Lib.hid (hp_no2 (l := l) hp)
      clear hg hp h
      go_enter Try.func20, Try.ntmps20
      go_wp2_with fail
      refine (pyGood_any _ B _ l H.out).mono ?_
      rintro e w1 ⟨rfl, b1⟩
      rw [HG.out]
      obtain ⟨c0, c1⟩ := P2.below HX.out b1
      go_wp2_with fail
      refine (HO.out _).mono ?_
      rintro e w2 ⟨rfl, g2⟩
      rw [HP.out]
      go_wp2
      go_ret2
      exact givesZB_no (wdR_no HN.out.1) HN.out.1 (bel2 (bel2 HBX.out b1) g2.below)
    · have HG := Lib.hid hg
      have HP := Lib.hid hp
      have HN := Lib.hid (hp_yes hg hp)
      have hl := pg_100 hg
      have hps := Sm.of hp
      have HSM := Lib.hid hl
      have HPS := Lib.hid hps
      obtain ⟨-, h0, hz⟩ := pg_sm hg
      obtain ⟨zs, hzs⟩ : ∃ zs, zs = vdL l p := ⟨_, rfl⟩
      have HZS := Lib.hid hzs
      have HZL := Lib.hid (show zs.length = l.length by rw [hzs, vdL_len])
      have HMM := Lib.hid (fun k hk => mm_bd (zs := zs) (M := 20000) (by rw [hzs]; exact vdL_bd hl hps) (by rw [hzs, vdL_len]; omega) k hk)
      obtain ⟨A, cap, rfl, hm, hpp⟩ := PtS.parts h
      have HC := Lib.hid hpp
      obtain ⟨g, hgA, -⟩ := hpp 0 (by omega)
      subst hgA
      obtain ⟨n, hn⟩ : ∃ n, n = l.length := ⟨_, rfl⟩
      have HNN := Lib.hid hn
      have H2 := Lib.hid (show PtS (w.alloc (.cells #[.int .i64 p.1, .int .i64 p.2] 35)) B (.slice (some ⟨g, 0, none⟩) n cap) l by rw [hn]; exact H.out)
      rw [← hn] at h0 hz ⊢
      clear hg hp h hl hps hm hpp hn hzs H
      go_enter Try.func20, Try.ntmps20
      go_wp2_with fail
      refine (pyGood_any _ B _ l H2.out).mono ?_
      rintro e w1 ⟨rfl, b1⟩
      rw [HG.out]
      obtain ⟨c0, c1⟩ := P2.below HX.out b1
      go_wp2_with fail
      refine (HO.out _).mono ?_
      rintro e w2 ⟨rfl, g2⟩
      rw [HP.out]
      have HX2 := Lib.hid (P2.below (P2.below HX.out b1) g2.below)
      have HB2 := Lib.hid (bel2 (bel2 HBX.out b1) g2.below)
      have HC2 := Lib.hid (fun k (hk : k < l.length) => show X2 w2 g (k * 2) (pd l k) from by
        obtain ⟨g', hg', hx⟩ := HC.out k hk
        obtain rfl : g = g' := by simpa using hg'
        exact X2.below hx (bel2 (bel2 HBX.out b1) g2.below))
      clear c0 c1 b1 g2
      obtain ⟨e0, e1⟩ := P2.grown HX2.out
      have hc0 := HC2.out 0 (by rw [← HNN.out]; omega)
      obtain ⟨q, hq⟩ : ∃ q, q = pd l 0 := ⟨_, rfl⟩
      have hqs : Sm 100 q := by rw [hq]; exact HSM.out _ (pd_mem (by rw [← HNN.out]; omega))
      have HQ := Lib.hid (show gd zs 0 = q.1 * p.1 + q.2 * p.2 by rw [HZS.out, vdL_gd l p 0 (by rw [← HNN.out]; omega), ← hq]; rfl)
      rw [← hq, Nat.zero_mul] at hc0
      obtain ⟨a0, a1⟩ := X2.grown hc0
      have hvb := vd_sm HPS.out hqs
      have w1' : IntKind.i64.wrap (q.1 * p.1) = q.1 * p.1 := IntWalk.i64_in _ (by omega)
      have w2' : IntKind.i64.wrap (q.2 * p.2) = q.2 * p.2 := IntWalk.i64_in _ (by omega)
      have w3' : IntKind.i64.wrap (q.1 * p.1 + q.2 * p.2) = q.1 * p.1 + q.2 * p.2 := IntWalk.i64_in _ (by omega)
      have h0' : (0 : Int) < (n : Int) := by omega
      clear hc0 hq hqs hvb
      go_wp2_with fail
      refine wp_region_quiet_grown (by kernel_rfl) (by kernel_rfl) ?_
      repeat (go_big_quiet_step ((fail)))
      refine wpQuiet_nil ?_
      intro _ hw'
      obtain ⟨⟨nq, osq⟩, hw''⟩ := hw'
      subst hw''
      have HG2 := Lib.hid (show Gr w2 (grow (w2.drewN nq) osq) from ⟨_, _, rfl⟩)
      generalize grow (w2.drewN nq) osq = Y at HG2 ⊢
      have HXY := Lib.hid (P2.below HX2.out HG2.out.below)
      have HBY := Lib.hid (bel2 HB2.out HG2.out.below)
      have HCY := Lib.hid (fun k hk => X2.below (HC2.out k hk) HG2.out.below)
      rw [← HQ.out]
      clear a0 a1 e0 e1 w1' w2' w3'
      go_wp2
      go_loopw [6, 7, 36] (fun lo hi i wr => ∃ k : Nat, k ≤ n ∧ i = .int .i64 k ∧ lo = .int .i64 (mnS zs k) ∧ hi = .int .i64 (mxS zs k) ∧ Below Y.heap.size Y wr) (fun _ _ i _ => n - (intOf i).toNat)
      case atStart => exact ⟨0, by omega, rfl, rfl, rfl, Below.refl _ _⟩
      case round =>
        obtain ⟨k, hk, rfl, rfl, rfl, hb⟩ := hrel
        by_cases hlt : k < n
        · have hkl : k < l.length := by rw [← HNN.out]; exact hlt
          obtain ⟨q, hq⟩ : ∃ q, q = pd l k := ⟨_, rfl⟩
          have hqs : Sm 100 q := by rw [hq]; exact HSM.out _ (pd_mem hkl)
          have HQK := Lib.hid (show gd zs k = q.1 * p.1 + q.2 * p.2 by rw [HZS.out, vdL_gd l p k hkl, ← hq]; rfl)
          have hc0 := HCY.out k hkl
          rw [← hq] at hc0
          obtain ⟨d0, d1⟩ := X2.below hc0 hb
          obtain ⟨x0, x1⟩ := P2.below HXY.out hb
          have lx : w.heap.size < wr.heap.size := cell_lt x0
          have hvb := vd_sm HPS.out hqs
          have w1' : IntKind.i64.wrap (q.1 * p.1) = q.1 * p.1 := IntWalk.i64_in _ (by omega)
          have w2' : IntKind.i64.wrap (q.2 * p.2) = q.2 * p.2 := IntWalk.i64_in _ (by omega)
          have w3' : IntKind.i64.wrap (q.1 * p.1 + q.2 * p.2) = q.1 * p.1 + q.2 * p.2 := IntWalk.i64_in _ (by omega)
          have HMX := Lib.hid (show mxS zs (k + 1) = max (mxS zs k) (q.1 * p.1 + q.2 * p.2) by rw [mxS, HQK.out])
          have HMN := Lib.hid (show mnS zs (k + 1) = lessI (mnS zs k) (q.1 * p.1 + q.2 * p.2) by rw [mnS, HQK.out])
          have HB3 := Lib.hid (hb.alloc hb.size (.cells #[.int .i64 q.1, .int .i64 q.2] 35))
          clear hc0 hq hqs hvb hb
          go_wp2_with fail
          refine (l1Least_any _ _ _).mono ?_
          rintro e w' ⟨rfl, rfl⟩
          go_wp2_with fail
          refine (l1Most_any _ _ _).mono ?_
          rintro e w' ⟨rfl, rfl⟩
          clear w1' w2' w3'
          rw [← HMX.out, ← HMN.out]
          go_wp2
          go_roundw
          case rel => exact ⟨k + 1, by omega, by go_num, rfl, rfl, HB3.out⟩
          case measure => simp [intOf]; omega
        · obtain rfl : k = n := by omega
          have hmm := HMM.out k (by rw [HZL.out, HNN.out]; omega)
          have w4' : IntKind.i64.wrap (mxS zs k - mnS zs k) = mxS zs k - mnS zs k := IntWalk.i64_in _ (by omega)
          have HE := Lib.hid (show wdR l p = mxS zs k - mnS zs k by rw [wdR_yes HN.out.1]; unfold wdL; rw [← HZS.out, HNN.out])
          clear hmm
          go_wp2
          go_ret2
          exact givesZB_yes HE.out HN.out.1 (bel2 HBY.out hb)
set_option maxHeartbeats 2000000 in
set_option maxRecDepth 100000 in
theorem implWidthIn_any (w : World) (B : Nat) (v : Value) (l : List Pt) (p : Pt) (h : PtS w B v l) : Calls Try.prog 19 #[v, ptV p] w fun e w' => GivesZB (wdR l p) (hpB l p) w e w' := by
  have H := Lib.hid (FS.below h ((Below.refl _ w).alloc (Nat.le_refl _) (.cells #[.int .i64 p.1, .int .i64 p.2] 35)))
  have HX := Lib.hid (P2.new w p 35)
  have HBX := Lib.hid ((Below.refl _ w).alloc (Nat.le_refl _) (.cells #[.int .i64 p.1, .int .i64 p.2] 35))
  have HO := Lib.hid (fun W => implIsPoint_any p W)
  cases hg : pgB l
  · have HG := Lib.hid hg
    have HN := Lib.hid (hp_no1 (p := p) hg)
    clear hg h
    go_enter Try.func19, Try.ntmps19
    go_wp2_with fail
    refine (implIsPolygon_any _ B _ l H.out).mono ?_
    rintro e w1 ⟨rfl, b1⟩
    rw [HG.out]
    go_wp2
    go_ret2
    exact givesZB_no (wdR_no HN.out.1) HN.out.1 (bel2 HBX.out b1)
  · cases hp : ptG p
    · have HG := Lib.hid hg
      have HP := Lib.hid hp
      have HN := Lib.hid (hp_no2 (l := l) hp)
      clear hg hp h
      go_enter Try.func19, Try.ntmps19
      go_wp2_with fail
      refine (implIsPolygon_any _ B _ l H.out).mono ?_
      rintro e w1 ⟨rfl, b1⟩
      rw [HG.out]
      obtain ⟨c0, c1⟩ := P2.below HX.out b1
      go_wp2_with fail
      refine (HO.out _).mono ?_
      rintro e w2 ⟨rfl, g2⟩
      rw [HP.out]
      go_wp2
      go_ret2
      exact givesZB_no (wdR_no HN.out.1) HN.out.1 (bel2 (bel2 HBX.out b1) g2.below)
    · have HG := Lib.hid hg
      have HP := Lib.hid hp
      have HN := Lib.hid (hp_yes hg hp)
      have hl := pg_100 hg
      have hps := Sm.of hp
      have HSM := Lib.hid hl
      have HPS := Lib.hid hps
      obtain ⟨-, h0, hz⟩ := pg_sm hg
      obtain ⟨zs, hzs⟩ : ∃ zs, zs = vdL l p := ⟨_, rfl⟩
      have HZS := Lib.hid hzs
      have HZL := Lib.hid (show zs.length = l.length by rw [hzs, vdL_len])
      have HMM := Lib.hid (fun k hk => mm_bd (zs := zs) (M := 20000) (by rw [hzs]; exact vdL_bd hl hps) (by rw [hzs, vdL_len]; omega) k hk)
      obtain ⟨A, cap, rfl, hm, hpp⟩ := PtS.parts h
      have HC := Lib.hid hpp
      obtain ⟨g, hgA, -⟩ := hpp 0 (by omega)
      subst hgA
      obtain ⟨n, hn⟩ : ∃ n, n = l.length := ⟨_, rfl⟩
      have HNN := Lib.hid hn
      have H2 := Lib.hid (show PtS (w.alloc (.cells #[.int .i64 p.1, .int .i64 p.2] 35)) B (.slice (some ⟨g, 0, none⟩) n cap) l by rw [hn]; exact H.out)
      obtain ⟨i0, hi, hz0, hz1, hz2⟩ := info_parts infoInt
      have HGL := Lib.hid (World.ownsRow.lt h g rfl)
      rw [← hn] at h0 hz ⊢
      clear hg hp h hl hps hm hpp hn hzs H
      go_enter Try.func19, Try.ntmps19
      go_wp2_with fail
      refine (implIsPolygon_any _ B _ l H2.out).mono ?_
      rintro e w1 ⟨rfl, b1⟩
      rw [HG.out]
      obtain ⟨c0, c1⟩ := P2.below HX.out b1
      go_wp2_with fail
      refine (HO.out _).mono ?_
      rintro e w2 ⟨rfl, g2⟩
      rw [HP.out]
      have HX2 := Lib.hid (P2.below (P2.below HX.out b1) g2.below)
      have HB2 := Lib.hid (bel2 (bel2 HBX.out b1) g2.below)
      have HC2 := Lib.hid (fun k (hk : k < l.length) => show X2 w2 g (k * 2) (pd l k) from by
        obtain ⟨g', hg', hx⟩ := HC.out k hk
        obtain rfl : g = g' := by simpa using hg'
        exact X2.below hx (bel2 (bel2 HBX.out b1) g2.below))
      clear c0 c1 b1 g2
      go_wp2_with (refine wpList_make_full _ rfl _ _ 53 rfl w2.heap.size 3 i0 (.int .i64 0) 1 Try.underlying53 hi hz0 hz1 .i64 .i64 _ _ n rfl rfl rfl rfl (by rw [hz2]; omega) (by simp only [maxLen]; omega) (Nat.le_refl _) ?_; intro w3 hown hgrow)
      have hrow0 : w3.ownsRow w2.heap.size 3 1 (.slice (some ⟨w2.heap.size, 0, none⟩) n n) n (ints (part zs 0)) := by
        rw [show (madeCells (.int .i64 0 : Value).cells (n * 1)).toList = ints (part zs 0) from by
          rw [show part zs 0 = List.replicate (n * 1) 0 by simp [part, HZL.out, HNN.out]]
          exact made_ints 1 _ (by omega)] at hown
        exact hown
      have hb0 : Below w2.heap.size w2 w3 := (Below.refl _ w2).grown hgrow (Nat.le_refl _) (fun _ h => by cases h)
      clear hown hgrow
      go_loopw [22] (fun i wr => ∃ k : Nat, k ≤ n ∧ i = .int .i64 k ∧ wr.ownsRow w2.heap.size 3 1 (.slice (some ⟨w2.heap.size, 0, none⟩) n n) n (ints (part zs k)) ∧ Below w2.heap.size w2 wr) (fun i _ => n - (intOf i).toNat)
      case atStart => exact ⟨0, by omega, rfl, hrow0, hb0⟩
      case round =>
        obtain ⟨k, hk, rfl, hrow, hb⟩ := hrel
        clear hrow0 hb0
        by_cases hlt : k < n
        · have hkl : k < l.length := by rw [← HNN.out]; exact hlt
          obtain ⟨q, hq⟩ : ∃ q, q = pd l k := ⟨_, rfl⟩
          have hqs : Sm 100 q := by rw [hq]; exact HSM.out _ (pd_mem hkl)
          have HQK := Lib.hid (show gd zs k = p.1 * q.1 + p.2 * q.2 by rw [HZS.out, vdL_gd l p k hkl, ← hq]; unfold vdP; grind)
          have hc0 := HC2.out k hkl
          rw [← hq] at hc0
          obtain ⟨d0, d1⟩ := X2.below hc0 hb
          obtain ⟨x0, x1⟩ := P2.below HX2.out hb
          have lx : w.heap.size < wr.heap.size := cell_lt x0
          have hvb := vd_sm hqs HPS.out
          have w1' : IntKind.i64.wrap (p.1 * q.1) = p.1 * q.1 := IntWalk.i64_in _ (by omega)
          have w2' : IntKind.i64.wrap (p.2 * q.2) = p.2 * q.2 := IntWalk.i64_in _ (by omega)
          have w3' : IntKind.i64.wrap (p.1 * q.1 + p.2 * q.2) = p.1 * q.1 + p.2 * q.2 := IntWalk.i64_in _ (by omega)
          have hl2 := (World.ownsRow.lt hrow w2.heap.size rfl).2
          have f0 := World.ownsRow.frozenAt hrow k
          have y0 : wr.cell? ⟨w2.heap.size, k, none⟩ = some (.int .i64 (gd (part zs k) k)) := by
            rw [World.ownsRow.cellAt hrow k (by omega), getD_ints _ k (by rw [part_len zs _ (by rw [HZL.out, ← HNN.out]; omega), HZL.out, ← HNN.out]; omega)]
          have s0 := World.ownsRow.stored hrow k (.int .i64 (gd zs k))
          have hrow3 := s0.1
          rw [show (ints (part zs k)).set k (.int .i64 (gd zs k)) = ints (part zs (k + 1)) from by rw [← part_set zs k (by rw [HZL.out, ← HNN.out]; exact hlt)]; unfold ints; simp only [List.map_set]] at hrow3
          have hb3 := hb.setCell (p := ⟨w2.heap.size, k, none⟩) (Nat.le_refl _) (.int .i64 (gd zs k))
          rw [HQK.out] at hrow3 hb3
          have HF := Lib.hid (And.intro (World.ownsRow.alloc hrow3 (.cells #[.int .i64 q.1, .int .i64 q.2] 35)) (hb3.alloc hb3.size (.cells #[.int .i64 q.1, .int .i64 q.2] 35)))
          clear hc0 hq hqs hvb hb s0 hrow3 hb3 hrow
          go_wp2
          clear w1' w2' w3'
          go_roundw
          case rel => exact ⟨k + 1, by omega, by go_num, HF.out.1, HF.out.2⟩
          case measure => simp [intOf]; omega
        · obtain rfl : k = n := by omega
          have hmm := HMM.out k (by rw [HZL.out, HNN.out]; omega)
          have w4' : IntKind.i64.wrap (mxS zs k - mnS zs k) = mxS zs k - mnS zs k := IntWalk.i64_in _ (by omega)
          have HE := Lib.hid (show wdR l p = mxS zs k - mnS zs k by rw [wdR_yes HN.out.1]; unfold wdL; rw [← HZS.out, HNN.out])
          have hzk : zs.length = k := by rw [HZL.out, ← HNN.out]
          rw [part_end zs k (by omega)] at hrow
          have HR := Lib.hid (show IS wr w2.heap.size (.slice (some ⟨w2.heap.size, 0, none⟩) k k) zs from by unfold IS; rw [hzk]; exact hrow)
          have HZK := Lib.hid hzk
          clear hmm hrow hzk
          go_wp2_with fail
          refine (slicesMax_any _ _ _ zs HR.out (by rw [HZK.out]; omega)).mono ?_
          rintro e w' ⟨rfl, rfl⟩
          rw [HZK.out]
          go_wp2_with fail
          refine (slicesMin_any _ _ _ zs HR.out (by rw [HZK.out]; omega)).mono ?_
          rintro e w' ⟨rfl, rfl⟩
          rw [HZK.out]
          go_wp2
          go_ret2
          exact givesZB_yes HE.out HN.out.1 (bel2 HB2.out hb)
end Go.Proofs.Ytamejfeaniokfaa

/-
  The model's ends; EndsAt and BalanceAt of both.
  Condition: the slice reads as the terms that are named.
-/
import Derived.Test.YtbapepflfgcioaaGreatCuG
namespace Go.Proofs.YtbapepflfgcioaaGreat
set_option linter.unusedSimpArgs false
set_option linter.unusedVariables false
open Go.ChangeShapes Go.WideShapes Go.ChangeAt Go.RowKit Go.Maps
open Go.Sort (grow)

theorem ints_oneC (zs : List Int) : ∀ u ∈ ints zs, u.oneCell' = true := fun u hu => by
  simp only [ints, List.mem_map] at hu
  obtain ⟨y, -, rfl⟩ := hu
  rfl
theorem RdV.newsC {w : World} {v : Value} {zs : List Int} (h : RdV w v zs) (h0 : 0 < zs.length) : ∃ g cap, v = .slice (some ⟨g, 0, none⟩) zs.length cap ∧ ∀ j u, (ints zs)[j]? = some u → w.cell? ((⟨g, 0, none⟩ : Addr).add j) = some u := by
  obtain ⟨A, cap, rfl, hm, hp⟩ := h
  obtain ⟨g, rfl, -⟩ := hp 0 h0
  refine ⟨g, cap, rfl, fun j u hu => ?_⟩
  have hj : j < zs.length := by
    rcases Nat.lt_or_ge j zs.length with h' | h'
    · exact h'
    · rw [List.getElem?_eq_none (by simp [ints]; omega)] at hu; cases hu
  obtain ⟨g', hg, hc⟩ := hp j hj
  cases hg
  rw [add_zero, hc]
  rw [gd_eq _ _ hj]
  simpa [ints, List.getElem?_eq_getElem hj] using hu
theorem news_below {w w' : World} {g : Nat} {zs : List Int} (h : ∀ j u, (ints zs)[j]? = some u → w.cell? ((⟨g, 0, none⟩ : Addr).add j) = some u) (hb : Below w.heap.size w w') : ∀ j u, (ints zs)[j]? = some u → w'.cell? ((⟨g, 0, none⟩ : Addr).add j) = some u := fun j u hu => by
  have := h j u hu
  rw [add_zero] at this ⊢
  exact box_o this hb
theorem twI_new (w : World) (B : Nat) (h : B ≤ w.heap.size) : (w.alloc (.cells #[] 3)).ownsRow B 3 1 (.slice (some ⟨w.heap.size, 0, none⟩) 0 0) 0 [] := World.ownsRow_made w #[] 0 h (Nat.zero_le _) rfl
/-- A row of integers behind another one. -/
theorem IS.joined {w' : World} {B : Nat} {v : Value} {xs ys : List Int} {n m : Nat} (hn : n = xs.length) (hm : m = ys.length) (h : w'.ownsRow B 3 1 v (n + m) (ints xs ++ ints ys)) : IS w' B v (xs ++ ys) := by
  subst hn hm
  unfold IS
  rw [List.length_append]
  unfold ints at h ⊢
  rw [List.map_append]
  exact h
set_option maxHeartbeats 1000000 in
theorem l1Own_any (w : World) (v : Value) (zs : List Int) (h : RdV w v zs) (h0 : 0 < zs.length) (hz : zs.length ≤ 1000) : Calls Tryz.prog 34 #[v] w fun e w' => ∃ r, e = .returned r ∧ IS w' w.heap.size r zs ∧ Below w.heap.size w w' := by
  obtain ⟨g, cap, rfl, hnews⟩ := h.newsC h0
  obtain ⟨i0, hi, hz0, hz1, hz2⟩ := info_parts infoInt
  obtain ⟨n, hn⟩ : ∃ n, n = zs.length := ⟨_, rfl⟩
  have HN := Lib.hid hn
  have bA : Below w.heap.size w (w.alloc (.cells #[] 3)) := (Below.refl _ _).alloc (Nat.le_refl _) _
  have HW := Lib.hid (news_below hnews bA)
  have HR := Lib.hid (twI_new w w.heap.size (Nat.le_refl _))
  have HB := Lib.hid bA
  rw [← hn] at hz h0 ⊢
  clear h hnews hn bA
  go_enter Tryz.func34, Tryz.ntmps34
  go_wp2_with (at_builtin; refine wpList_append_own _ rfl _ _ 49 rfl w.heap.size 3 i0 (.int .i64 0) 1 8 Tryz.underlying49 hi hz0 hz1 hz2 rfl (by decide) _ 0 _ rfl HR.out ⟨g, 0, none⟩ n _ (ints zs) rfl (by rw [HN.out]; simp [ints]) HW.out (ints_oneC _) (by unfold maxLen; omega) (by omega) (by simp) ?_; intro v' w2 hown2 hgrow2 hnil2)
  have hr : IS w2 w.heap.size v' ([] ++ zs) := IS.joined (n := 0) (m := n) rfl HN.out (by simpa [ints] using hown2)
  have hb : Below w.heap.size w w2 := HB.out.grown hgrow2 HB.out.size (fun q hq => (World.ownsRow.lt HR.out q hq).1)
  clear hown2 hgrow2 hnil2
  go_wp2
  go_ret
  exact ⟨_, rfl, hr, hb⟩
set_option maxHeartbeats 1000000 in
set_option maxRecDepth 100000 in
theorem cloneR_any (w : World) (v : Value) (zs : List Int) (h : RdV w v zs) (h0 : 0 < zs.length) (hz : zs.length ≤ 1000) : Calls Tryz.prog 48 #[v] w fun e w' => ∃ r, e = .returned r ∧ IS w' w.heap.size r zs ∧ Below w.heap.size w w' := by
  obtain ⟨g, cap, rfl, hnews⟩ := h.newsC h0
  obtain ⟨i0, hi, hz0, hz1, hz2⟩ := info_parts infoInt
  obtain ⟨n, hn⟩ : ∃ n, n = zs.length := ⟨_, rfl⟩
  have HN := Lib.hid hn
  have bA : Below w.heap.size w (w.alloc (.cells #[] 3)) := (Below.refl _ _).alloc (Nat.le_refl _) _
  have HW := Lib.hid (news_below hnews bA)
  have HR := Lib.hid (twI_new w w.heap.size (Nat.le_refl _))
  have HB := Lib.hid bA
  rw [← hn] at hz h0 ⊢
  clear h hnews hn bA
  have q22 : ∀ (w : World) (a : Option Addr) (n c n' c' : Nat), (binOp .eql 49 (.slice a n c) (.slice none n' c')).run Tryz.prog w = .ok (.bool a.isNone) w := fun w a n c n' c' => Lib.run_eql_slice_nil w _ _ a n c n' c' Tryz.underlying49
  go_enter Tryz.func48, Tryz.ntmps48
  go_wp2_with (at_builtin; refine wpList_append_own _ rfl _ _ 49 rfl w.heap.size 3 i0 (.int .i64 0) 1 8 Tryz.underlying49 hi hz0 hz1 hz2 rfl (by decide) _ 0 _ rfl HR.out ⟨g, 0, none⟩ n _ (ints zs) rfl (by rw [HN.out]; simp [ints]) HW.out (ints_oneC _) (by unfold maxLen; omega) (by omega) (by simp) ?_; intro v' w2 hown2 hgrow2 hnil2)
  have hr : IS w2 w.heap.size v' ([] ++ zs) := IS.joined (n := 0) (m := n) rfl HN.out (by simpa [ints] using hown2)
  have hb : Below w.heap.size w w2 := HB.out.grown hgrow2 HB.out.size (fun q hq => (World.ownsRow.lt HR.out q hq).1)
  clear hown2 hgrow2 hnil2
  go_wp2
  go_ret
  exact ⟨_, rfl, hr, hb⟩
theorem enL_next (l : List Tm) (x : List Int) {j : Nat} (hj : j < (setX lxL (sdL l x)).length) : (enL l x).take (j + 1) = (enL l x).take j ++ [enE l x ((setX lxL (sdL l x))[j])] := by
  rw [List.take_add_one, List.getElem?_eq_getElem (by rw [enL_len]; exact hj)]
  simp [enL]
/-- One more list behind a row of lists, all of it above the world before. -/
theorem ls_push {w w1 w2 : World} {B : Nat} {v v' x : Value} {P : VL} {zs : List Int} (h : LS w B v P) (hb : Below w.heap.size w w1) (hB : B ≤ w.heap.size) (hx : IS w1 w.heap.size x zs) (hown : w2.ownsRow B 49 1 v' (P.length + 1) (vls P ++ [x])) (hg : w1.grownBy w2 v.ownBlock) : LS w2 B v' (P ++ [(x, zs)]) :=
  ls_snoc (h.below hb) (hx.base hB) hown hg (fun p hp g hg e => by have := (h.2.1 p hp).lt g hg; have := hx.lt g e; omega) (fun g hg e => by have := World.ownsRow.lt h.1 g e; have := hx.lt g hg; omega)
set_option maxHeartbeats 4000000 in
set_option maxRecDepth 100000 in
theorem cuEnds_any (w : World) (B B' : Nat) (v c : Value) (l : List Tm) (x : List Int) (h : TmS w B v l) (hc : IS w B' c x) (hl : plB l = true) (hx : x ∈ ceL l) :
    Calls Tryz.prog 45 #[v, c] w fun e w' => GivesL (enL l x) w e w' := by
  have HL := Lib.hid hl
  have HX := Lib.hid hx
  go_enter Tryz.func45, Tryz.ntmps45
  go_wp2_with fail
  refine (ceSides_any w B B' v c l x h hc hl hx).mono ?_
  rintro e w2 ⟨rs, R, rfl, hRS, hR, b2⟩
  have H2 := Lib.hid (FS.below h b2)
  have HC2 := Lib.hid (hc.below b2)
  have HB2 := Lib.hid b2
  have hn12 : R.length ≤ 12 := by
    rw [← lls_len, hR]
    have h1 := setX_len (sdL l x)
    have h2 := hc_le hx (plB_le hl).2
    rw [← sdL_len] at h2
    omega
  obtain ⟨A, cap, rfl, -, hp⟩ := hRS.parts
  have HP := Lib.hid hp
  have HV := Lib.hid hRS.2
  have HR := Lib.hid hR
  obtain ⟨n, hn⟩ : ∃ n, n = R.length := ⟨_, rfl⟩
  have HN := Lib.hid hn
  rw [← hn] at hn12 ⊢
  obtain ⟨i0, hi, hz0, hz1, hz2⟩ := info_parts infoInt
  obtain ⟨j0, hj0, hy0, hy1, hy2⟩ := info_parts infoSl
  clear h hc hl hx hRS hR hp b2 hn
  go_wp2
  go_loopw [5, 12] (fun o i wr => ∃ (j : Nat) (P : VL), j ≤ n ∧ i = .int .i64 j ∧ Hid (LS wr w2.heap.size o P ∧ lls P = (enL l x).take j) ∧ Below w2.heap.size w2 wr) (fun _ i _ => n - (intOf i).toNat)
  case atStart => exact ⟨0, [], by omega, rfl, Lib.hid ⟨LS.nil_ _ _, rfl⟩, Below.refl _ _⟩
  case round =>
    obtain ⟨j, P, hj, rfl, hst, hb⟩ := hrel
    by_cases hlt : j < n
    · obtain ⟨wO, hwO⟩ : ∃ wO, wO = wr := ⟨_, rfl⟩
      rw [← hwO] at hst hb ⊢
      clear hwO wr
      have hjr : j < R.length := by rw [← HN.out]; exact hlt
      have hjl : j < (setX lxL (sdL l x)).length := by rw [← HR.out, lls_len]; exact hjr
      obtain ⟨g, rfl, hc0⟩ := HP.out j hjr
      have hc1 := X3.below.box_old3 hc0 hb
      have his := (HV.out.at hjr).below hb
      have hmem : pll R j ∈ sdL l x := by
        have : pll R j ∈ lls R := by rw [← lls_get hjr (by rw [lls_len]; exact hjr)]; exact List.getElem_mem _
        rw [HR.out, setX_mem totLx] at this
        exact this
      have hnx := enL_next l x hjl
      have hge : (setX lxL (sdL l x))[j] = pll R j := by
        have h1 := lls_get hjr (by rw [lls_len]; exact hjr)
        rw [← h1]
        exact (List.getElem_of_eq HR.out _).symm
      rw [hge] at hnx
      obtain ⟨i, k, hik, hkl, hs, -, -⟩ := side_of HL.out HX.out hmem
      rw [hs] at his hmem hnx
      rw [enE_pair] at hnx
      have HNX := Lib.hid hnx
      have HMEM := Lib.hid hmem
      have HIS := Lib.hid his
      obtain ⟨sv, hsv⟩ : ∃ sv, sv = pvl R j := ⟨_, rfl⟩
      rw [← hsv] at hc1 HIS
      have HB := Lib.hid hb
      have HST := Lib.hid hst.out
      clear hc0 his hmem hnx hge hs hsv hst hjl
      go_wp2_with fail
      refine (l1Own_any wO sv [(i : Int), (k : Int)] HIS.out.parts (by simp) (by simp)).mono ?_
      rintro e w3 ⟨r3, rfl, hr3, b3⟩
      obtain ⟨A3, cap3, rfl, -, -⟩ := hr3.parts
      have HIS3 := Lib.hid (HIS.out.below b3)
      go_wp2_with fail
      refine (cuEnd_any w3 _ _ _ _ _ sv l x i k (FS.below (FS.below H2.out HB.out) b3) ((HC2.out.below HB.out).below b3) HIS3.out HL.out HX.out HMEM.out).mono ?_
      rintro e w4 ⟨r4, rfl, hr4, b4⟩
      have hr34 := hr3.below b4
      have hb34 := bel2 b3 b4
      obtain ⟨g4, cap4, rfl, hnews4⟩ := RdV.newsC hr4.parts (by rw [enT_len]; omega)
      rw [enT_len]
      have HN4 := Lib.hid hnews4
      have HR3 := Lib.hid hr34
      have HB34 := Lib.hid hb34
      have hs34 := hb34.size
      rw [show ([(i : Int), (k : Int)] : List Int).length = 2 from rfl] at HR3
      clear hr3 b3 hr4 b4 hr34 hb34 hnews4 HIS HIS3 hc1
      go_wp2_with (first | (at_builtin; refine wpList_append_own _ rfl _ _ 49 rfl wO.heap.size 3 i0 (.int .i64 0) 1 8 Tryz.underlying49 hi hz0 hz1 hz2 rfl (by decide) _ 2 _ rfl HR3.out ⟨g4, 0, none⟩ 3 _ (ints (enT l x i k)) rfl (by simp [ints, enT_len]) HN4.out (ints_oneC _) (by unfold maxLen; omega) (by omega) hs34 ?_; intro v5 w5 hown5 hgrow5 hnil5; have hx5 : IS w5 wO.heap.size v5 ([(i : Int), (k : Int)] ++ enT l x i k) := IS.joined (n := 2) (m := 3) rfl (enT_len _ _ _ _).symm hown5; have hb5 : Below wO.heap.size wO w5 := HB34.out.grown hgrow5 HB34.out.size (fun q hq => (World.ownsRow.lt HR3.out q hq).1); obtain ⟨A5, cap5, e5, -, -⟩ := hx5.parts; rw [show ([(i : Int), (k : Int)] ++ enT l x i k).length = 5 from by rw [List.length_append, enT_len]; rfl] at e5; subst e5; have bA : Below w5.heap.size w5 (w5.alloc (.cells #[.slice A5 5 cap5] 49)) := (Below.refl _ _).alloc (Nat.le_refl _) _; have HX6 := Lib.hid (hx5.below bA); have HB6 := Lib.hid (bel2 hb5 bA); have HNW := Lib.hid (oneS_news (litS_new w5 (.slice A5 5 cap5))); have h1c := hx5.one; have hLS6 := HST.out.1.below HB6.out; obtain ⟨np, hnp⟩ : ∃ np, np = P.length := ⟨_, rfl⟩; have HNP := Lib.hid hnp; have hnp2 : np ≤ 12 := (by rw [hnp, ← lls_len, HST.out.2, List.length_take]; omega); have hrow6 := hLS6.1; rw [← hnp] at hrow6; have hs6 := Nat.le_trans HB.out.size HB6.out.size; clear hown5 hgrow5 hnil5 hx5 hb5 bA hnp HN4 HR3 HB34 hLS6) | (at_builtin; refine wpList_append_own _ rfl _ _ 24 rfl w2.heap.size 49 j0 (.slice none 0 0) 1 24 Tryz.underlying24 hj0 hy0 hy1 hy2 rfl (by decide) _ np _ rfl hrow6 ⟨w5.heap.size, 0, none⟩ 1 1 [.slice A5 5 cap5] rfl rfl HNW.out (by simp [h1c]) (by unfold maxLen; omega) (by omega) hs6 ?_; intro v7 w7 hown7 hgrow7 hnil7))
      have hLS7 := ls_push HST.out.1 HB6.out HB.out.size HX6.out (by rw [← HNP.out]; exact hown7) hgrow7
      have HL7 := Lib.hid (And.intro hLS7 (show lls (P ++ [(.slice A5 5 cap5, [(i : Int), (k : Int)] ++ enT l x i k)]) = (enL l x).take (j + 1) by
        rw [HNX.out, ← HST.out.2]; simp [lls]))
      have hb7 : Below w2.heap.size w2 w7 := (bel2 HB.out HB6.out).grown hgrow7 (bel2 HB.out HB6.out).size (fun q hq => (World.ownsRow.lt HST.out.1.1 q hq).1)
      clear hown7 hgrow7 hnil7 hLS7 hrow6
      go_wp2
      go_roundw
      case rel => exact ⟨j + 1, _, by omega, by go_num, HL7, hb7⟩
      case measure => simp [intOf]; omega
    · obtain rfl : j = n := by omega
      go_wp2
      go_ret
      exact ⟨_, P, rfl, hst.out.1.base HB2.out.size, by rw [hst.out.2, List.take_of_length_le (by rw [enL_len, ← HR.out, lls_len, ← HN.out]; exact Nat.le_refl _)], bel2 HB2.out hb⟩
end Go.Proofs.YtbapepflfgcioaaGreat
/-
  EndsAt and BalanceAt of both.
  Condition: the slice reads as the terms that are named.
-/
namespace Go.Proofs.YtbapepflfgcioaaGreat
set_option linter.unusedSimpArgs false
set_option linter.unusedVariables false
open Go.ChangeShapes Go.WideShapes Go.ChangeAt Go.RowKit Go.Maps
open Go.Sort (grow)

def esR (l : List Tm) (i : Int) : List (List Int) := if cpB l i = true then enL l (cuR l i) else []
theorem esR_yes {l : List Tm} {i : Int} (h : cpB l i = true) : esR l i = enL l (cuR l i) := if_pos h
theorem esR_no {l : List Tm} {i : Int} (h : cpB l i = false) : esR l i = [] := if_neg (by simp [h])
theorem enL_few {l : List Tm} (hl : plB l = true) {x : List Int} (hx : x ∈ ceL l) : (enL l x).length ≤ 12 ∧ ∀ e ∈ enL l x, e.length = 5 := by
  refine ⟨?_, fun e he => ?_⟩
  · rw [enL_len]
    have h1 := setX_len (sdL l x)
    have h2 := hc_le hx (plB_le hl).2
    rw [← sdL_len] at h2
    omega
  · obtain ⟨s, hs, rfl⟩ := List.mem_map.1 he
    rw [setX_mem totLx] at hs
    exact enE_len hl hx hs
theorem few_es {l : List Tm} {i : Int} {P : VL} (h : lls P = esR l i) : FewL P := by
  cases hq : cpB l i
  · rw [esR_no hq] at h
    have : P = [] := List.map_eq_nil_iff.1 h
    subst this
    exact ⟨by simp, fun p hp => by simp at hp⟩
  · obtain ⟨h1, h2⟩ := cuR_in hq
    obtain ⟨h3, h4⟩ := enL_few h1 h2
    rw [esR_yes hq] at h
    refine ⟨by rw [← lls_len, h]; omega, fun p hp => ?_⟩
    have : p.2 ∈ lls P := List.mem_map.2 ⟨p, hp, rfl⟩
    rw [h] at this
    rw [h4 _ this]; omega
theorem givesLB_yes {ok : Bool} {L : List (List Int)} {w w' : World} {r : Value} {P : VL} (h1 : ok = true) (hP : LS w' w.heap.size r P) (h2 : lls P = L) (hb : Below w.heap.size w w') : GivesLB ok L w (.returned (.tuple #[r, .bool true])) w' := by
  subst h1; exact ⟨_, P, rfl, hP, h2, hb⟩
set_option maxHeartbeats 1000000 in
theorem specEndsAt_any (w : World) (B : Nat) (v : Value) (l : List Tm) (i : Int) (h : TmS w B v l) : Calls Tryz.prog 19 #[v, .int .i64 i] w fun e w' => GivesLB (cpB l i) (esR l i) w e w' := by
  go_enter Tryz.func19, Tryz.ntmps19
  go_wp2_with fail
  refine (cuCell_any _ B _ l i h).mono ?_
  rintro e w1 ⟨r, B', rfl, hr, b1⟩
  cases hq : cpB l i
  · have HQ := Lib.hid hq
    clear hq hr
    go_wp2
    go_ret2
    exact givesLB_nil HQ.out (esR_no HQ.out) b1
  · have HQ := Lib.hid hq
    obtain ⟨hl, hx⟩ := cuR_in hq
    have h1 := FS.below h b1
    clear hq
    go_wp2_with fail
    refine (cuEnds_any w1 B _ _ _ l _ h1 hr hl hx).mono ?_
    rintro e w2 ⟨r2, P, rfl, hP, eP, b2⟩
    go_wp2
    go_ret2
    exact givesLB_yes HQ.out (hP.base b1.size) (by rw [esR_yes HQ.out]; exact eP) (bel2 b1 b2)
set_option maxHeartbeats 4000000 in
set_option maxRecDepth 100000 in
theorem implEndsAt_any (w : World) (B : Nat) (v : Value) (l : List Tm) (i : Int) (h : TmS w B v l) : Calls Tryz.prog 20 #[v, .int .i64 i] w fun e w' => GivesLB (cpB l i) (esR l i) w e w' := by
  go_enter Tryz.func20, Tryz.ntmps20
  go_wp2_with fail
  refine (cellWithNumber_any _ B _ l i h).mono ?_
  rintro e w1 ⟨r, B', rfl, hr, b1⟩
  cases hq : cpB l i
  · have HQ := Lib.hid hq
    clear hq hr
    go_wp2
    go_ret2
    exact givesLB_nil HQ.out (esR_no HQ.out) b1
  · have HQ := Lib.hid hq
    obtain ⟨hl, hx⟩ := cuR_in hq
    have h1 := FS.below h b1
    have HF := Lib.hid (enL_few hl hx)
    clear hq
    go_wp2_with fail
    refine (endsOfCell_any w1 B _ _ _ l _ h1 hr hl hx).mono ?_
    rintro e w2 ⟨r2, E, rfl, hE, eE, b2⟩
    have HB2 := Lib.hid (bel2 b1 b2)
    have HE := Lib.hid eE
    obtain ⟨A, cap, rfl, -, hp⟩ := FS.parts hE
    have HP := Lib.hid hp
    have hn12 : E.length ≤ 12 := by rw [← List.length_map (f := l5), eE]; exact HF.out.1
    obtain ⟨n, hn⟩ : ∃ n, n = E.length := ⟨_, rfl⟩
    have HN := Lib.hid hn
    rw [← hn] at hn12 ⊢
    obtain ⟨j0, hj0, hy0, hy1, hy2⟩ := info_parts infoSl
    clear h hl hx hr h1 b1 b2 hE eE hp hn
    go_wp2
    go_loopw [8, 23] (fun o i wr => ∃ (j : Nat) (P : VL), j ≤ n ∧ i = .int .i64 j ∧ Hid (LS wr w2.heap.size o P ∧ lls P = (E.map l5).take j) ∧ Below w2.heap.size w2 wr) (fun _ i _ => n - (intOf i).toNat)
    case atStart => exact ⟨0, [], by omega, rfl, Lib.hid ⟨LS.nil_ _ _, rfl⟩, Below.refl _ _⟩
    case round =>
      obtain ⟨j, P, hj, rfl, hst, hb⟩ := hrel
      by_cases hlt : j < n
      · have hje : j < E.length := by rw [← HN.out]; exact hlt
        have hc : ∀ t, t < 5 → ∃ g, A = some ⟨g, 0, none⟩ ∧ wr.cell? ⟨g, j * 5 + t, none⟩ = some (.int .i64 (gd (l5 (ped E j)) t)) := fun t ht => by
          obtain ⟨g, hg, hc0⟩ := HP.out (j * 5 + t) (by omega)
          exact ⟨g, hg, by rw [← flatE_gd hje ht]; exact X3.below.box_old3 hc0 hb⟩
        obtain ⟨g, hg, c0⟩ := hc 0 (by omega)
        obtain ⟨g', hg', c1⟩ := hc 1 (by omega)
        rw [hg] at hg'; cases hg'
        obtain ⟨g', hg', c2⟩ := hc 2 (by omega)
        rw [hg] at hg'; cases hg'
        obtain ⟨g', hg', c3⟩ := hc 3 (by omega)
        rw [hg] at hg'; cases hg'
        obtain ⟨g', hg', c4⟩ := hc 4 (by omega)
        rw [hg] at hg'; cases hg'
        subst hg
        have lg : g < wr.heap.size := cell_lt c0
        obtain ⟨t, ht⟩ : ∃ t, t = ped E j := ⟨_, rfl⟩
        rw [← ht] at c0 c1 c2 c3 c4
        have d0 : wr.cell? ⟨g, j * 5, none⟩ = some (.int .i64 t.1) := c0
        have d1 : wr.cell? ⟨g, j * 5 + 1, none⟩ = some (.int .i64 t.2.1) := c1
        have d2 : wr.cell? ⟨g, j * 5 + 2, none⟩ = some (.int .i64 t.2.2.1) := c2
        have d3 : wr.cell? ⟨g, j * 5 + 3, none⟩ = some (.int .i64 t.2.2.2.1) := c3
        have d4 : wr.cell? ⟨g, j * 5 + 4, none⟩ = some (.int .i64 t.2.2.2.2) := c4
        have HNX := Lib.hid (show (E.map l5).take (j + 1) = (E.map l5).take j ++ [l5 t] by
          rw [List.take_add_one, List.getElem?_eq_getElem (by simpa using hje), ht, ped_eq E j hje]; simp)
        have hV := (E5.new wr t.1 t.2.1 t.2.2.1 t.2.2.2.1 t.2.2.2.2)
        have bV : Below wr.heap.size wr (wr.alloc (.cells #[.int .i64 t.1, .int .i64 t.2.1, .int .i64 t.2.2.1, .int .i64 t.2.2.2.1, .int .i64 t.2.2.2.2] 69)) := (Below.refl _ _).alloc (Nat.le_refl _) _
        have HCL := Lib.hid (cloneR_any _ _ (l5 t) (E5.rd (t := t) hV) (by rw [l5_len]; omega) (by rw [l5_len]; omega))
        have HBV := Lib.hid bV
        have HB := Lib.hid hb
        have HST := Lib.hid hst.out
        clear hc c0 c1 c2 c3 c4 ht hV bV hb hst
        go_wp2_with fail
        refine HCL.out.mono ?_
        rintro e w5 ⟨v5, rfl, hx5, b5⟩
        obtain ⟨A5, cap5, rfl, -, -⟩ := hx5.parts
        rw [l5_len] at hx5 ⊢
        have bA : Below w5.heap.size w5 (w5.alloc (.cells #[.slice A5 5 cap5] 49)) := (Below.refl _ _).alloc (Nat.le_refl _) _
        have HX6 := Lib.hid ((hx5.below bA).base (show wr.heap.size ≤ _ from HBV.out.size))
        have HB6 := Lib.hid (bel2 (bel2 HBV.out b5) bA)
        have HNW := Lib.hid (oneS_news (litS_new w5 (.slice A5 5 cap5)))
        have h1c := hx5.one
        have hLS6 := HST.out.1.below HB6.out
        obtain ⟨np, hnp⟩ : ∃ np, np = P.length := ⟨_, rfl⟩
        have HNP := Lib.hid hnp
        have hnp2 : np ≤ 12 := by rw [hnp, ← lls_len, HST.out.2, List.length_take]; omega
        have hrow6 := hLS6.1
        rw [← hnp] at hrow6
        have hs6 := Nat.le_trans HB.out.size HB6.out.size
        clear hx5 b5 bA hnp hLS6 HCL
        go_wp2_with (at_builtin; refine wpList_append_own _ rfl _ _ 24 rfl w2.heap.size 49 j0 (.slice none 0 0) 1 24 Tryz.underlying24 hj0 hy0 hy1 hy2 rfl (by decide) _ np _ rfl hrow6 ⟨w5.heap.size, 0, none⟩ 1 1 [.slice A5 5 cap5] rfl rfl HNW.out (by simp [h1c]) (by unfold maxLen; omega) (by omega) hs6 ?_; intro v7 w7 hown7 hgrow7 hnil7)
        have hLS7 := ls_push HST.out.1 HB6.out HB.out.size HX6.out (by rw [← HNP.out]; exact hown7) hgrow7
        have HL7 := Lib.hid (And.intro hLS7 (show lls (P ++ [(.slice A5 5 cap5, l5 t)]) = (E.map l5).take (j + 1) by
          rw [HNX.out, ← HST.out.2]; simp [lls]))
        have hb7 : Below w2.heap.size w2 w7 := (bel2 HB.out HB6.out).grown hgrow7 (bel2 HB.out HB6.out).size (fun q hq => (World.ownsRow.lt HST.out.1.1 q hq).1)
        clear hown7 hgrow7 hnil7 hLS7 hrow6 d0 d1 d2 d3 d4 lg
        go_wp2
        go_roundw
        case rel => exact ⟨j + 1, _, by omega, by go_num, HL7, hb7⟩
        case measure => simp [intOf]; omega
      · obtain rfl : j = n := by omega
        go_wp2
        go_ret2
        exact givesLB_yes HQ.out (hst.out.1.base HB2.out.size) (by rw [hst.out.2, List.take_of_length_le (by rw [List.length_map, ← HN.out]; exact Nat.le_refl _), HE.out, esR_yes HQ.out]) (bel2 HB2.out hb)
/-- The sums of the c-th parts, each times the weight. -/
def bxS (L : List (List Int)) (c : Nat) : Nat → Int
  | 0 => 0
  | k + 1 => bxS L c k + gd (L.getD k []) c * gd (L.getD k []) 4
def baX (l : List Tm) (i : Int) (c : Nat) : Int := if cpB l i = true then bxS (enL l (cuR l i)) c (enL l (cuR l i)).length else 0
theorem baX_yes {l : List Tm} {i : Int} (h : cpB l i = true) (c : Nat) : baX l i c = bxS (enL l (cuR l i)) c (enL l (cuR l i)).length := if_pos h
theorem baX_no {l : List Tm} {i : Int} (h : cpB l i = false) (c : Nat) : baX l i c = 0 := if_neg (by simp [h])
theorem enL_bd {l : List Tm} (hl : plB l = true) {x : List Int} (hx : x ∈ ceL l) {e : List Int} (he : e ∈ enL l x) : (-6 ≤ gd e 2 ∧ gd e 2 ≤ 6) ∧ (-6 ≤ gd e 3 ∧ gd e 3 ≤ 6) ∧ (1 ≤ gd e 4 ∧ gd e 4 ≤ 6) := by
  obtain ⟨s, hs, rfl⟩ := List.mem_map.1 he
  rw [setX_mem totLx] at hs
  obtain ⟨i, k, hik, hkl, rfl, -, -⟩ := side_of hl hx hs
  have hb := wt_bd (in6_of (plB_at hl (show i < l.length by omega))) (in6_of (plB_at hl hkl)) (ptO_ne hl (by omega) hkl (by omega : i ≠ k))
  rw [enE_pair]
  cases hr : rgB l x i k
  · rw [enT_no hr]
    refine ⟨?_, ?_, ?_⟩ <;> simp only [gd, List.cons_append, List.nil_append, List.getD_cons_succ, List.getD_cons_zero] <;> omega
  · rw [enT_yes hr]
    refine ⟨?_, ?_, ?_⟩ <;> simp only [gd, List.cons_append, List.nil_append, List.getD_cons_succ, List.getD_cons_zero] <;> omega
theorem getD_in {L : List (List Int)} {k : Nat} (hk : k < L.length) : L.getD k [] ∈ L := by
  rw [List.getD_eq_getElem?_getD, List.getElem?_eq_getElem hk]; exact List.getElem_mem hk
theorem bxS_bd {L : List (List Int)} {c : Nat} (h : ∀ e ∈ L, (-6 ≤ gd e c ∧ gd e c ≤ 6) ∧ (1 ≤ gd e 4 ∧ gd e 4 ≤ 6)) : ∀ k, k ≤ L.length → -(36 * (k : Int)) ≤ bxS L c k ∧ bxS L c k ≤ 36 * (k : Int)
  | 0, _ => by simp [bxS]
  | k + 1, hk => by
    have ih := bxS_bd h k (by omega)
    have h1 := h _ (getD_in (show k < L.length by omega))
    have h2 := mulB2 (x := gd (L.getD k []) c) (y := gd (L.getD k []) 4) (A := 6) (B := 6) h1.1 (by omega)
    rw [bxS]; omega
def GivesBa (a b : Int) (ok : Bool) (w : World) (e : Ending) (w' : World) : Prop := e = .returned (.tuple #[.int .i64 a, .int .i64 b, .bool ok]) ∧ Below w.heap.size w w'
theorem givesBa_of {a b c d : Int} {o p : Bool} {w w' : World} (h1 : a = c) (h2 : b = d) (h3 : o = p) (hb : Below w.heap.size w w') : GivesBa a b o w (.returned (.tuple #[.int .i64 c, .int .i64 d, .bool p])) w' := by
  subst h1 h2 h3; exact ⟨rfl, hb⟩
set_option maxHeartbeats 2000000 in
set_option maxRecDepth 100000 in
theorem specBalanceAt_any (w : World) (B : Nat) (v : Value) (l : List Tm) (i : Int) (h : TmS w B v l) : Calls Tryz.prog 21 #[v, .int .i64 i] w fun e w' => GivesBa (baX l i 2) (baX l i 3) (cpB l i) w e w' := by
  go_enter Tryz.func21, Tryz.ntmps21
  go_wp2_with fail
  refine (cuCell_any _ B _ l i h).mono ?_
  rintro e w1 ⟨r, B', rfl, hr, b1⟩
  cases hq : cpB l i
  · have HQ := Lib.hid hq
    clear hq hr
    go_wp2
    go_ret3
    exact givesBa_of (baX_no HQ.out 2) (baX_no HQ.out 3) HQ.out b1
  · have HQ := Lib.hid hq
    obtain ⟨hl, hx⟩ := cuR_in hq
    have h1 := FS.below h b1
    have HX := Lib.hid (And.intro (baX_yes hq 2) (baX_yes hq 3))
    have HBD := Lib.hid (fun e he => enL_bd hl hx (e := e) he)
    have h12 := (enL_few hl hx).1
    clear hq
    go_wp2_with fail
    refine (cuEnds_any w1 B _ _ _ l _ h1 hr hl hx).mono ?_
    rintro e w2 ⟨r2, P, rfl, hP, eP, b2⟩
    obtain ⟨L, hL⟩ : ∃ L, L = enL l (cuR l i) := ⟨_, rfl⟩
    rw [← hL] at HX HBD h12 eP
    have H2 := Lib.hid (bxS_bd (c := 2) (fun e he => ⟨(HBD.out e he).1, (HBD.out e he).2.2⟩))
    have H3 := Lib.hid (bxS_bd (c := 3) (fun e he => ⟨(HBD.out e he).2.1, (HBD.out e he).2.2⟩))
    have HL5 := Lib.hid (fun e (he : e ∈ L) => (enL_few hl hx).2 e (by rw [← hL]; exact he))
    have HB2 := Lib.hid (bel2 b1 b2)
    obtain ⟨A, cap, rfl, -, hp⟩ := hP.parts
    have HP := Lib.hid hp
    have HV := Lib.hid hP.2
    have HEP := Lib.hid eP
    have hpl : P.length = L.length := by rw [← lls_len, eP]
    obtain ⟨n, hn⟩ : ∃ n, n = L.length := ⟨_, rfl⟩
    have HN := Lib.hid hn
    rw [hpl]
    have HPL := Lib.hid hpl
    rw [← hn] at h12 ⊢
    clear h hl hx hr h1 b1 b2 hP eP hp hn hL hpl
    go_wp2
    go_loopw [9, 10, 25] (fun a b i wr => ∃ j : Nat, j ≤ n ∧ i = .int .i64 j ∧ a = .int .i64 (bxS L 2 j) ∧ b = .int .i64 (bxS L 3 j) ∧ Below w2.heap.size w2 wr) (fun _ _ i _ => n - (intOf i).toNat)
    case atStart => exact ⟨0, by omega, rfl, rfl, rfl, Below.refl _ _⟩
    case round =>
      obtain ⟨j, hj, rfl, rfl, rfl, hb⟩ := hrel
      by_cases hlt : j < n
      · have hjL : j < L.length := by rw [← HN.out]; exact hlt
        have hjp : j < P.length := by rw [HPL.out]; exact hjL
        obtain ⟨g, rfl, hc0⟩ := HP.out j hjp
        have hc := X3.below.box_old3 hc0 hb
        have his := (HV.out.at hjp).below hb
        rw [pll_get HEP.out hjp] at his
        have hl5 := HL5.out _ (getD_in hjL)
        have hbd := HBD.out _ (getD_in hjL)
        have s2 := H2.out j (by omega)
        have s3 := H3.out j (by omega)
        have n2 : bxS L 2 (j + 1) = bxS L 2 j + gd (L.getD j []) 2 * gd (L.getD j []) 4 := rfl
        have n3 : bxS L 3 (j + 1) = bxS L 3 j + gd (L.getD j []) 3 * gd (L.getD j []) 4 := rfl
        obtain ⟨zs, hzs⟩ : ∃ zs, zs = L.getD j [] := ⟨_, rfl⟩
        rw [← hzs] at his hl5 hbd n2 n3
        obtain ⟨A3, cap3, hv, -, hp3⟩ := his.parts
        obtain ⟨g3, rfl, d2⟩ := hp3 2 (by omega)
        obtain ⟨g4, hg4, d3⟩ := hp3 3 (by omega)
        cases hg4
        obtain ⟨g4, hg4, d4⟩ := hp3 4 (by omega)
        cases hg4
        rw [hv, hl5] at hc
        obtain ⟨x2, hx2⟩ : ∃ q, q = gd zs 2 := ⟨_, rfl⟩
        obtain ⟨x3, hx3⟩ : ∃ q, q = gd zs 3 := ⟨_, rfl⟩
        obtain ⟨x4, hx4⟩ : ∃ q, q = gd zs 4 := ⟨_, rfl⟩
        obtain ⟨S2, hS2⟩ : ∃ q, q = bxS L 2 j := ⟨_, rfl⟩
        obtain ⟨S3, hS3⟩ : ∃ q, q = bxS L 3 j := ⟨_, rfl⟩
        rw [← hx2] at hbd n2 d2
        rw [← hx3] at hbd n3 d3
        rw [← hx4] at hbd n2 n3 d4
        rw [← hS2] at s2 n2 ⊢
        rw [← hS3] at s3 n3 ⊢
        have m2 := mulB2 (x := x2) (y := x4) (A := 6) (B := 6) hbd.1 (by omega)
        have m3 := mulB2 (x := x3) (y := x4) (A := 6) (B := 6) hbd.2.1 (by omega)
        have q1 : IntKind.i64.wrap (x2 * x4) = x2 * x4 := IntWalk.i64_in _ (by omega)
        have q2 : IntKind.i64.wrap (S2 + x2 * x4) = S2 + x2 * x4 := IntWalk.i64_in _ (by omega)
        have q3 : IntKind.i64.wrap (x3 * x4) = x3 * x4 := IntWalk.i64_in _ (by omega)
        have q4 : IntKind.i64.wrap (S3 + x3 * x4) = S3 + x3 * x4 := IntWalk.i64_in _ (by omega)
        have HNX := Lib.hid (And.intro n2 n3)
        have HB := Lib.hid hb
        clear hc0 his hp3 hzs hx2 hx3 hx4 hS2 hS3 n2 n3 m2 m3 hbd hb hv
        go_wp2
        go_quiet (fail)
        have e3 : (wr.drewN nq).cell? ⟨g3, 3, none⟩ = some (.int .i64 x3) := d3
        have e4 : (wr.drewN nq).cell? ⟨g3, 4, none⟩ = some (.int .i64 x4) := d4
        have HB3 := Lib.hid (belN HB.out nq)
        clear d2 d3 d4 hc
        generalize wr.drewN nq = w5 at e3 e4 HB3 ⊢
        go_wp2
        go_quiet (fail)
        go_wp2
        go_roundw
        case rel => exact ⟨j + 1, by omega, by go_num, by rw [HNX.out.1], by rw [HNX.out.2], belN HB3.out nq⟩
        case measure => simp [intOf]; omega
      · obtain rfl : j = n := by omega
        go_wp2
        go_ret3
        exact givesBa_of (by rw [HX.out.1, ← HN.out]) (by rw [HX.out.2, ← HN.out]) HQ.out (bel2 HB2.out hb)
set_option maxHeartbeats 2000000 in
set_option maxRecDepth 100000 in
theorem implBalanceAt_any (w : World) (B : Nat) (v : Value) (l : List Tm) (i : Int) (h : TmS w B v l) : Calls Tryz.prog 22 #[v, .int .i64 i] w fun e w' => GivesBa (baX l i 2) (baX l i 3) (cpB l i) w e w' := by
  go_enter Tryz.func22, Tryz.ntmps22
  go_wp2_with fail
  refine (cellWithNumber_any _ B _ l i h).mono ?_
  rintro e w1 ⟨r, B', rfl, hr, b1⟩
  cases hq : cpB l i
  · have HQ := Lib.hid hq
    clear hq hr
    go_wp2
    go_ret3
    exact givesBa_of (baX_no HQ.out 2) (baX_no HQ.out 3) HQ.out b1
  · have HQ := Lib.hid hq
    obtain ⟨hl, hx⟩ := cuR_in hq
    have h1 := FS.below h b1
    have HX := Lib.hid (And.intro (baX_yes hq 2) (baX_yes hq 3))
    have HBD := Lib.hid (fun e he => enL_bd hl hx (e := e) he)
    have h12 := (enL_few hl hx).1
    clear hq
    go_wp2_with fail
    refine (endsOfCell_any w1 B _ _ _ l _ h1 hr hl hx).mono ?_
    rintro e w2 ⟨r2, E, rfl, hE, eE, b2⟩
    obtain ⟨L, hL⟩ : ∃ L, L = enL l (cuR l i) := ⟨_, rfl⟩
    rw [← hL] at HX HBD h12 eE
    have H2 := Lib.hid (bxS_bd (c := 2) (fun e he => ⟨(HBD.out e he).1, (HBD.out e he).2.2⟩))
    have H3 := Lib.hid (bxS_bd (c := 3) (fun e he => ⟨(HBD.out e he).2.1, (HBD.out e he).2.2⟩))
    have HB2 := Lib.hid (bel2 b1 b2)
    obtain ⟨A, cap, rfl, -, hp⟩ := FS.parts hE
    have HP := Lib.hid hp
    have hpl : E.length = L.length := by rw [← eE]; simp
    have HEL := Lib.hid (fun (j : Nat) (hj : j < E.length) => show L.getD j [] = l5 (ped E j) by
      rw [← eE, List.getD_eq_getElem?_getD, List.getElem?_map, List.getElem?_eq_getElem hj, ped_eq E j hj]; rfl)
    obtain ⟨n, hn⟩ : ∃ n, n = L.length := ⟨_, rfl⟩
    have HN := Lib.hid hn
    rw [hpl]
    have HPL := Lib.hid hpl
    rw [← hn] at h12 ⊢
    clear h hl hx hr h1 b1 b2 hE eE hp hn hL hpl
    go_wp2
    go_loopw [9, 10, 25] (fun a b i wr => ∃ j : Nat, j ≤ n ∧ i = .int .i64 j ∧ a = .int .i64 (bxS L 2 j) ∧ b = .int .i64 (bxS L 3 j) ∧ Below w2.heap.size w2 wr) (fun _ _ i _ => n - (intOf i).toNat)
    case atStart => exact ⟨0, by omega, rfl, rfl, rfl, Below.refl _ _⟩
    case round =>
      obtain ⟨j, hj, rfl, rfl, rfl, hb⟩ := hrel
      by_cases hlt : j < n
      · have hjL : j < L.length := by rw [← HN.out]; exact hlt
        have hje : j < E.length := by rw [HPL.out]; exact hjL
        have hc : ∀ t, t < 5 → ∃ g, A = some ⟨g, 0, none⟩ ∧ wr.cell? ⟨g, j * 5 + t, none⟩ = some (.int .i64 (gd (l5 (ped E j)) t)) := fun t ht => by
          obtain ⟨g, hg, hc0⟩ := HP.out (j * 5 + t) (by omega)
          exact ⟨g, hg, by rw [← flatE_gd hje ht]; exact X3.below.box_old3 hc0 hb⟩
        obtain ⟨g, hg, c0⟩ := hc 0 (by omega)
        obtain ⟨g', hg', c1⟩ := hc 1 (by omega)
        rw [hg] at hg'; cases hg'
        obtain ⟨g', hg', c2⟩ := hc 2 (by omega)
        rw [hg] at hg'; cases hg'
        obtain ⟨g', hg', c3⟩ := hc 3 (by omega)
        rw [hg] at hg'; cases hg'
        obtain ⟨g', hg', c4⟩ := hc 4 (by omega)
        rw [hg] at hg'; cases hg'
        subst hg
        have lg : g < wr.heap.size := cell_lt c0
        have hbd := HBD.out _ (getD_in hjL)
        have s2 := H2.out j (by omega)
        have s3 := H3.out j (by omega)
        have n2 : bxS L 2 (j + 1) = bxS L 2 j + gd (L.getD j []) 2 * gd (L.getD j []) 4 := rfl
        have n3 : bxS L 3 (j + 1) = bxS L 3 j + gd (L.getD j []) 3 * gd (L.getD j []) 4 := rfl
        rw [HEL.out j hje] at hbd n2 n3
        obtain ⟨t, ht⟩ : ∃ t, t = ped E j := ⟨_, rfl⟩
        rw [← ht] at c0 c1 c2 c3 c4 hbd n2 n3
        obtain ⟨t0, t1, x2, x3, x4⟩ := t
        have d0 : wr.cell? ⟨g, j * 5, none⟩ = some (.int .i64 t0) := c0
        have d1 : wr.cell? ⟨g, j * 5 + 1, none⟩ = some (.int .i64 t1) := c1
        have d2 : wr.cell? ⟨g, j * 5 + 2, none⟩ = some (.int .i64 x2) := c2
        have d3 : wr.cell? ⟨g, j * 5 + 3, none⟩ = some (.int .i64 x3) := c3
        have d4 : wr.cell? ⟨g, j * 5 + 4, none⟩ = some (.int .i64 x4) := c4
        obtain ⟨S2, hS2⟩ : ∃ q, q = bxS L 2 j := ⟨_, rfl⟩
        obtain ⟨S3, hS3⟩ : ∃ q, q = bxS L 3 j := ⟨_, rfl⟩
        rw [← hS2] at s2 n2 ⊢
        rw [← hS3] at s3 n3 ⊢
        have n2' : bxS L 2 (j + 1) = S2 + x2 * x4 := n2
        have n3' : bxS L 3 (j + 1) = S3 + x3 * x4 := n3
        have hbd' : (-6 ≤ x2 ∧ x2 ≤ 6) ∧ (-6 ≤ x3 ∧ x3 ≤ 6) ∧ (1 ≤ x4 ∧ x4 ≤ 6) := hbd
        have m2 := mulB2 (x := x2) (y := x4) (A := 6) (B := 6) hbd'.1 (by omega)
        have m3 := mulB2 (x := x3) (y := x4) (A := 6) (B := 6) hbd'.2.1 (by omega)
        have q1 : IntKind.i64.wrap (x2 * x4) = x2 * x4 := IntWalk.i64_in _ (by omega)
        have q2 : IntKind.i64.wrap (S2 + x2 * x4) = S2 + x2 * x4 := IntWalk.i64_in _ (by omega)
        have q3 : IntKind.i64.wrap (x3 * x4) = x3 * x4 := IntWalk.i64_in _ (by omega)
        have q4 : IntKind.i64.wrap (S3 + x3 * x4) = S3 + x3 * x4 := IntWalk.i64_in _ (by omega)
        have HNX := Lib.hid (And.intro n2' n3')
        have HB := Lib.hid (hb.alloc hb.size (.cells #[.int .i64 t0, .int .i64 t1, .int .i64 x2, .int .i64 x3, .int .i64 x4] 69))
        clear hc c0 c1 c2 c3 c4 ht hS2 hS3 n2 n3 n2' n3' m2 m3 hbd hbd' hb
        go_wp2
        go_roundw
        case rel => exact ⟨j + 1, by omega, by go_num, by rw [HNX.out.1], by rw [HNX.out.2], HB.out⟩
        case measure => simp [intOf]; omega
      · obtain rfl : j = n := by omega
        go_wp2
        go_ret3
        exact givesBa_of (by rw [HX.out.1, ← HN.out]) (by rw [HX.out.2, ← HN.out]) HQ.out (bel2 HB2.out hb)
end Go.Proofs.YtbapepflfgcioaaGreat

/-
  The model's ends; EndsAt and BalanceAt of both.
  Condition: the slice reads as the terms that are named.
-/
import Derived.Test.YtbapepflfgcioaaGreatCuG
import Derived.Test.YtbapepflfgcioaaGreatSl
import Derived.Lib.AppendZeros
import Derived.Test.YtbapepflfgcioaaGreatEdL
import Derived.Test.YtbapepflfgcioaaGreatCuM
import Derived.Laws.Cover3
namespace Go.Proofs.YtbapepflfgcioaaGreat
set_option linter.unusedSimpArgs false
set_option linter.unusedVariables false
open Go.ChangeShapes Go.WideShapes Go.ChangeAt Go.RowKit Go.Maps
open Go.Sort (grow)

theorem ints_oneC (zs : List Int) : ∀ u ∈ ints zs, u.oneCell' = true := fun u hu => by
  simp only [ints, List.mem_map] at hu
  obtain ⟨y, -, rfl⟩ := hu
  rfl
theorem RdV.newsC {w : World} {v : Value} {zs : List Int} (h : RdV w v zs) (h0 : 0 < zs.length) : ∃ g cap, v = .slice (some ⟨g, 0, none⟩) zs.length cap ∧ ∀ j u, (ints zs)[j]? = some u → w.cell? ((⟨g, 0, none⟩ : Addr).add j) = some u := by
  obtain ⟨A, cap, rfl, hm, hp⟩ := h
  obtain ⟨g, rfl, -⟩ := hp 0 h0
  refine ⟨g, cap, rfl, fun j u hu => ?_⟩
  have hj : j < zs.length := by
    rcases Nat.lt_or_ge j zs.length with h' | h'
    · exact h'
    · rw [List.getElem?_eq_none (by simp [ints]; omega)] at hu; cases hu
  obtain ⟨g', hg, hc⟩ := hp j hj
  cases hg
  rw [add_zero, hc]
  rw [gd_eq _ _ hj]
  simpa [ints, List.getElem?_eq_getElem hj] using hu
theorem news_below {w w' : World} {g : Nat} {zs : List Int} (h : ∀ j u, (ints zs)[j]? = some u → w.cell? ((⟨g, 0, none⟩ : Addr).add j) = some u) (hb : Below w.heap.size w w') : ∀ j u, (ints zs)[j]? = some u → w'.cell? ((⟨g, 0, none⟩ : Addr).add j) = some u := fun j u hu => by
  have := h j u hu
  rw [add_zero] at this ⊢
  exact box_o this hb
theorem twI_new (w : World) (B : Nat) (h : B ≤ w.heap.size) : (w.alloc (.cells #[] 3)).ownsRow B 3 1 (.slice (some ⟨w.heap.size, 0, none⟩) 0 0) 0 [] := World.ownsRow_made w #[] 0 h (Nat.zero_le _) rfl
/-- A row of integers behind another one. -/
theorem IS.joined {w' : World} {B : Nat} {v : Value} {xs ys : List Int} {n m : Nat} (hn : n = xs.length) (hm : m = ys.length) (h : w'.ownsRow B 3 1 v (n + m) (ints xs ++ ints ys)) : IS w' B v (xs ++ ys) := by
  subst hn hm
  unfold IS
  rw [List.length_append]
  unfold ints at h ⊢
  rw [List.map_append]
  exact h
set_option maxHeartbeats 1000000 in
theorem l1Own_any (w : World) (v : Value) (zs : List Int) (h : RdV w v zs) (h0 : 0 < zs.length) (hz : zs.length ≤ 1000) : Calls Tryz.prog 34 #[v] w fun e w' => ∃ r, e = .returned r ∧ IS w' w.heap.size r zs ∧ Below w.heap.size w w' := by
  obtain ⟨g, cap, rfl, hnews⟩ := h.newsC h0
  obtain ⟨i0, hi, hz0, hz1, hz2⟩ := info_parts infoInt
  obtain ⟨n, hn⟩ : ∃ n, n = zs.length := ⟨_, rfl⟩
  have HN := Lib.hid hn
  have bA : Below w.heap.size w (w.alloc (.cells #[] 3)) := (Below.refl _ _).alloc (Nat.le_refl _) _
  have HW := Lib.hid (news_below hnews bA)
  have HR := Lib.hid (twI_new w w.heap.size (Nat.le_refl _))
  have HB := Lib.hid bA
  rw [← hn] at hz h0 ⊢
  clear h hnews hn bA
  go_enter Tryz.func34, Tryz.ntmps34
  go_wp2_with (at_builtin; refine wpList_append_own _ rfl _ _ 49 rfl w.heap.size 3 i0 (.int .i64 0) 1 8 Tryz.underlying49 hi hz0 hz1 hz2 rfl (by decide) _ 0 _ rfl HR.out ⟨g, 0, none⟩ n _ (ints zs) rfl (by rw [HN.out]; simp [ints]) HW.out (ints_oneC _) (by unfold maxLen; omega) (by omega) (by simp) ?_; intro v' w2 hown2 hgrow2 hnil2)
  have hr : IS w2 w.heap.size v' ([] ++ zs) := IS.joined (n := 0) (m := n) rfl HN.out (by simpa [ints] using hown2)
  have hb : Below w.heap.size w w2 := HB.out.grown hgrow2 HB.out.size (fun q hq => (World.ownsRow.lt HR.out q hq).1)
  clear hown2 hgrow2 hnil2
  go_wp2
  go_ret
  exact ⟨_, rfl, hr, hb⟩
set_option maxHeartbeats 1000000 in
set_option maxRecDepth 100000 in
theorem cloneR_any (w : World) (v : Value) (zs : List Int) (h : RdV w v zs) (h0 : 0 < zs.length) (hz : zs.length ≤ 1000) : Calls Tryz.prog 48 #[v] w fun e w' => ∃ r, e = .returned r ∧ IS w' w.heap.size r zs ∧ Below w.heap.size w w' := by
  obtain ⟨g, cap, rfl, hnews⟩ := h.newsC h0
  obtain ⟨i0, hi, hz0, hz1, hz2⟩ := info_parts infoInt
  obtain ⟨n, hn⟩ : ∃ n, n = zs.length := ⟨_, rfl⟩
  have HN := Lib.hid hn
  have bA : Below w.heap.size w (w.alloc (.cells #[] 3)) := (Below.refl _ _).alloc (Nat.le_refl _) _
  have HW := Lib.hid (news_below hnews bA)
  have HR := Lib.hid (twI_new w w.heap.size (Nat.le_refl _))
  have HB := Lib.hid bA
  rw [← hn] at hz h0 ⊢
  clear h hnews hn bA
  have q22 : ∀ (w : World) (a : Option Addr) (n c n' c' : Nat), (binOp .eql 49 (.slice a n c) (.slice none n' c')).run Tryz.prog w = .ok (.bool a.isNone) w := fun w a n c n' c' => Lib.run_eql_slice_nil w _ _ a n c n' c' Tryz.underlying49
  go_enter Tryz.func48, Tryz.ntmps48
  go_wp2_with (at_builtin; refine wpList_append_own _ rfl _ _ 49 rfl w.heap.size 3 i0 (.int .i64 0) 1 8 Tryz.underlying49 hi hz0 hz1 hz2 rfl (by decide) _ 0 _ rfl HR.out ⟨g, 0, none⟩ n _ (ints zs) rfl (by rw [HN.out]; simp [ints]) HW.out (ints_oneC _) (by unfold maxLen; omega) (by omega) (by simp) ?_; intro v' w2 hown2 hgrow2 hnil2)
  have hr : IS w2 w.heap.size v' ([] ++ zs) := IS.joined (n := 0) (m := n) rfl HN.out (by simpa [ints] using hown2)
  have hb : Below w.heap.size w w2 := HB.out.grown hgrow2 HB.out.size (fun q hq => (World.ownsRow.lt HR.out q hq).1)
  clear hown2 hgrow2 hnil2
  go_wp2
  go_ret
  exact ⟨_, rfl, hr, hb⟩
theorem enL_next (l : List Tm) (x : List Int) {j : Nat} (hj : j < (setX lxL (sdL l x)).length) : (enL l x).take (j + 1) = (enL l x).take j ++ [enE l x ((setX lxL (sdL l x))[j])] := by
  rw [List.take_add_one, List.getElem?_eq_getElem (by rw [enL_len]; exact hj)]
  simp [enL]
/-- One more list behind a row of lists, all of it above the world before. -/
theorem ls_push {w w1 w2 : World} {B : Nat} {v v' x : Value} {P : VL} {zs : List Int} (h : LS w B v P) (hb : Below w.heap.size w w1) (hB : B ≤ w.heap.size) (hx : IS w1 w.heap.size x zs) (hown : w2.ownsRow B 49 1 v' (P.length + 1) (vls P ++ [x])) (hg : w1.grownBy w2 v.ownBlock) : LS w2 B v' (P ++ [(x, zs)]) :=
  ls_snoc (h.below hb) (hx.base hB) hown hg (fun p hp g hg e => by have := (h.2.1 p hp).lt g hg; have := hx.lt g e; omega) (fun g hg e => by have := World.ownsRow.lt h.1 g e; have := hx.lt g hg; omega)
set_option maxHeartbeats 4000000 in
set_option maxRecDepth 100000 in
theorem cuEnds_any (w : World) (B B' : Nat) (v c : Value) (l : List Tm) (x : List Int) (h : TmS w B v l) (hc : IS w B' c x) (hl : plB l = true) (hx : x ∈ ceL l) :
    Calls Tryz.prog 45 #[v, c] w fun e w' => GivesL (enL l x) w e w' := by
  have HL := Lib.hid hl
  have HX := Lib.hid hx
  go_enter Tryz.func45, Tryz.ntmps45
  go_wp2_with fail
  refine (ceSides_any w B B' v c l x h hc hl hx).mono ?_
  rintro e w2 ⟨rs, R, rfl, hRS, hR, b2⟩
  have H2 := Lib.hid (FS.below h b2)
  have HC2 := Lib.hid (hc.below b2)
  have HB2 := Lib.hid b2
  have hn12 : R.length ≤ 12 := by
    rw [← lls_len, hR]
    have h1 := setX_len (sdL l x)
    have h2 := hc_le hx (plB_le hl).2
    rw [← sdL_len] at h2
    omega
  obtain ⟨A, cap, rfl, -, hp⟩ := hRS.parts
  have HP := Lib.hid hp
  have HV := Lib.hid hRS.2
  have HR := Lib.hid hR
  obtain ⟨n, hn⟩ : ∃ n, n = R.length := ⟨_, rfl⟩
  have HN := Lib.hid hn
  rw [← hn] at hn12 ⊢
  obtain ⟨i0, hi, hz0, hz1, hz2⟩ := info_parts infoInt
  obtain ⟨j0, hj0, hy0, hy1, hy2⟩ := info_parts infoSl
  clear h hc hl hx hRS hR hp b2 hn
  go_wp2
  go_loopw [5, 12] (fun o i wr => ∃ (j : Nat) (P : VL), j ≤ n ∧ i = .int .i64 j ∧ Hid (LS wr w2.heap.size o P ∧ lls P = (enL l x).take j) ∧ Below w2.heap.size w2 wr) (fun _ i _ => n - (intOf i).toNat)
  case atStart => exact ⟨0, [], by omega, rfl, Lib.hid ⟨LS.nil_ _ _, rfl⟩, Below.refl _ _⟩
  case round =>
    obtain ⟨j, P, hj, rfl, hst, hb⟩ := hrel
    by_cases hlt : j < n
    · obtain ⟨wO, hwO⟩ : ∃ wO, wO = wr := ⟨_, rfl⟩
      rw [← hwO] at hst hb ⊢
      clear hwO wr
      have hjr : j < R.length := by rw [← HN.out]; exact hlt
      have hjl : j < (setX lxL (sdL l x)).length := by rw [← HR.out, lls_len]; exact hjr
      obtain ⟨g, rfl, hc0⟩ := HP.out j hjr
      have hc1 := X3.below.box_old3 hc0 hb
      have his := (HV.out.at hjr).below hb
      have hmem : pll R j ∈ sdL l x := by
        have : pll R j ∈ lls R := by rw [← lls_get hjr (by rw [lls_len]; exact hjr)]; exact List.getElem_mem _
        rw [HR.out, setX_mem totLx] at this
        exact this
      have hnx := enL_next l x hjl
      have hge : (setX lxL (sdL l x))[j] = pll R j := by
        have h1 := lls_get hjr (by rw [lls_len]; exact hjr)
        rw [← h1]
        exact (List.getElem_of_eq HR.out _).symm
      rw [hge] at hnx
      obtain ⟨i, k, hik, hkl, hs, -, -⟩ := side_of HL.out HX.out hmem
      rw [hs] at his hmem hnx
      rw [enE_pair] at hnx
      have HNX := Lib.hid hnx
      have HMEM := Lib.hid hmem
      have HIS := Lib.hid his
      obtain ⟨sv, hsv⟩ : ∃ sv, sv = pvl R j := ⟨_, rfl⟩
      rw [← hsv] at hc1 HIS
      have HB := Lib.hid hb
      have HST := Lib.hid hst.out
      clear hc0 his hmem hnx hge hs hsv hst hjl
      go_wp2_with fail
      refine (l1Own_any wO sv [(i : Int), (k : Int)] HIS.out.parts (by simp) (by simp)).mono ?_
      rintro e w3 ⟨r3, rfl, hr3, b3⟩
      obtain ⟨A3, cap3, rfl, -, -⟩ := hr3.parts
      have HIS3 := Lib.hid (HIS.out.below b3)
      go_wp2_with fail
      refine (cuEnd_any w3 _ _ _ _ _ sv l x i k (FS.below (FS.below H2.out HB.out) b3) ((HC2.out.below HB.out).below b3) HIS3.out HL.out HX.out HMEM.out).mono ?_
      rintro e w4 ⟨r4, rfl, hr4, b4⟩
      have hr34 := hr3.below b4
      have hb34 := bel2 b3 b4
      obtain ⟨g4, cap4, rfl, hnews4⟩ := RdV.newsC hr4.parts (by rw [enT_len]; omega)
      rw [enT_len]
      have HN4 := Lib.hid hnews4
      have HR3 := Lib.hid hr34
      have HB34 := Lib.hid hb34
      have hs34 := hb34.size
      rw [show ([(i : Int), (k : Int)] : List Int).length = 2 from rfl] at HR3
      clear hr3 b3 hr4 b4 hr34 hb34 hnews4 HIS HIS3 hc1
      go_wp2_with (first | (at_builtin; refine wpList_append_own _ rfl _ _ 49 rfl wO.heap.size 3 i0 (.int .i64 0) 1 8 Tryz.underlying49 hi hz0 hz1 hz2 rfl (by decide) _ 2 _ rfl HR3.out ⟨g4, 0, none⟩ 3 _ (ints (enT l x i k)) rfl (by simp [ints, enT_len]) HN4.out (ints_oneC _) (by unfold maxLen; omega) (by omega) hs34 ?_; intro v5 w5 hown5 hgrow5 hnil5; have hx5 : IS w5 wO.heap.size v5 ([(i : Int), (k : Int)] ++ enT l x i k) := IS.joined (n := 2) (m := 3) rfl (enT_len _ _ _ _).symm hown5; have hb5 : Below wO.heap.size wO w5 := HB34.out.grown hgrow5 HB34.out.size (fun q hq => (World.ownsRow.lt HR3.out q hq).1); obtain ⟨A5, cap5, e5, -, -⟩ := hx5.parts; rw [show ([(i : Int), (k : Int)] ++ enT l x i k).length = 5 from by rw [List.length_append, enT_len]; rfl] at e5; subst e5; have bA : Below w5.heap.size w5 (w5.alloc (.cells #[.slice A5 5 cap5] 49)) := (Below.refl _ _).alloc (Nat.le_refl _) _; have HX6 := Lib.hid (hx5.below bA); have HB6 := Lib.hid (bel2 hb5 bA); have HNW := Lib.hid (oneS_news (litS_new w5 (.slice A5 5 cap5))); have h1c := hx5.one; have hLS6 := HST.out.1.below HB6.out; obtain ⟨np, hnp⟩ : ∃ np, np = P.length := ⟨_, rfl⟩; have HNP := Lib.hid hnp; have hnp2 : np ≤ 12 := (by rw [hnp, ← lls_len, HST.out.2, List.length_take]; omega); have hrow6 := hLS6.1; rw [← hnp] at hrow6; have hs6 := Nat.le_trans HB.out.size HB6.out.size; clear hown5 hgrow5 hnil5 hx5 hb5 bA hnp HN4 HR3 HB34 hLS6) | (at_builtin; refine wpList_append_own _ rfl _ _ 24 rfl w2.heap.size 49 j0 (.slice none 0 0) 1 24 Tryz.underlying24 hj0 hy0 hy1 hy2 rfl (by decide) _ np _ rfl hrow6 ⟨w5.heap.size, 0, none⟩ 1 1 [.slice A5 5 cap5] rfl rfl HNW.out (by simp [h1c]) (by unfold maxLen; omega) (by omega) hs6 ?_; intro v7 w7 hown7 hgrow7 hnil7))
      have hLS7 := ls_push HST.out.1 HB6.out HB.out.size HX6.out (by rw [← HNP.out]; exact hown7) hgrow7
      have HL7 := Lib.hid (And.intro hLS7 (show lls (P ++ [(.slice A5 5 cap5, [(i : Int), (k : Int)] ++ enT l x i k)]) = (enL l x).take (j + 1) by
        rw [HNX.out, ← HST.out.2]; simp [lls]))
      have hb7 : Below w2.heap.size w2 w7 := (bel2 HB.out HB6.out).grown hgrow7 (bel2 HB.out HB6.out).size (fun q hq => (World.ownsRow.lt HST.out.1.1 q hq).1)
      clear hown7 hgrow7 hnil7 hLS7 hrow6
      go_wp2
      go_roundw
      case rel => exact ⟨j + 1, _, by omega, by go_num, HL7, hb7⟩
      case measure => simp [intOf]; omega
    · obtain rfl : j = n := by omega
      go_wp2
      go_ret
      exact ⟨_, P, rfl, hst.out.1.base HB2.out.size, by rw [hst.out.2, List.take_of_length_le (by rw [enL_len, ← HR.out, lls_len, ← HN.out]; exact Nat.le_refl _)], bel2 HB2.out hb⟩
end Go.Proofs.YtbapepflfgcioaaGreat
/-
  EndsAt and BalanceAt of both.
  Condition: the slice reads as the terms that are named.
-/
namespace Go.Proofs.YtbapepflfgcioaaGreat
set_option linter.unusedSimpArgs false
set_option linter.unusedVariables false
open Go.ChangeShapes Go.WideShapes Go.ChangeAt Go.RowKit Go.Maps
open Go.Sort (grow)

def esR (l : List Tm) (i : Int) : List (List Int) := if cpB l i = true then enL l (cuR l i) else []
theorem esR_yes {l : List Tm} {i : Int} (h : cpB l i = true) : esR l i = enL l (cuR l i) := if_pos h
theorem esR_no {l : List Tm} {i : Int} (h : cpB l i = false) : esR l i = [] := if_neg (by simp [h])
theorem enL_few {l : List Tm} (hl : plB l = true) {x : List Int} (hx : x ∈ ceL l) : (enL l x).length ≤ 12 ∧ ∀ e ∈ enL l x, e.length = 5 := by
  refine ⟨?_, fun e he => ?_⟩
  · rw [enL_len]
    have h1 := setX_len (sdL l x)
    have h2 := hc_le hx (plB_le hl).2
    rw [← sdL_len] at h2
    omega
  · obtain ⟨s, hs, rfl⟩ := List.mem_map.1 he
    rw [setX_mem totLx] at hs
    exact enE_len hl hx hs
theorem few_es {l : List Tm} {i : Int} {P : VL} (h : lls P = esR l i) : FewL P := by
  cases hq : cpB l i
  · rw [esR_no hq] at h
    have : P = [] := List.map_eq_nil_iff.1 h
    subst this
    exact ⟨by simp, fun p hp => by simp at hp⟩
  · obtain ⟨h1, h2⟩ := cuR_in hq
    obtain ⟨h3, h4⟩ := enL_few h1 h2
    rw [esR_yes hq] at h
    refine ⟨by rw [← lls_len, h]; omega, fun p hp => ?_⟩
    have : p.2 ∈ lls P := List.mem_map.2 ⟨p, hp, rfl⟩
    rw [h] at this
    rw [h4 _ this]; omega
theorem givesLB_yes {ok : Bool} {L : List (List Int)} {w w' : World} {r : Value} {P : VL} (h1 : ok = true) (hP : LS w' w.heap.size r P) (h2 : lls P = L) (hb : Below w.heap.size w w') : GivesLB ok L w (.returned (.tuple #[r, .bool true])) w' := by
  subst h1; exact ⟨_, P, rfl, hP, h2, hb⟩
set_option maxHeartbeats 1000000 in
theorem specEndsAt_any (w : World) (B : Nat) (v : Value) (l : List Tm) (i : Int) (h : TmS w B v l) : Calls Tryz.prog 19 #[v, .int .i64 i] w fun e w' => GivesLB (cpB l i) (esR l i) w e w' := by
  go_enter Tryz.func19, Tryz.ntmps19
  go_wp2_with fail
  refine (cuCell_any _ B _ l i h).mono ?_
  rintro e w1 ⟨r, B', rfl, hr, b1⟩
  cases hq : cpB l i
  · have HQ := Lib.hid hq
    clear hq hr
    go_wp2
    go_ret2
    exact givesLB_nil HQ.out (esR_no HQ.out) b1
  · have HQ := Lib.hid hq
    obtain ⟨hl, hx⟩ := cuR_in hq
    have h1 := FS.below h b1
    clear hq
    go_wp2_with fail
    refine (cuEnds_any w1 B _ _ _ l _ h1 hr hl hx).mono ?_
    rintro e w2 ⟨r2, P, rfl, hP, eP, b2⟩
    go_wp2
    go_ret2
    exact givesLB_yes HQ.out (hP.base b1.size) (by rw [esR_yes HQ.out]; exact eP) (bel2 b1 b2)
set_option maxHeartbeats 4000000 in
set_option maxRecDepth 100000 in
theorem implEndsAt_any (w : World) (B : Nat) (v : Value) (l : List Tm) (i : Int) (h : TmS w B v l) : Calls Tryz.prog 20 #[v, .int .i64 i] w fun e w' => GivesLB (cpB l i) (esR l i) w e w' := by
  go_enter Tryz.func20, Tryz.ntmps20
  go_wp2_with fail
  refine (cellWithNumber_any _ B _ l i h).mono ?_
  rintro e w1 ⟨r, B', rfl, hr, b1⟩
  cases hq : cpB l i
  · have HQ := Lib.hid hq
    clear hq hr
    go_wp2
    go_ret2
    exact givesLB_nil HQ.out (esR_no HQ.out) b1
  · have HQ := Lib.hid hq
    obtain ⟨hl, hx⟩ := cuR_in hq
    have h1 := FS.below h b1
    have HF := Lib.hid (enL_few hl hx)
    clear hq
    go_wp2_with fail
    refine (endsOfCell_any w1 B _ _ _ l _ h1 hr hl hx).mono ?_
    rintro e w2 ⟨r2, E, rfl, hE, eE, b2⟩
    have HB2 := Lib.hid (bel2 b1 b2)
    have HE := Lib.hid eE
    obtain ⟨A, cap, rfl, -, hp⟩ := FS.parts hE
    have HP := Lib.hid hp
    have hn12 : E.length ≤ 12 := by rw [← List.length_map (f := l5), eE]; exact HF.out.1
    obtain ⟨n, hn⟩ : ∃ n, n = E.length := ⟨_, rfl⟩
    have HN := Lib.hid hn
    rw [← hn] at hn12 ⊢
    obtain ⟨j0, hj0, hy0, hy1, hy2⟩ := info_parts infoSl
    clear h hl hx hr h1 b1 b2 hE eE hp hn
    go_wp2
    go_loopw [8, 23] (fun o i wr => ∃ (j : Nat) (P : VL), j ≤ n ∧ i = .int .i64 j ∧ Hid (LS wr w2.heap.size o P ∧ lls P = (E.map l5).take j) ∧ Below w2.heap.size w2 wr) (fun _ i _ => n - (intOf i).toNat)
    case atStart => exact ⟨0, [], by omega, rfl, Lib.hid ⟨LS.nil_ _ _, rfl⟩, Below.refl _ _⟩
    case round =>
      obtain ⟨j, P, hj, rfl, hst, hb⟩ := hrel
      by_cases hlt : j < n
      · have hje : j < E.length := by rw [← HN.out]; exact hlt
        have hc : ∀ t, t < 5 → ∃ g, A = some ⟨g, 0, none⟩ ∧ wr.cell? ⟨g, j * 5 + t, none⟩ = some (.int .i64 (gd (l5 (ped E j)) t)) := fun t ht => by
          obtain ⟨g, hg, hc0⟩ := HP.out (j * 5 + t) (by omega)
          exact ⟨g, hg, by rw [← flatE_gd hje ht]; exact X3.below.box_old3 hc0 hb⟩
        obtain ⟨g, hg, c0⟩ := hc 0 (by omega)
        obtain ⟨g', hg', c1⟩ := hc 1 (by omega)
        rw [hg] at hg'; cases hg'
        obtain ⟨g', hg', c2⟩ := hc 2 (by omega)
        rw [hg] at hg'; cases hg'
        obtain ⟨g', hg', c3⟩ := hc 3 (by omega)
        rw [hg] at hg'; cases hg'
        obtain ⟨g', hg', c4⟩ := hc 4 (by omega)
        rw [hg] at hg'; cases hg'
        subst hg
        have lg : g < wr.heap.size := cell_lt c0
        obtain ⟨t, ht⟩ : ∃ t, t = ped E j := ⟨_, rfl⟩
        rw [← ht] at c0 c1 c2 c3 c4
        have d0 : wr.cell? ⟨g, j * 5, none⟩ = some (.int .i64 t.1) := c0
        have d1 : wr.cell? ⟨g, j * 5 + 1, none⟩ = some (.int .i64 t.2.1) := c1
        have d2 : wr.cell? ⟨g, j * 5 + 2, none⟩ = some (.int .i64 t.2.2.1) := c2
        have d3 : wr.cell? ⟨g, j * 5 + 3, none⟩ = some (.int .i64 t.2.2.2.1) := c3
        have d4 : wr.cell? ⟨g, j * 5 + 4, none⟩ = some (.int .i64 t.2.2.2.2) := c4
        have HNX := Lib.hid (show (E.map l5).take (j + 1) = (E.map l5).take j ++ [l5 t] by
          rw [List.take_add_one, List.getElem?_eq_getElem (by simpa using hje), ht, ped_eq E j hje]; simp)
        have hV := (E5.new wr t.1 t.2.1 t.2.2.1 t.2.2.2.1 t.2.2.2.2)
        have bV : Below wr.heap.size wr (wr.alloc (.cells #[.int .i64 t.1, .int .i64 t.2.1, .int .i64 t.2.2.1, .int .i64 t.2.2.2.1, .int .i64 t.2.2.2.2] 69)) := (Below.refl _ _).alloc (Nat.le_refl _) _
        have HCL := Lib.hid (cloneR_any _ _ (l5 t) (E5.rd (t := t) hV) (by rw [l5_len]; omega) (by rw [l5_len]; omega))
        have HBV := Lib.hid bV
        have HB := Lib.hid hb
        have HST := Lib.hid hst.out
        clear hc c0 c1 c2 c3 c4 ht hV bV hb hst
        go_wp2_with fail
        refine HCL.out.mono ?_
        rintro e w5 ⟨v5, rfl, hx5, b5⟩
        obtain ⟨A5, cap5, rfl, -, -⟩ := hx5.parts
        rw [l5_len] at hx5 ⊢
        have bA : Below w5.heap.size w5 (w5.alloc (.cells #[.slice A5 5 cap5] 49)) := (Below.refl _ _).alloc (Nat.le_refl _) _
        have HX6 := Lib.hid ((hx5.below bA).base (show wr.heap.size ≤ _ from HBV.out.size))
        have HB6 := Lib.hid (bel2 (bel2 HBV.out b5) bA)
        have HNW := Lib.hid (oneS_news (litS_new w5 (.slice A5 5 cap5)))
        have h1c := hx5.one
        have hLS6 := HST.out.1.below HB6.out
        obtain ⟨np, hnp⟩ : ∃ np, np = P.length := ⟨_, rfl⟩
        have HNP := Lib.hid hnp
        have hnp2 : np ≤ 12 := by rw [hnp, ← lls_len, HST.out.2, List.length_take]; omega
        have hrow6 := hLS6.1
        rw [← hnp] at hrow6
        have hs6 := Nat.le_trans HB.out.size HB6.out.size
        clear hx5 b5 bA hnp hLS6 HCL
        go_wp2_with (at_builtin; refine wpList_append_own _ rfl _ _ 24 rfl w2.heap.size 49 j0 (.slice none 0 0) 1 24 Tryz.underlying24 hj0 hy0 hy1 hy2 rfl (by decide) _ np _ rfl hrow6 ⟨w5.heap.size, 0, none⟩ 1 1 [.slice A5 5 cap5] rfl rfl HNW.out (by simp [h1c]) (by unfold maxLen; omega) (by omega) hs6 ?_; intro v7 w7 hown7 hgrow7 hnil7)
        have hLS7 := ls_push HST.out.1 HB6.out HB.out.size HX6.out (by rw [← HNP.out]; exact hown7) hgrow7
        have HL7 := Lib.hid (And.intro hLS7 (show lls (P ++ [(.slice A5 5 cap5, l5 t)]) = (E.map l5).take (j + 1) by
          rw [HNX.out, ← HST.out.2]; simp [lls]))
        have hb7 : Below w2.heap.size w2 w7 := (bel2 HB.out HB6.out).grown hgrow7 (bel2 HB.out HB6.out).size (fun q hq => (World.ownsRow.lt HST.out.1.1 q hq).1)
        clear hown7 hgrow7 hnil7 hLS7 hrow6 d0 d1 d2 d3 d4 lg
        go_wp2
        go_roundw
        case rel => exact ⟨j + 1, _, by omega, by go_num, HL7, hb7⟩
        case measure => simp [intOf]; omega
      · obtain rfl : j = n := by omega
        go_wp2
        go_ret2
        exact givesLB_yes HQ.out (hst.out.1.base HB2.out.size) (by rw [hst.out.2, List.take_of_length_le (by rw [List.length_map, ← HN.out]; exact Nat.le_refl _), HE.out, esR_yes HQ.out]) (bel2 HB2.out hb)
/-- The sums of the c-th parts, each times the weight. -/
def bxS (L : List (List Int)) (c : Nat) : Nat → Int
  | 0 => 0
  | k + 1 => bxS L c k + gd (L.getD k []) c * gd (L.getD k []) 4
def baX (l : List Tm) (i : Int) (c : Nat) : Int := if cpB l i = true then bxS (enL l (cuR l i)) c (enL l (cuR l i)).length else 0
theorem baX_yes {l : List Tm} {i : Int} (h : cpB l i = true) (c : Nat) : baX l i c = bxS (enL l (cuR l i)) c (enL l (cuR l i)).length := if_pos h
theorem baX_no {l : List Tm} {i : Int} (h : cpB l i = false) (c : Nat) : baX l i c = 0 := if_neg (by simp [h])
theorem enL_bd {l : List Tm} (hl : plB l = true) {x : List Int} (hx : x ∈ ceL l) {e : List Int} (he : e ∈ enL l x) : (-6 ≤ gd e 2 ∧ gd e 2 ≤ 6) ∧ (-6 ≤ gd e 3 ∧ gd e 3 ≤ 6) ∧ (1 ≤ gd e 4 ∧ gd e 4 ≤ 6) := by
  obtain ⟨s, hs, rfl⟩ := List.mem_map.1 he
  rw [setX_mem totLx] at hs
  obtain ⟨i, k, hik, hkl, rfl, -, -⟩ := side_of hl hx hs
  have hb := wt_bd (in6_of (plB_at hl (show i < l.length by omega))) (in6_of (plB_at hl hkl)) (ptO_ne hl (by omega) hkl (by omega : i ≠ k))
  rw [enE_pair]
  cases hr : rgB l x i k
  · rw [enT_no hr]
    refine ⟨?_, ?_, ?_⟩ <;> simp only [gd, List.cons_append, List.nil_append, List.getD_cons_succ, List.getD_cons_zero] <;> omega
  · rw [enT_yes hr]
    refine ⟨?_, ?_, ?_⟩ <;> simp only [gd, List.cons_append, List.nil_append, List.getD_cons_succ, List.getD_cons_zero] <;> omega
theorem getD_in {L : List (List Int)} {k : Nat} (hk : k < L.length) : L.getD k [] ∈ L := by
  rw [List.getD_eq_getElem?_getD, List.getElem?_eq_getElem hk]; exact List.getElem_mem hk
theorem bxS_bd {L : List (List Int)} {c : Nat} (h : ∀ e ∈ L, (-6 ≤ gd e c ∧ gd e c ≤ 6) ∧ (1 ≤ gd e 4 ∧ gd e 4 ≤ 6)) : ∀ k, k ≤ L.length → -(36 * (k : Int)) ≤ bxS L c k ∧ bxS L c k ≤ 36 * (k : Int)
  | 0, _ => by simp [bxS]
  | k + 1, hk => by
    have ih := bxS_bd h k (by omega)
    have h1 := h _ (getD_in (show k < L.length by omega))
    have h2 := mulB2 (x := gd (L.getD k []) c) (y := gd (L.getD k []) 4) (A := 6) (B := 6) h1.1 (by omega)
    rw [bxS]; omega
def GivesBa (a b : Int) (ok : Bool) (w : World) (e : Ending) (w' : World) : Prop := e = .returned (.tuple #[.int .i64 a, .int .i64 b, .bool ok]) ∧ Below w.heap.size w w'
theorem givesBa_of {a b c d : Int} {o p : Bool} {w w' : World} (h1 : a = c) (h2 : b = d) (h3 : o = p) (hb : Below w.heap.size w w') : GivesBa a b o w (.returned (.tuple #[.int .i64 c, .int .i64 d, .bool p])) w' := by
  subst h1 h2 h3; exact ⟨rfl, hb⟩
set_option maxHeartbeats 2000000 in
set_option maxRecDepth 100000 in
theorem specBalanceAt_any (w : World) (B : Nat) (v : Value) (l : List Tm) (i : Int) (h : TmS w B v l) : Calls Tryz.prog 21 #[v, .int .i64 i] w fun e w' => GivesBa (baX l i 2) (baX l i 3) (cpB l i) w e w' := by
  go_enter Tryz.func21, Tryz.ntmps21
  go_wp2_with fail
  refine (cuCell_any _ B _ l i h).mono ?_
  rintro e w1 ⟨r, B', rfl, hr, b1⟩
  cases hq : cpB l i
  · have HQ := Lib.hid hq
    clear hq hr
    go_wp2
    go_ret3
    exact givesBa_of (baX_no HQ.out 2) (baX_no HQ.out 3) HQ.out b1
  · have HQ := Lib.hid hq
    obtain ⟨hl, hx⟩ := cuR_in hq
    have h1 := FS.below h b1
    have HX := Lib.hid (And.intro (baX_yes hq 2) (baX_yes hq 3))
    have HBD := Lib.hid (fun e he => enL_bd hl hx (e := e) he)
    have h12 := (enL_few hl hx).1
    clear hq
    go_wp2_with fail
    refine (cuEnds_any w1 B _ _ _ l _ h1 hr hl hx).mono ?_
    rintro e w2 ⟨r2, P, rfl, hP, eP, b2⟩
    obtain ⟨L, hL⟩ : ∃ L, L = enL l (cuR l i) := ⟨_, rfl⟩
    rw [← hL] at HX HBD h12 eP
    have H2 := Lib.hid (bxS_bd (c := 2) (fun e he => ⟨(HBD.out e he).1, (HBD.out e he).2.2⟩))
    have H3 := Lib.hid (bxS_bd (c := 3) (fun e he => ⟨(HBD.out e he).2.1, (HBD.out e he).2.2⟩))
    have HL5 := Lib.hid (fun e (he : e ∈ L) => (enL_few hl hx).2 e (by rw [← hL]; exact he))
    have HB2 := Lib.hid (bel2 b1 b2)
    obtain ⟨A, cap, rfl, -, hp⟩ := hP.parts
    have HP := Lib.hid hp
    have HV := Lib.hid hP.2
    have HEP := Lib.hid eP
    have hpl : P.length = L.length := by rw [← lls_len, eP]
    obtain ⟨n, hn⟩ : ∃ n, n = L.length := ⟨_, rfl⟩
    have HN := Lib.hid hn
    rw [hpl]
    have HPL := Lib.hid hpl
    rw [← hn] at h12 ⊢
    clear h hl hx hr h1 b1 b2 hP eP hp hn hL hpl
    go_wp2
    go_loopw [9, 10, 25] (fun a b i wr => ∃ j : Nat, j ≤ n ∧ i = .int .i64 j ∧ a = .int .i64 (bxS L 2 j) ∧ b = .int .i64 (bxS L 3 j) ∧ Below w2.heap.size w2 wr) (fun _ _ i _ => n - (intOf i).toNat)
    case atStart => exact ⟨0, by omega, rfl, rfl, rfl, Below.refl _ _⟩
    case round =>
      obtain ⟨j, hj, rfl, rfl, rfl, hb⟩ := hrel
      by_cases hlt : j < n
      · have hjL : j < L.length := by rw [← HN.out]; exact hlt
        have hjp : j < P.length := by rw [HPL.out]; exact hjL
        obtain ⟨g, rfl, hc0⟩ := HP.out j hjp
        have hc := X3.below.box_old3 hc0 hb
        have his := (HV.out.at hjp).below hb
        rw [pll_get HEP.out hjp] at his
        have hl5 := HL5.out _ (getD_in hjL)
        have hbd := HBD.out _ (getD_in hjL)
        have s2 := H2.out j (by omega)
        have s3 := H3.out j (by omega)
        have n2 : bxS L 2 (j + 1) = bxS L 2 j + gd (L.getD j []) 2 * gd (L.getD j []) 4 := rfl
        have n3 : bxS L 3 (j + 1) = bxS L 3 j + gd (L.getD j []) 3 * gd (L.getD j []) 4 := rfl
        obtain ⟨zs, hzs⟩ : ∃ zs, zs = L.getD j [] := ⟨_, rfl⟩
        rw [← hzs] at his hl5 hbd n2 n3
        obtain ⟨A3, cap3, hv, -, hp3⟩ := his.parts
        obtain ⟨g3, rfl, d2⟩ := hp3 2 (by omega)
        obtain ⟨g4, hg4, d3⟩ := hp3 3 (by omega)
        cases hg4
        obtain ⟨g4, hg4, d4⟩ := hp3 4 (by omega)
        cases hg4
        rw [hv, hl5] at hc
        obtain ⟨x2, hx2⟩ : ∃ q, q = gd zs 2 := ⟨_, rfl⟩
        obtain ⟨x3, hx3⟩ : ∃ q, q = gd zs 3 := ⟨_, rfl⟩
        obtain ⟨x4, hx4⟩ : ∃ q, q = gd zs 4 := ⟨_, rfl⟩
        obtain ⟨S2, hS2⟩ : ∃ q, q = bxS L 2 j := ⟨_, rfl⟩
        obtain ⟨S3, hS3⟩ : ∃ q, q = bxS L 3 j := ⟨_, rfl⟩
        rw [← hx2] at hbd n2 d2
        rw [← hx3] at hbd n3 d3
        rw [← hx4] at hbd n2 n3 d4
        rw [← hS2] at s2 n2 ⊢
        rw [← hS3] at s3 n3 ⊢
        have m2 := mulB2 (x := x2) (y := x4) (A := 6) (B := 6) hbd.1 (by omega)
        have m3 := mulB2 (x := x3) (y := x4) (A := 6) (B := 6) hbd.2.1 (by omega)
        have q1 : IntKind.i64.wrap (x2 * x4) = x2 * x4 := IntWalk.i64_in _ (by omega)
        have q2 : IntKind.i64.wrap (S2 + x2 * x4) = S2 + x2 * x4 := IntWalk.i64_in _ (by omega)
        have q3 : IntKind.i64.wrap (x3 * x4) = x3 * x4 := IntWalk.i64_in _ (by omega)
        have q4 : IntKind.i64.wrap (S3 + x3 * x4) = S3 + x3 * x4 := IntWalk.i64_in _ (by omega)
        have HNX := Lib.hid (And.intro n2 n3)
        have HB := Lib.hid hb
        clear hc0 his hp3 hzs hx2 hx3 hx4 hS2 hS3 n2 n3 m2 m3 hbd hb hv
        go_wp2
        go_quiet (fail)
        have e3 : (wr.drewN nq).cell? ⟨g3, 3, none⟩ = some (.int .i64 x3) := d3
        have e4 : (wr.drewN nq).cell? ⟨g3, 4, none⟩ = some (.int .i64 x4) := d4
        have HB3 := Lib.hid (belN HB.out nq)
        clear d2 d3 d4 hc
        generalize wr.drewN nq = w5 at e3 e4 HB3 ⊢
        go_wp2
        go_quiet (fail)
        go_wp2
        go_roundw
        case rel => exact ⟨j + 1, by omega, by go_num, by rw [HNX.out.1], by rw [HNX.out.2], belN HB3.out nq⟩
        case measure => simp [intOf]; omega
      · obtain rfl : j = n := by omega
        go_wp2
        go_ret3
        exact givesBa_of (by rw [HX.out.1, ← HN.out]) (by rw [HX.out.2, ← HN.out]) HQ.out (bel2 HB2.out hb)
set_option maxHeartbeats 2000000 in
set_option maxRecDepth 100000 in
theorem implBalanceAt_any (w : World) (B : Nat) (v : Value) (l : List Tm) (i : Int) (h : TmS w B v l) : Calls Tryz.prog 22 #[v, .int .i64 i] w fun e w' => GivesBa (baX l i 2) (baX l i 3) (cpB l i) w e w' := by
  go_enter Tryz.func22, Tryz.ntmps22
  go_wp2_with fail
  refine (cellWithNumber_any _ B _ l i h).mono ?_
  rintro e w1 ⟨r, B', rfl, hr, b1⟩
  cases hq : cpB l i
  · have HQ := Lib.hid hq
    clear hq hr
    go_wp2
    go_ret3
    exact givesBa_of (baX_no HQ.out 2) (baX_no HQ.out 3) HQ.out b1
  · have HQ := Lib.hid hq
    obtain ⟨hl, hx⟩ := cuR_in hq
    have h1 := FS.below h b1
    have HX := Lib.hid (And.intro (baX_yes hq 2) (baX_yes hq 3))
    have HBD := Lib.hid (fun e he => enL_bd hl hx (e := e) he)
    have h12 := (enL_few hl hx).1
    clear hq
    go_wp2_with fail
    refine (endsOfCell_any w1 B _ _ _ l _ h1 hr hl hx).mono ?_
    rintro e w2 ⟨r2, E, rfl, hE, eE, b2⟩
    obtain ⟨L, hL⟩ : ∃ L, L = enL l (cuR l i) := ⟨_, rfl⟩
    rw [← hL] at HX HBD h12 eE
    have H2 := Lib.hid (bxS_bd (c := 2) (fun e he => ⟨(HBD.out e he).1, (HBD.out e he).2.2⟩))
    have H3 := Lib.hid (bxS_bd (c := 3) (fun e he => ⟨(HBD.out e he).2.1, (HBD.out e he).2.2⟩))
    have HB2 := Lib.hid (bel2 b1 b2)
    obtain ⟨A, cap, rfl, -, hp⟩ := FS.parts hE
    have HP := Lib.hid hp
    have hpl : E.length = L.length := by rw [← eE]; simp
    have HEL := Lib.hid (fun (j : Nat) (hj : j < E.length) => show L.getD j [] = l5 (ped E j) by
      rw [← eE, List.getD_eq_getElem?_getD, List.getElem?_map, List.getElem?_eq_getElem hj, ped_eq E j hj]; rfl)
    obtain ⟨n, hn⟩ : ∃ n, n = L.length := ⟨_, rfl⟩
    have HN := Lib.hid hn
    rw [hpl]
    have HPL := Lib.hid hpl
    rw [← hn] at h12 ⊢
    clear h hl hx hr h1 b1 b2 hE eE hp hn hL hpl
    go_wp2
    go_loopw [9, 10, 25] (fun a b i wr => ∃ j : Nat, j ≤ n ∧ i = .int .i64 j ∧ a = .int .i64 (bxS L 2 j) ∧ b = .int .i64 (bxS L 3 j) ∧ Below w2.heap.size w2 wr) (fun _ _ i _ => n - (intOf i).toNat)
    case atStart => exact ⟨0, by omega, rfl, rfl, rfl, Below.refl _ _⟩
    case round =>
      obtain ⟨j, hj, rfl, rfl, rfl, hb⟩ := hrel
      by_cases hlt : j < n
      · have hjL : j < L.length := by rw [← HN.out]; exact hlt
        have hje : j < E.length := by rw [HPL.out]; exact hjL
        have hc : ∀ t, t < 5 → ∃ g, A = some ⟨g, 0, none⟩ ∧ wr.cell? ⟨g, j * 5 + t, none⟩ = some (.int .i64 (gd (l5 (ped E j)) t)) := fun t ht => by
          obtain ⟨g, hg, hc0⟩ := HP.out (j * 5 + t) (by omega)
          exact ⟨g, hg, by rw [← flatE_gd hje ht]; exact X3.below.box_old3 hc0 hb⟩
        obtain ⟨g, hg, c0⟩ := hc 0 (by omega)
        obtain ⟨g', hg', c1⟩ := hc 1 (by omega)
        rw [hg] at hg'; cases hg'
        obtain ⟨g', hg', c2⟩ := hc 2 (by omega)
        rw [hg] at hg'; cases hg'
        obtain ⟨g', hg', c3⟩ := hc 3 (by omega)
        rw [hg] at hg'; cases hg'
        obtain ⟨g', hg', c4⟩ := hc 4 (by omega)
        rw [hg] at hg'; cases hg'
        subst hg
        have lg : g < wr.heap.size := cell_lt c0
        have hbd := HBD.out _ (getD_in hjL)
        have s2 := H2.out j (by omega)
        have s3 := H3.out j (by omega)
        have n2 : bxS L 2 (j + 1) = bxS L 2 j + gd (L.getD j []) 2 * gd (L.getD j []) 4 := rfl
        have n3 : bxS L 3 (j + 1) = bxS L 3 j + gd (L.getD j []) 3 * gd (L.getD j []) 4 := rfl
        rw [HEL.out j hje] at hbd n2 n3
        obtain ⟨t, ht⟩ : ∃ t, t = ped E j := ⟨_, rfl⟩
        rw [← ht] at c0 c1 c2 c3 c4 hbd n2 n3
        obtain ⟨t0, t1, x2, x3, x4⟩ := t
        have d0 : wr.cell? ⟨g, j * 5, none⟩ = some (.int .i64 t0) := c0
        have d1 : wr.cell? ⟨g, j * 5 + 1, none⟩ = some (.int .i64 t1) := c1
        have d2 : wr.cell? ⟨g, j * 5 + 2, none⟩ = some (.int .i64 x2) := c2
        have d3 : wr.cell? ⟨g, j * 5 + 3, none⟩ = some (.int .i64 x3) := c3
        have d4 : wr.cell? ⟨g, j * 5 + 4, none⟩ = some (.int .i64 x4) := c4
        obtain ⟨S2, hS2⟩ : ∃ q, q = bxS L 2 j := ⟨_, rfl⟩
        obtain ⟨S3, hS3⟩ : ∃ q, q = bxS L 3 j := ⟨_, rfl⟩
        rw [← hS2] at s2 n2 ⊢
        rw [← hS3] at s3 n3 ⊢
        have n2' : bxS L 2 (j + 1) = S2 + x2 * x4 := n2
        have n3' : bxS L 3 (j + 1) = S3 + x3 * x4 := n3
        have hbd' : (-6 ≤ x2 ∧ x2 ≤ 6) ∧ (-6 ≤ x3 ∧ x3 ≤ 6) ∧ (1 ≤ x4 ∧ x4 ≤ 6) := hbd
        have m2 := mulB2 (x := x2) (y := x4) (A := 6) (B := 6) hbd'.1 (by omega)
        have m3 := mulB2 (x := x3) (y := x4) (A := 6) (B := 6) hbd'.2.1 (by omega)
        have q1 : IntKind.i64.wrap (x2 * x4) = x2 * x4 := IntWalk.i64_in _ (by omega)
        have q2 : IntKind.i64.wrap (S2 + x2 * x4) = S2 + x2 * x4 := IntWalk.i64_in _ (by omega)
        have q3 : IntKind.i64.wrap (x3 * x4) = x3 * x4 := IntWalk.i64_in _ (by omega)
        have q4 : IntKind.i64.wrap (S3 + x3 * x4) = S3 + x3 * x4 := IntWalk.i64_in _ (by omega)
        have HNX := Lib.hid (And.intro n2' n3')
        have HB := Lib.hid (hb.alloc hb.size (.cells #[.int .i64 t0, .int .i64 t1, .int .i64 x2, .int .i64 x3, .int .i64 x4] 69))
        clear hc c0 c1 c2 c3 c4 ht hS2 hS3 n2 n3 n2' n3' m2 m3 hbd hbd' hb
        go_wp2
        go_roundw
        case rel => exact ⟨j + 1, by omega, by go_num, by rw [HNX.out.1], by rw [HNX.out.2], HB.out⟩
        case measure => simp [intOf]; omega
      · obtain rfl : j = n := by omega
        go_wp2
        go_ret3
        exact givesBa_of (by rw [HX.out.1, ← HN.out]) (by rw [HX.out.2, ← HN.out]) HQ.out (bel2 HB2.out hb)
end Go.Proofs.YtbapepflfgcioaaGreat
/-
  slices.Grow and slices.Concat at slices of integers, wherever they lie: what the calls return.
  Condition: the slices read as the lists that are named.
-/
namespace Go.Proofs.YtbapepflfgcioaaGreat
set_option linter.unusedSimpArgs false
set_option linter.unusedVariables false
open Go.ChangeShapes Go.WideShapes Go.ChangeAt Go.RowKit
open Go.Sort (grow)

theorem ints_oneJ (zs : List Int) : ∀ u ∈ ints zs, u.oneCell' = true := fun u hu => by
  simp only [ints, List.mem_map] at hu
  obtain ⟨y, -, rfl⟩ := hu
  rfl
/-- A slice value with an address, from which on it reads as a list. -/
def RdA (w : World) (v : Value) (zs : List Int) : Prop := ∃ ad cap, v = .slice (some ad) zs.length cap ∧ ∀ j u, (ints zs)[j]? = some u → w.cell? (ad.add j) = some u
theorem RdA.below {w w' : World} {v : Value} {zs : List Int} (h : RdA w v zs) (hb : Below w.heap.size w w') : RdA w' v zs := by
  obtain ⟨ad, cap, h1, h2⟩ := h
  exact ⟨ad, cap, h1, fun j u hu => (hb.cell (p := ad.add j) (cell_lt (h2 j u hu))).trans (h2 j u hu)⟩
theorem IS.rda {w : World} {B : Nat} {v : Value} {zs : List Int} (h : IS w B v zs) (h0 : 0 < zs.length) : RdA w v zs := by
  obtain ⟨A, cap, rfl, hm, hp⟩ := h.parts
  obtain ⟨g, rfl, -⟩ := hp 0 h0
  refine ⟨⟨g, 0, none⟩, cap, rfl, fun j u hu => ?_⟩
  have hj : j < zs.length := by
    rcases Nat.lt_or_ge j zs.length with h' | h'
    · exact h'
    · rw [List.getElem?_eq_none (by simp [ints]; omega)] at hu; cases hu
  obtain ⟨g', hg, hc⟩ := hp j hj
  cases hg
  rw [add_zero, hc]
  rw [gd_eq _ _ hj]
  simpa [ints, List.getElem?_eq_getElem hj] using hu
set_option maxHeartbeats 1000000 in
set_option maxRecDepth 100000 in
theorem growJ_nil (w : World) (n : Nat) (hn : n ≤ 1000000) : Calls Tryz.prog 77 #[.slice none 0 0, .int .i64 (n : Int)] w fun e w' => ∃ r, e = .returned r ∧ w'.ownsRow w.heap.size 3 1 r 0 [] ∧ Below w.heap.size w w' := by
  obtain ⟨i0, hi, hz0, hz1, hz2⟩ := info_parts infoInt
  by_cases h0 : 0 < n
  · have hrun := fun ty => Lib.run_append_nil_zeros (P := Tryz.prog) w 49 3 ty 3 i0 (.int .i64 0) .i64 .i64 Tryz.underlying49 Tryz.underlying3 hi hz0 n h0 (by omega) (by omega) (by rw [hz2]; omega)
    have HC := Lib.hid (And.intro (grownCap_ge w n 0 3) (grownCap_le_maxLen w n 0 3 (by unfold maxLen; omega)))
    obtain ⟨c, hc⟩ : ∃ c, c = grownCap w n 0 3 := ⟨_, rfl⟩
    rw [← hc] at hrun HC
    obtain ⟨cs, hcs⟩ : ∃ cs, cs = Builtin.zeroCells (.int .i64 0 : Value).cells n ++ Builtin.zeroCells (.int .i64 0 : Value).cells (c - n) := ⟨_, rfl⟩
    rw [← hcs] at hrun
    have HZ := Lib.hid (show cs.size = c * 1 by
      rw [hcs, Array.size_append, size_zeroCells, size_zeroCells]
      show n * 1 + (c - n) * 1 = c * 1
      have := HC.out.1
      omega)
    have HR := Lib.hid hrun
    have hcl := HC.out.1
    clear hc hcs hrun
    go_enter Tryz.func77, Tryz.ntmps77
    go_wp2_with (at_builtin; refine Lib.wpList_append_run _ rfl _ _ _ _ rfl _ _ rfl rfl _ _ (HR.out _) ?_)
    go_wp2
    go_ret
    refine ⟨_, rfl, ⟨rfl, .inr ⟨w.heap.size, c, cs, rfl, Nat.le_refl _, heap_alloc_new w.drew _, by omega, HC.out.2, HZ.out, by simp⟩⟩, ((Below.refl _ _).drew).alloc (by simp) _⟩
  · obtain rfl : n = 0 := by omega
    go_enter Tryz.func77, Tryz.ntmps77
    go_wp2
    go_ret
    exact ⟨_, rfl, World.ownsRow_nil _ _ _ 1, Below.refl _ _⟩
def flC (P : VL) (k : Nat) : List Int := ((lls P).take k).flatten
theorem flC_zero (P : VL) : flC P 0 = [] := by simp [flC]
theorem flC_next {P : VL} {k : Nat} (hk : k < P.length) : flC P (k + 1) = flC P k ++ pll P k := by
  unfold flC
  have h1 : k < (lls P).length := by rw [lls_len]; exact hk
  rw [List.take_add_one, List.getElem?_eq_getElem h1, lls_get hk h1]
  simp
theorem flC_len {P : VL} (h : ∀ k, k < P.length → (pll P k).length ≤ 2000) : ∀ k, k ≤ P.length → (flC P k).length ≤ 2000 * k
  | 0, _ => by simp [flC]
  | k + 1, hk => by
    have := flC_len h k (by omega)
    have := h k (by omega)
    rw [flC_next (by omega), List.length_append]; omega
set_option maxHeartbeats 2000000 in
set_option maxRecDepth 100000 in
theorem concatR_any (w : World) (G cap : Nat) (P : VL) (hp : ∀ k, k < P.length → w.cell? ⟨G, k, none⟩ = some (pvl P k)) (hv : ∀ k, k < P.length → RdA w (pvl P k) (pll P k)) (hn : P.length ≤ 100) (h12 : ∀ k, k < P.length → (pll P k).length ≤ 2000) : Calls Tryz.prog 39 #[.slice (some ⟨G, 0, none⟩) P.length cap] w fun e w' => GivesI (flC P P.length) w e w' := by
  have HP := Lib.hid hp
  have HV := Lib.hid hv
  have H12 := Lib.hid h12
  have HFL := Lib.hid (flC_len h12)
  obtain ⟨n, hne⟩ : ∃ n, n = P.length := ⟨_, rfl⟩
  have HN := Lib.hid hne
  rw [← hne] at hn ⊢
  obtain ⟨i0, hi, hz0, hz1, hz2⟩ := info_parts infoInt
  clear hp hv h12 hne
  go_enter Tryz.func39, Tryz.ntmps39
  go_wp2
  go_loopw [3, 11] (fun o i wr => ∃ k : Nat, k ≤ n ∧ i = .int .i64 k ∧ (∃ m : Nat, o = .int .i64 m ∧ m ≤ 2000 * k) ∧ w = wr) (fun _ i _ => n - (intOf i).toNat)
  case atStart => exact ⟨0, by omega, rfl, ⟨0, rfl, by omega⟩, rfl⟩
  case round =>
    obtain ⟨k, hk, rfl, ⟨m, rfl, hm⟩, rfl⟩ := hrel
    by_cases hlt : k < n
    · have hkp : k < P.length := by rw [← HN.out]; exact hlt
      have hc := HP.out k hkp
      have hz := H12.out k hkp
      obtain ⟨A', cap', hv, -⟩ := HV.out k hkp
      rw [hv] at hc
      obtain ⟨q, hq⟩ : ∃ q, q = (pll P k).length := ⟨_, rfl⟩
      rw [← hq] at hc hz
      clear hv hq hkp
      have q1 : IntKind.i64.wrap ((m : Int) + q) = ((m + q : Nat) : Int) := by rw [IntWalk.i64_in _ (by omega)]; omega
      have q2 : ¬ (((m + q : Nat) : Int) < 0) := by omega
      go_wp2
      go_roundw
      case rel => exact ⟨k + 1, by omega, by go_num, ⟨m + q, by first | rfl | go_num, by omega⟩, by first | rfl | trivial⟩
      case measure => simp [intOf]; omega
    · obtain rfl : k = n := by omega
      go_wp2_with fail
      refine (growJ_nil _ m (by omega)).mono ?_
      rintro e w1 ⟨r, rfl, hr, b1⟩
      go_wp2
      go_loopw [6, 27] (fun o i wr => ∃ j : Nat, j ≤ k ∧ i = .int .i64 j ∧ wr.ownsRow w.heap.size 3 1 o (flC P j).length (ints (flC P j)) ∧ Below w.heap.size w wr) (fun _ i _ => k - (intOf i).toNat)
      case atStart => exact ⟨0, by omega, rfl, by rw [flC_zero]; exact hr, b1⟩
      case round =>
        obtain ⟨j, hj, rfl, ho, hb⟩ := hrel
        clear hr
        by_cases hltj : j < k
        · have hjp : j < P.length := by rw [← HN.out]; exact hltj
          have hc := box_o (HP.out j hjp) hb
          have lG : G < wr.heap.size := cell_lt hc
          have his := (HV.out j hjp).below hb
          have hfl := HFL.out j (by omega)
          have hz := H12.out j hjp
          obtain ⟨ad, cap', hv, hnews⟩ := his
          have HX := Lib.hid (flC_next hjp)
          rw [hv] at hc
          have HZ := Lib.hid (show (ints (pll P j)).length = (pll P j).length * 1 by simp [ints])
          have HW := Lib.hid hnews
          obtain ⟨zs, hzs⟩ : ∃ zs, zs = pll P j := ⟨_, rfl⟩
          rw [← hzs] at hc HX HZ HW hz
          clear hv hnews hzs
          have hs := hb.size
          go_wp2_with (at_builtin; refine wpList_append_own _ rfl _ _ 49 rfl w.heap.size 3 i0 (.int .i64 0) 1 8 Tryz.underlying49 hi hz0 hz1 hz2 rfl (by decide) _ (flC P j).length _ rfl ho ad zs.length _ (ints zs) rfl HZ.out HW.out (ints_oneJ _) (by unfold maxLen; omega) (by omega) (by omega) ?_; intro v' w2 hown2 hgrow2 hnil2)
          have hb2 : Below w.heap.size w w2 := hb.grown hgrow2 hs (fun q hq => (World.ownsRow.lt ho q hq).1)
          have hrow : w2.ownsRow w.heap.size 3 1 v' (flC P (j + 1)).length (ints (flC P (j + 1))) := by
            rw [HX.out, List.length_append]
            unfold ints at hown2 ⊢
            rw [List.map_append]
            exact hown2
          clear hown2 hgrow2 hnil2 ho hb hc
          go_wp2
          go_roundw
          case rel => exact ⟨j + 1, by omega, by go_num, hrow, hb2⟩
          case measure => simp [intOf]; omega
        · obtain rfl : j = k := by omega
          go_wp2
          go_ret
          exact ⟨_, rfl, ho, hb⟩
end Go.Proofs.YtbapepflfgcioaaGreat
/-
  LoopsOf of both; a cell by its number, of both.
  Condition: the slice reads as the terms that are named.
-/
namespace Go.Proofs.YtbapepflfgcioaaGreat
set_option linter.unusedSimpArgs false
set_option linter.unusedVariables false
open Go.ChangeShapes Go.WideShapes Go.ChangeAt Go.RowKit Go.Maps
open Go.Sort (grow)

/-- No edge has more than two cells. -/
theorem clL_two {l : List Tm} (hl : plB l = true) (e : List Int) : (clL l (ceL l).length e).length ≤ 2 := by
  unfold clL
  rw [List.length_map]
  obtain ⟨F, hF⟩ : ∃ F, F = (List.range (ceL l).length).filter fun c : Nat => decide (e ∈ sdL l ((ceL l).getD c [])) := ⟨_, rfl⟩
  rw [← hF]
  apply Classical.byContradiction
  intro h3
  have hpw : F.Pairwise (· < ·) := by rw [hF]; exact List.Pairwise.filter _ List.pairwise_lt_range
  have hmem : ∀ c ∈ F, c < (ceL l).length ∧ e ∈ sdL l ((ceL l).getD c []) := fun c hc => by
    rw [hF, List.mem_filter, List.mem_range] at hc
    exact ⟨hc.1, by simpa using hc.2⟩
  have hm : ∀ j (hj : j < F.length), F[j] < (ceL l).length ∧ e ∈ sdL l ((ceL l).getD F[j] []) := fun j hj => hmem _ (List.getElem_mem hj)
  have q := fun a b (ha : a < F.length) (hb : b < F.length) (hab : a < b) => List.pairwise_iff_getElem.1 hpw a b ha hb hab
  have q1 := q 0 1 (by omega) (by omega) (by omega)
  have q2 := q 1 2 (by omega) (by omega) (by omega)
  have m0 := hm 0 (by omega)
  have m1 := hm 1 (by omega)
  have m2 := hm 2 (by omega)
  generalize F[0] = c0 at *
  generalize F[1] = c1 at *
  generalize F[2] = c2 at *
  obtain ⟨i, k, hik, hk, rfl, ⟨i0, k0⟩, s0⟩ := side_of hl (ceL_at m0.1) m0.2
  obtain ⟨i', k', hik', hk', e1, ⟨i1, k1⟩, s1⟩ := side_of hl (ceL_at m1.1) m1.2
  obtain ⟨i'', k'', hik'', hk'', e2, ⟨i2, k2⟩, s2⟩ := side_of hl (ceL_at m2.1) m2.2
  simp only [List.cons.injEq, and_true] at e1 e2
  obtain rfl : i = i' := by omega
  obtain rfl : k = k' := by omega
  obtain rfl : i = i'' := by omega
  obtain rfl : k = k'' := by omega
  have hne := ptO_ne hl (show i < l.length by omega) hk (by omega : i ≠ k)
  have up := fun {c d : Nat} (hc : c < (ceL l).length) (hd : d < (ceL l).length) => fun (ic : (i : Int) ∈ (ceL l).getD c []) (kc : (k : Int) ∈ (ceL l).getD c []) (id : (i : Int) ∈ (ceL l).getD d []) (kd : (k : Int) ∈ (ceL l).getD d []) (h : (LefC l ((ceL l).getD c []) i k ∧ LefC l ((ceL l).getD d []) i k) ∨ (LefC l ((ceL l).getD c []) k i ∧ LefC l ((ceL l).getD d []) k i)) => show c = d from by
    rcases h with ⟨h1, h2⟩ | ⟨h1, h2⟩
    · exact ceL_nodup l hc hd (same_cell (ceL_at hc) (ceL_at hd) hne ic kc id kd h1 h2)
    · exact ceL_nodup l hc hd (same_cell (ceL_at hc) (ceL_at hd) (fun e => hne e.symm) kc ic kd id h1 h2)
  rcases s0 with s0 | s0 <;> rcases s1 with s1 | s1 <;> rcases s2 with s2 | s2
  · have := up m0.1 m1.1 i0 k0 i1 k1 (.inl ⟨s0, s1⟩); omega
  · have := up m0.1 m1.1 i0 k0 i1 k1 (.inl ⟨s0, s1⟩); omega
  · have := up m0.1 m2.1 i0 k0 i2 k2 (.inl ⟨s0, s2⟩); omega
  · have := up m1.1 m2.1 i1 k1 i2 k2 (.inr ⟨s1, s2⟩); omega
  · have := up m1.1 m2.1 i1 k1 i2 k2 (.inl ⟨s1, s2⟩); omega
  · have := up m0.1 m2.1 i0 k0 i2 k2 (.inr ⟨s0, s2⟩); omega
  · have := up m0.1 m1.1 i0 k0 i1 k1 (.inr ⟨s0, s1⟩); omega
  · have := up m0.1 m1.1 i0 k0 i1 k1 (.inr ⟨s0, s1⟩); omega

def loR (l : List Tm) : Int := if plB l = true then (if (ceL l).length = 0 then 0 else ((edM2 l 2).length : Int) - ((ceL l).length : Int) + 1) else 0
theorem loR_no {l : List Tm} (h : plB l = false) : loR l = 0 := if_neg (by simp [h])
theorem loR_zero {l : List Tm} (h : plB l = true) (h0 : (ceL l).length = 0) : loR l = 0 := by unfold loR; rw [if_pos h, if_pos h0]
theorem loR_yes {l : List Tm} (h : plB l = true) (h0 : ¬ (ceL l).length = 0) : loR l = ((edM2 l 2).length : Int) - ((ceL l).length : Int) + 1 := by unfold loR; rw [if_pos h, if_neg h0]
set_option maxHeartbeats 1000000 in
theorem specLoopsOf_any (w : World) (B : Nat) (v : Value) (l : List Tm) (h : TmS w B v l) : Calls Tryz.prog 28 #[v] w fun e w' => GivesIL (loR l) (plB l) w e w' := by
  cases hl : plB l
  · have HL := Lib.hid hl
    clear hl
    go_enter Tryz.func28, Tryz.ntmps28
    go_wp2_with fail
    refine (plGood_any _ B _ l h).mono ?_
    rintro e w1 ⟨rfl, b1⟩
    rw [HL.out]
    go_wp2
    go_ret2
    exact ⟨ret_il (loR_no HL.out).symm rfl, b1⟩
  · have HL := Lib.hid hl
    clear hl
    go_enter Tryz.func28, Tryz.ntmps28
    go_wp2_with fail
    refine (plGood_any _ B _ l h).mono ?_
    rintro e w1 ⟨rfl, b1⟩
    rw [HL.out]
    go_wp2_with fail
    refine (ceOf_any w1 B _ l (FS.below h b1) HL.out).mono ?_
    rintro e w2 ⟨r, P, rfl, hLS, hP, b2⟩
    have H2 := Lib.hid (FS.below (FS.below h b1) b2)
    have HB := Lib.hid (bel2 b1 b2)
    obtain ⟨A, cap, rfl, -, -⟩ := hLS.parts
    have hle := ceL_len (plB_le HL.out).2
    have hnp : P.length = (ceL l).length := by rw [← hP, lls_len]
    rw [hnp]
    obtain ⟨n, hn⟩ : ∃ n, n = (ceL l).length := ⟨_, rfl⟩
    have HN := Lib.hid hn
    rw [← hn] at hle ⊢
    obtain ⟨At, capt, rfl, -, -⟩ := TmS.parts h
    clear h b1 b2 hLS hP hnp hn
    by_cases h0 : n = 0
    · have HZ := Lib.hid (show loR l = 0 from loR_zero HL.out (by rw [← HN.out]; exact h0))
      subst h0
      go_wp2
      go_ret2
      exact ⟨ret_il HZ.out.symm rfl, HB.out⟩
    · have h0' : ¬ (n : Int) = 0 := by omega
      go_wp2_with fail
      refine (ceEdges_any w2 B _ l true H2.out HL.out).mono ?_
      rintro e w3 ⟨r3, P3, rfl, hLS3, hP3, b3⟩
      have hP3' : lls P3 = edM2 l 2 := hP3
      obtain ⟨A3, cap3, rfl, -, -⟩ := hLS3.parts
      have hm3 : P3.length = (edM2 l 2).length := by rw [← hP3', lls_len]
      have hme := edM2_le (n := 2) (plB_le HL.out).2
      rw [hm3]
      have HR := Lib.hid (show loR l = ((edM2 l 2).length : Int) - (n : Int) + 1 by rw [HN.out]; exact loR_yes HL.out (by rw [← HN.out]; exact h0))
      obtain ⟨m, hm⟩ : ∃ m, m = (edM2 l 2).length := ⟨_, rfl⟩
      rw [← hm] at HR hme ⊢
      have q1 : IntKind.i64.wrap ((m : Int) - (n : Int)) = (m : Int) - (n : Int) := IntWalk.i64_in _ (by omega)
      have q2 : IntKind.i64.wrap ((m : Int) - (n : Int) + 1) = (m : Int) - (n : Int) + 1 := IntWalk.i64_in _ (by omega)
      clear hLS3 hP3 hP3' hm3 hm
      go_wp2
      go_ret2
      exact ⟨ret_il HR.out.symm rfl, bel2 HB.out b3⟩
set_option maxHeartbeats 1000000 in
theorem implLoopsOf_any (w : World) (B : Nat) (v : Value) (l : List Tm) (h : TmS w B v l) : Calls Tryz.prog 29 #[v] w fun e w' => GivesIL (loR l) (plB l) w e w' := by
  cases hl : plB l
  · have HL := Lib.hid hl
    clear hl
    go_enter Tryz.func29, Tryz.ntmps29
    go_wp2_with fail
    refine (implCellsOf_any _ B _ l h).mono ?_
    rintro e w1 ⟨r, P, rfl, hLS, hP, b1⟩
    rw [HL.out]
    clear hLS hP
    go_wp2
    go_ret2
    exact ⟨ret_il (loR_no HL.out).symm rfl, b1⟩
  · have HL := Lib.hid hl
    clear hl
    go_enter Tryz.func29, Tryz.ntmps29
    go_wp2_with fail
    refine (implCellsOf_any _ B _ l h).mono ?_
    rintro e w2 ⟨r, P, rfl, hLS, hP, b1⟩
    rw [ceR_yes HL.out] at hP
    rw [HL.out]
    have H2 := Lib.hid (FS.below h b1)
    have HB := Lib.hid b1
    obtain ⟨A, cap, rfl, -, -⟩ := hLS.parts
    have hle := ceL_len (plB_le HL.out).2
    have hnp : P.length = (ceL l).length := by rw [← hP, lls_len]
    rw [hnp]
    obtain ⟨n, hn⟩ : ∃ n, n = (ceL l).length := ⟨_, rfl⟩
    have HN := Lib.hid hn
    rw [← hn] at hle ⊢
    obtain ⟨At, capt, rfl, -, -⟩ := TmS.parts h
    clear h b1 hLS hP hnp hn
    by_cases h0 : n = 0
    · have HZ := Lib.hid (show loR l = 0 from loR_zero HL.out (by rw [← HN.out]; exact h0))
      subst h0
      go_wp2
      go_ret2
      exact ⟨ret_il HZ.out.symm rfl, HB.out⟩
    · have h0' : ¬ (n : Int) = 0 := by omega
      go_wp2_with fail
      refine (edgesOfMany_any w2 B _ l 2 H2.out HL.out (by omega) (by omega)).mono ?_
      rintro e w3 ⟨r3, P3, rfl, hLS3, hP3, b3⟩
      obtain ⟨A3, cap3, rfl, -, -⟩ := hLS3.parts
      have hm3 : P3.length = (edM2 l 2).length := by rw [← hP3, lls_len]
      have hme := edM2_le (n := 2) (plB_le HL.out).2
      rw [hm3]
      have HR := Lib.hid (show loR l = ((edM2 l 2).length : Int) - (n : Int) + 1 by rw [HN.out]; exact loR_yes HL.out (by rw [← HN.out]; exact h0))
      obtain ⟨m, hm⟩ : ∃ m, m = (edM2 l 2).length := ⟨_, rfl⟩
      rw [← hm] at HR hme ⊢
      have q1 : IntKind.i64.wrap ((m : Int) - (n : Int)) = (m : Int) - (n : Int) := IntWalk.i64_in _ (by omega)
      have q2 : IntKind.i64.wrap ((m : Int) - (n : Int) + 1) = (m : Int) - (n : Int) + 1 := IntWalk.i64_in _ (by omega)
      clear hLS3 hP3 hm3 hm
      go_wp2
      go_ret2
      exact ⟨ret_il HR.out.symm rfl, bel2 HB.out b3⟩
end Go.Proofs.YtbapepflfgcioaaGreat
/-
  The cells at a side, of both; SegmentsOf of both.
  Condition: the slice reads as the terms that are named.
-/
namespace Go.Proofs.YtbapepflfgcioaaGreat
set_option linter.unusedSimpArgs false
set_option linter.unusedVariables false
open Go.ChangeShapes Go.WideShapes Go.ChangeAt Go.RowKit Go.Maps
open Go.Sort (grow)

theorem clM_zero (l : List Tm) (e : List Int) : clM l 0 [] e = [] := by rw [clM_nil]; simp [clL]
theorem clL_pos {l : List Tm} {k : Nat} (hk : k ≤ (ceL l).length) {e : List Int} (h : 1 ≤ cntN l k e) : clL l k e ≠ [] := (clL_ne hk e).2 h
theorem clL_le (l : List Tm) (k : Nat) (e : List Int) : (clL l k e).length ≤ k := by
  unfold clL
  have := List.length_filter_le (fun c : Nat => decide (e ∈ sdL l ((ceL l).getD c []))) (List.range k)
  rw [List.length_range] at this
  rw [List.length_map]; exact this
theorem one_at (w : World) (v : Value) (g : Nat) (hg : w.heap.size = g) : (w.alloc (.cells #[v] 3)).cell? ⟨g, 0, none⟩ = some v := by
  subst hg
  exact cell_of_row (w.alloc (.cells #[v] 3)) w.heap.size 0 #[v] 3 (0, 0) (heap_alloc_new w _)
set_option maxHeartbeats 4000000 in
set_option maxRecDepth 100000 in
theorem cuAt_any (w : World) (B B' : Nat) (v s : Value) (l : List Tm) (e0 : List Int) (h : TmS w B v l) (hs : IS w B' s e0) (hl : plB l = true) :
    Calls Tryz.prog 35 #[v, s] w fun e w' => ∃ r, e = .returned r ∧ IS w' w.heap.size r (clL l (ceL l).length e0) ∧ Below w.heap.size w w' := by
  have HL := Lib.hid hl
  have H12 := Lib.hid (plB_le hl).2
  go_enter Tryz.func35, Tryz.ntmps35
  go_wp2_with fail
  refine (ceOf_any w B _ l h hl).mono ?_
  rintro e w2 ⟨r, C, rfl, hC, eC, b2⟩
  have H2 := Lib.hid (FS.below h b2)
  have HS2 := Lib.hid (hs.below b2)
  have HB2 := Lib.hid b2
  obtain ⟨A, cap, rfl, -, hp⟩ := hC.parts
  have HP := Lib.hid hp
  have HV := Lib.hid hC.2
  have HEC := Lib.hid eC
  have hle := ceL_len H12.out
  obtain ⟨n, hn⟩ : ∃ n, n = C.length := ⟨_, rfl⟩
  have hnc : n = (ceL l).length := by rw [hn, ← eC, lls_len]
  rw [← hnc] at hle
  have HN := Lib.hid hn
  have HNC := Lib.hid hnc
  rw [← hn]
  obtain ⟨i0, hi, hz0, hz1, hz2⟩ := info_parts infoInt
  clear h hs hl hC eC hp b2 hn hnc
  go_wp2
  go_loopw [5, 13] (fun o i wr => ∃ k : Nat, k ≤ n ∧ i = .int .i64 k ∧ Hid (IS wr w2.heap.size o (clL l k e0)) ∧ Below w2.heap.size w2 wr) (fun _ i _ => n - (intOf i).toNat)
  case atStart => exact ⟨0, by omega, rfl, Lib.hid (by rw [← clM_nil, clM_zero]; exact IS.nil_ _ _), Below.refl _ _⟩
  case round =>
    obtain ⟨k, hk, rfl, hst, hb⟩ := hrel
    by_cases hlt : k < n
    · obtain ⟨wO, hwO⟩ : ∃ wO, wO = wr := ⟨_, rfl⟩
      rw [← hwO] at hst hb ⊢
      clear hwO wr
      have hkc : k < C.length := by rw [← HN.out]; exact hlt
      obtain ⟨g, rfl, hc0⟩ := HP.out k hkc
      have hc := X3.below.box_old3 hc0 hb
      have his := (HV.out.at hkc).below hb
      have hcl := cell_in HEC.out hkc
      have hcg := pll_get HEC.out hkc
      have htm := FS.below H2.out hb
      obtain ⟨cv, hcv⟩ : ∃ cv, cv = pvl C k := ⟨_, rfl⟩
      obtain ⟨zs, hzs⟩ : ∃ zs, zs = pll C k := ⟨_, rfl⟩
      rw [← hcv] at hc his
      rw [← hzs] at his hcl hcg
      clear hc0 hcv hzs
      go_wp2_with fail
      refine (ceSides_any wO B _ _ _ l zs htm his HL.out hcl).mono ?_
      rintro e w3 ⟨rs, R, rfl, hRS, hR, b3⟩
      have hst3 := Lib.hid (hst.out.below b3)
      have HS3 := Lib.hid ((HS2.out.below hb).below b3)
      have HRM := Lib.hid (show ∀ e, e ∈ lls R ↔ e ∈ sdL l ((ceL l).getD k []) from fun e => by rw [hR, setX_mem totLx, hcg])
      have HRN := Lib.hid (show (lls R).Nodup by rw [hR]; exact inc_nodup (setX_inc totLx _))
      obtain ⟨A3, cap3, rfl, -, hp3⟩ := hRS.parts
      have HP3 := Lib.hid hp3
      have HV3 := Lib.hid hRS.2
      have hrl : R.length ≤ 12 := by
        rw [← lls_len, hR]
        have h1 := setX_len (sdL l zs)
        have h2 := hc_le hcl H12.out
        rw [← sdL_len] at h2
        omega
      obtain ⟨nr, hnr⟩ : ∃ nr, nr = R.length := ⟨_, rfl⟩
      have HNR := Lib.hid hnr
      rw [← hnr] at hrl ⊢
      have HB3 := Lib.hid (bel2 hb b3)
      have hs3 : w2.heap.size ≤ w3.heap.size := (bel2 hb b3).size
      have HST0 := Lib.hid (show IS w3 w2.heap.size u5 (clM l k [] e0) by rw [clM_nil]; exact hst3.out)
      have HLT0 := Lib.hid (fun q (hq : u5.ownBlock = some q) => (hst.out.lt q hq).2)
      have HAF3 := Lib.hid (show ∀ g, A3 = some ⟨g, 0, none⟩ → wO.heap.size ≤ g ∧ g < w3.heap.size from fun g hg => by subst hg; exact World.ownsRow.lt hRS.1 g rfl)
      have hO2 : w2.heap.size ≤ wO.heap.size := hb.size
      have hO3 : wO.heap.size ≤ w3.heap.size := b3.size
      clear hst hst3 hc his htm hcl hcg hRS hR hp3 b3 hb hnr
      go_wp2
      go_loopw [5, 22] (fun o i wr => ∃ j : Nat, j ≤ nr ∧ i = .int .i64 j ∧ Hid (IS wr w2.heap.size o (clM l k ((lls R).take j) e0) ∧ ∀ q, o.ownBlock = some q → q < wO.heap.size ∨ w3.heap.size ≤ q) ∧ Hid (∀ i, wO.heap.size ≤ i → i < w3.heap.size → wr.heap[i]? = w3.heap[i]?) ∧ Hid (Below w2.heap.size w2 wr) ∧ w3.heap.size ≤ wr.heap.size) (fun _ i _ => nr - (intOf i).toNat)
      case atStart => exact ⟨0, by omega, rfl, Lib.hid ⟨HST0.out, fun q hq => .inl (HLT0.out q hq)⟩, Lib.hid (fun i _ _ => rfl), HB3, Nat.le_refl _⟩
      case round =>
        clear HST0 HLT0 HS3
        obtain ⟨j, hj, rfl, hst, hkp, hb, hsz⟩ := hrel
        by_cases hltj : j < nr
        · have hjr : j < R.length := by rw [← HNR.out]; exact hltj
          have hjl : j < (lls R).length := by rw [lls_len]; exact hjr
          obtain ⟨g3, rfl, ha0⟩ := HP3.out j hjr
          have hg3 := HAF3.out g3 rfl
          have ha : wr.cell? ⟨g3, j, none⟩ = some (pvl R j) := by
            have hbl := hkp.out g3 hg3.1 hg3.2
            unfold World.cell? at ha0 ⊢; rw [hbl]; exact ha0
          have hxi := (HV3.out.at hjr)
          have hx : IS wr wO.heap.size (pvl R j) (pll R j) := hxi.keep fun q hq => hkp.out q (hxi.lt q hq).1 (hxi.lt q hq).2
          have hs := HS2.out.below hb.out
          have HTK := Lib.hid (show (lls R).take (j + 1) = (lls R).take j ++ [pll R j] by
            rw [List.take_add_one, List.getElem?_eq_getElem hjl, lls_get hjr hjl]; rfl)
          have HNI := Lib.hid (show pll R j ∉ (lls R).take j from fun hm => by
            obtain ⟨i, hi, e⟩ := List.getElem_of_mem hm
            rw [List.length_take] at hi
            rw [List.getElem_take] at e
            have h1 : i < (lls R).length := by omega
            have := List.pairwise_iff_getElem.1 (List.nodup_iff_pairwise_ne.1 HRN.out) i j h1 hjl (by omega)
            rw [e, lls_get hjr hjl] at this
            exact this rfl)
          have HSAME := Lib.hid (l1Same_any wr _ _ _ _ _ _ hx hs)
          obtain ⟨xv, hxv⟩ : ∃ xv, xv = pvl R j := ⟨_, rfl⟩
          obtain ⟨ys, hys⟩ : ∃ ys, ys = pll R j := ⟨_, rfl⟩
          rw [← hxv] at ha HSAME
          rw [← hys] at HSAME HTK HNI
          have lg : g3 < wr.heap.size := cell_lt ha
          clear ha0 hxi hx hs hxv hys hjl
          cases hd : decide (ys = e0)
          · have hne : e0 ≠ ys := fun e => (of_decide_eq_false hd) e.symm
            have HE := Lib.hid (show IS wr w2.heap.size u5 (clM l k ((lls R).take (j + 1)) e0) ∧ ∀ q, u5.ownBlock = some q → q < wO.heap.size ∨ w3.heap.size ≤ q from by
              rw [HTK.out, clM_other hne]; exact hst.out)
            rw [hd] at HSAME
            clear hd hst
            go_wp2_with fail
            refine HSAME.out.mono ?_
            rintro e w5 ⟨rfl, nq, rfl⟩
            have HE5 := Lib.hid (show IS (wr.drewN nq) w2.heap.size u5 (clM l k ((lls R).take (j + 1)) e0) ∧ ∀ q, u5.ownBlock = some q → q < wO.heap.size ∨ w3.heap.size ≤ q from ⟨HE.out.1.drewN nq, HE.out.2⟩)
            have HK5 := Lib.hid (show ∀ i, wO.heap.size ≤ i → i < w3.heap.size → (wr.drewN nq).heap[i]? = w3.heap[i]? from hkp.out)
            have HB5 := Lib.hid (belN hb.out nq)
            go_wp2
            go_roundw
            case rel => exact ⟨j + 1, by omega, by go_num, HE5, HK5, HB5, hsz⟩
            case measure => simp [intOf]; omega
          · have he := of_decide_eq_true hd
            subst he
            rw [hd] at HSAME
            have HCS := Lib.hid (clM_same HNI.out (l := l) (k := k))
            have hlen := clM_le l k ((lls R).take j) ys
            obtain ⟨L0, hL0⟩ : ∃ L0, L0 = (clM l k ((lls R).take j) ys).length := ⟨_, rfl⟩
            have HL0 := Lib.hid hL0
            rw [← hL0] at hlen
            have HST := Lib.hid hst.out
            obtain ⟨ov, hov⟩ : ∃ ov, ov = u5 := ⟨_, rfl⟩
            clear hd hst hL0
            go_wp2_with fail
            refine HSAME.out.mono ?_
            rintro e w5 ⟨rfl, nq, rfl⟩
            have hI5 : IS ((wr.drewN nq).alloc (.cells #[.int .i64 (k : Int)] 3)) w2.heap.size u5 (clM l k ((lls R).take j) ys) := (HST.out.1.drewN nq).alloc _
            have HONE := Lib.hid (show ∀ m u, [Value.int .i64 (k : Int)][m]? = some u → ((wr.drewN nq).alloc (.cells #[.int .i64 (k : Int)] 3)).cell? ((⟨wr.heap.size, 0, none⟩ : Addr).add m) = some u from oneS_news (one_at (wr.drewN nq) (.int .i64 (k : Int)) wr.heap.size rfl))
            have HI5 := Lib.hid hI5
            have hsV : ((wr.drewN nq).alloc (.cells #[.int .i64 (k : Int)] 3)).heap.size = wr.heap.size + 1 := by simp
            have hBW : w2.heap.size ≤ wr.heap.size + 1 := by omega
            clear hI5 ha lg
            go_wp2_with (at_builtin; refine wpList_append_lies _ rfl _ _ 49 rfl w2.heap.size 3 i0 (.int .i64 0) 1 8 Tryz.underlying49 hi hz0 hz1 hz2 rfl (by decide) u5 L0 _ rfl (by rw [HL0.out]; exact HI5.out) ⟨wr.heap.size, 0, none⟩ 1 1 [.int .i64 (k : Int)] rfl rfl HONE.out (by simp [Value.oneCell']) (by omega) (by unfold maxLen; omega) (by omega) (by rw [hsV]; omega) (wr.heap.size + 1) hsV ?_; intro g cap6 w6 hown6 hg6 hloc hgl)
            have hsl : w3.heap.size ≤ w6.heap.size := by have := hg6.size; rw [hsV] at this; omega
            have HE := Lib.hid (show IS w6 w2.heap.size (.slice (some ⟨g, 0, none⟩) (L0 + 1) cap6) (clM l k ((lls R).take (j + 1)) ys) ∧ ∀ q, (Value.slice (some ⟨g, 0, none⟩) (L0 + 1) cap6).ownBlock = some q → q < wO.heap.size ∨ w3.heap.size ≤ q from by
              refine ⟨?_, fun q hq => ?_⟩
              · rw [HTK.out, HCS.out]
                exact IS.snoc HL0.out hown6
              · simp only [Value.ownBlock, Option.some.injEq] at hq
                subst hq
                rcases hloc with h | h
                · exact HST.out.2 _ h
                · omega)
            have HK := Lib.hid (show ∀ i, wO.heap.size ≤ i → i < w3.heap.size → w6.heap[i]? = w3.heap[i]? from fun i h1 h2 => by
              have t6 := hg6.block i (by rw [hsV]; omega) (fun e => by have := HST.out.2 _ e.symm; omega)
              rw [t6, ← hkp.out i h1 h2]
              exact (belA1 (Below.refl (wr.drewN nq).heap.size (wr.drewN nq)) (.cells #[.int .i64 (k : Int)] 3)).block i (by show i < wr.heap.size; omega))
            have HB6 := Lib.hid (show Below w2.heap.size w2 w6 from (belA1 (belN hb.out nq) _).grown hg6 (belA1 (belN hb.out nq) _).size (fun q hq => (HST.out.1.lt q hq).1))
            clear hown6 hg6 hloc hgl hsV
            go_wp2
            go_roundw
            case rel => exact ⟨j + 1, by omega, by go_num, HE, HK, HB6, hsl⟩
            case measure => simp [intOf]; omega
        · obtain rfl : j = nr := by omega
          have HE := Lib.hid (show IS wr w2.heap.size u5 (clL l (k + 1) e0) from by
            rw [← clN_next (X := (lls R).take j) (fun e => by rw [HNR.out, ← lls_len, List.take_length]; exact HRM.out e)]
            exact hst.out.1)
          go_wp2
          go_roundw
          case rel => exact ⟨k + 1, by omega, by go_num, HE, hb.out⟩
          case measure => simp [intOf]; omega
    · obtain rfl : k = n := by omega
      go_wp2
      go_ret
      exact ⟨_, rfl, by rw [← HNC.out]; exact hst.out.base HB2.out.size, bel2 HB2.out hb⟩
def sgL (l : List Tm) : List (List Int) := (edM2 l 2).map fun e => e ++ clL l (ceL l).length e
theorem sgL_len (l : List Tm) : (sgL l).length = (edM2 l 2).length := by simp [sgL]
def sgR (l : List Tm) : List (List Int) := if plB l = true then sgL l else []
theorem sgR_yes {l : List Tm} (h : plB l = true) : sgR l = sgL l := if_pos h
theorem sgR_no {l : List Tm} (h : plB l = false) : sgR l = [] := if_neg (by simp [h])
theorem few_sg {l : List Tm} {P : VL} (h : lls P = sgR l) : FewL P := by
  cases hq : plB l
  · rw [sgR_no hq] at h
    have : P = [] := List.map_eq_nil_iff.1 h
    subst this
    exact ⟨by simp, fun p hp => by simp at hp⟩
  · rw [sgR_yes hq] at h
    have h1 := ed_few (plB_le hq).2 2
    refine ⟨by rw [← lls_len, h, sgL_len]; omega, fun p hp => ?_⟩
    have : p.2 ∈ lls P := List.mem_map.2 ⟨p, hp, rfl⟩
    rw [h] at this
    obtain ⟨e, he, hpe⟩ := List.mem_map.1 this
    obtain ⟨i, k, -, -, rfl⟩ := ea_pair (List.mem_filter.1 he).1
    have h2 := clL_two hq [(i : Int), (k : Int)]
    rw [← hpe, List.length_append, show ([(i : Int), (k : Int)] : List Int).length = 2 from rfl]
    omega
theorem sg_next (l : List Tm) {j : Nat} (hj : j < (edM2 l 2).length) {e : List Int} (he : (edM2 l 2)[j] = e) : (sgL l).take (j + 1) = (sgL l).take j ++ [e ++ clL l (ceL l).length e] := by
  rw [List.take_add_one, List.getElem?_eq_getElem (by rw [sgL_len]; exact hj)]
  subst he
  simp [sgL]
theorem sg_edge {l : List Tm} {e : List Int} (he : e ∈ edM2 l 2) : ∃ i k : Nat, i < k ∧ k < l.length ∧ e = [(i : Int), (k : Int)] ∧ 2 ≤ (clL l (ceL l).length e).length := by
  obtain ⟨i, k, h1, h2, rfl⟩ := ea_pair (List.mem_filter.1 he).1
  refine ⟨i, k, h1, h2, rfl, ?_⟩
  rw [clL_len l _ _ (Nat.le_refl _)]
  exact (edM2_mem (by omega) _).1 he
set_option maxHeartbeats 4000000 in
set_option maxRecDepth 100000 in
theorem specSegmentsOf_any (w : World) (B : Nat) (v : Value) (l : List Tm) (h : TmS w B v l) : Calls Tryz.prog 11 #[v] w fun e w' => GivesLB (plB l) (sgR l) w e w' := by
  cases hl : plB l
  · have HL := Lib.hid hl
    clear hl
    go_enter Tryz.func11, Tryz.ntmps11
    go_wp2_with fail
    refine (plGood_any _ B _ l h).mono ?_
    rintro e w1 ⟨rfl, b1⟩
    rw [HL.out]
    go_wp2
    go_ret2
    exact givesLB_nil rfl (sgR_no HL.out) b1
  · have HL := Lib.hid hl
    have H12 := Lib.hid (plB_le hl).2
    go_enter Tryz.func11, Tryz.ntmps11
    go_wp2_with fail
    refine (plGood_any _ B _ l h).mono ?_
    rintro e w1 ⟨rfl, b1⟩
    rw [HL.out]
    go_wp2_with fail
    refine (ceEdges_any w1 B _ l true (FS.below h b1) HL.out).mono ?_
    rintro e w2 ⟨rs, R, rfl, hRS, hR, b2⟩
    have hR' : lls R = edM2 l 2 := hR
    have H2 := Lib.hid (FS.below (FS.below h b1) b2)
    have HB2 := Lib.hid (bel2 b1 b2)
    have hs12 := b1.size
    have hn12 : R.length ≤ 144 := by rw [← lls_len, hR']; exact ed_few H12.out 2
    obtain ⟨A, cap, rfl, -, hp⟩ := hRS.parts
    have HP := Lib.hid hp
    have HV := Lib.hid hRS.2
    have HR := Lib.hid hR'
    obtain ⟨n, hn⟩ : ∃ n, n = R.length := ⟨_, rfl⟩
    have HN := Lib.hid hn
    rw [← hn] at hn12 ⊢
    obtain ⟨i0, hi, hz0, hz1, hz2⟩ := info_parts infoInt
    obtain ⟨j0, hj0, hy0, hy1, hy2⟩ := info_parts infoSl
    obtain ⟨At, capt, rfl, -, -⟩ := TmS.parts h
    clear h hl hRS hR hR' hp b1 b2 hn
    go_wp2
    go_loopw [4, 13] (fun o i wr => ∃ (j : Nat) (P : VL), j ≤ n ∧ i = .int .i64 j ∧ Hid (LS wr w2.heap.size o P ∧ lls P = (sgL l).take j) ∧ Below w2.heap.size w2 wr) (fun _ i _ => n - (intOf i).toNat)
    case atStart => exact ⟨0, [], by omega, rfl, Lib.hid ⟨LS.nil_ _ _, rfl⟩, Below.refl _ _⟩
    case round =>
      obtain ⟨j, P, hj, rfl, hst, hb⟩ := hrel
      by_cases hlt : j < n
      · obtain ⟨wO, hwO⟩ : ∃ wO, wO = wr := ⟨_, rfl⟩
        rw [← hwO] at hst hb ⊢
        clear hwO wr
        have hjr : j < R.length := by rw [← HN.out]; exact hlt
        have hjl : j < (edM2 l 2).length := by rw [← HR.out, lls_len]; exact hjr
        obtain ⟨g, rfl, hc0⟩ := HP.out j hjr
        have hc1 := X3.below.box_old3 hc0 hb
        have his := (HV.out.at hjr).below hb
        have hge : (edM2 l 2)[j] = pll R j := by
          have h1 := lls_get hjr (by rw [lls_len]; exact hjr)
          rw [← h1]
          exact (List.getElem_of_eq HR.out _).symm
        have hmem : pll R j ∈ edM2 l 2 := by rw [← hge]; exact List.getElem_mem _
        have hnx := sg_next l hjl hge
        obtain ⟨i, k, hik, hkl, hs, h2c⟩ := sg_edge hmem
        rw [hs] at his hnx h2c
        have h2t := clL_two HL.out [(i : Int), (k : Int)]
        have HNX := Lib.hid hnx
        have HIS := Lib.hid his
        obtain ⟨sv, hsv⟩ : ∃ sv, sv = pvl R j := ⟨_, rfl⟩
        rw [← hsv] at hc1 HIS
        obtain ⟨cl, hcl⟩ : ∃ cl, cl = clL l (ceL l).length [(i : Int), (k : Int)] := ⟨_, rfl⟩
        rw [← hcl] at HNX h2c h2t
        have HCL := Lib.hid hcl
        obtain ⟨m, hm⟩ : ∃ m, m = cl.length := ⟨_, rfl⟩
        have HM := Lib.hid hm
        rw [← hm] at h2c h2t
        have HB := Lib.hid hb
        have HST := Lib.hid hst.out
        clear hc0 his hmem hnx hge hs hsv hst hjl hcl hm
        go_wp2_with fail
        refine (l1Own_any wO sv [(i : Int), (k : Int)] HIS.out.parts (by simp) (by simp)).mono ?_
        rintro e w3 ⟨r3, rfl, hr3, b3⟩
        obtain ⟨A3, cap3, rfl, -, -⟩ := hr3.parts
        have HIS3 := Lib.hid (HIS.out.below b3)
        go_wp2_with fail
        refine (cuAt_any w3 _ _ _ sv l _ (FS.below (FS.below H2.out HB.out) b3) HIS3.out HL.out).mono ?_
        rintro e w4 ⟨r4, rfl, hr4, b4⟩
        rw [← HCL.out] at hr4
        have hr34 := hr3.below b4
        have hb34 := bel2 b3 b4
        obtain ⟨g4, cap4, rfl, hnews4⟩ := RdV.newsC hr4.parts (by rw [← HM.out]; omega)
        rw [← HM.out]
        have HN4 := Lib.hid hnews4
        have HR3 := Lib.hid hr34
        have HB34 := Lib.hid hb34
        have hs34 := hb34.size
        rw [show ([(i : Int), (k : Int)] : List Int).length = 2 from rfl] at HR3
        clear hr3 b3 hr4 b4 hr34 hb34 hnews4 HIS HIS3 hc1
        go_wp2_with (first | (at_builtin; refine wpList_append_own _ rfl _ _ 49 rfl wO.heap.size 3 i0 (.int .i64 0) 1 8 Tryz.underlying49 hi hz0 hz1 hz2 rfl (by decide) _ 2 _ rfl HR3.out ⟨g4, 0, none⟩ m _ (ints cl) rfl (by rw [HM.out]; simp [ints]) HN4.out (ints_oneC _) (by unfold maxLen; omega) (by omega) hs34 ?_; intro v5 w5 hown5 hgrow5 hnil5; have hx5 : IS w5 wO.heap.size v5 ([(i : Int), (k : Int)] ++ cl) := IS.joined (n := 2) (m := m) rfl HM.out hown5; have hb5 : Below wO.heap.size wO w5 := HB34.out.grown hgrow5 HB34.out.size (fun q hq => (World.ownsRow.lt HR3.out q hq).1); obtain ⟨A5, cap5, e5, -, -⟩ := hx5.parts; rw [show ([(i : Int), (k : Int)] ++ cl).length = 2 + m from by rw [List.length_append, ← HM.out]; rfl] at e5; subst e5; have bA : Below w5.heap.size w5 (w5.alloc (.cells #[.slice A5 (2 + m) cap5] 49)) := (Below.refl _ _).alloc (Nat.le_refl _) _; have HX6 := Lib.hid (hx5.below bA); have HB6 := Lib.hid (bel2 hb5 bA); have HNW := Lib.hid (oneS_news (litS_new w5 (.slice A5 (2 + m) cap5))); have h1c := hx5.one; have hLS6 := HST.out.1.below HB6.out; obtain ⟨np, hnp⟩ : ∃ np, np = P.length := ⟨_, rfl⟩; have HNP := Lib.hid hnp; have hnp2 : np ≤ 144 := (by rw [hnp, ← lls_len, HST.out.2, List.length_take]; omega); have hrow6 := hLS6.1; rw [← hnp] at hrow6; have hs6 := Nat.le_trans HB.out.size HB6.out.size; clear hown5 hgrow5 hnil5 hx5 hb5 bA hnp HN4 HR3 HB34 hLS6) | (at_builtin; refine wpList_append_own _ rfl _ _ 24 rfl w2.heap.size 49 j0 (.slice none 0 0) 1 24 Tryz.underlying24 hj0 hy0 hy1 hy2 rfl (by decide) _ np _ rfl hrow6 ⟨w5.heap.size, 0, none⟩ 1 1 [.slice A5 (2 + m) cap5] rfl rfl HNW.out (by simp [h1c]) (by unfold maxLen; omega) (by omega) hs6 ?_; intro v7 w7 hown7 hgrow7 hnil7))
        have hLS7 := ls_push HST.out.1 HB6.out HB.out.size HX6.out (by rw [← HNP.out]; exact hown7) hgrow7
        have HL7 := Lib.hid (And.intro hLS7 (show lls (P ++ [(.slice A5 (2 + m) cap5, [(i : Int), (k : Int)] ++ cl)]) = (sgL l).take (j + 1) by
          rw [HNX.out, ← HST.out.2]; simp [lls]))
        have hb7 : Below w2.heap.size w2 w7 := (bel2 HB.out HB6.out).grown hgrow7 (bel2 HB.out HB6.out).size (fun q hq => (World.ownsRow.lt HST.out.1.1 q hq).1)
        clear hown7 hgrow7 hnil7 hLS7 hrow6
        go_wp2
        go_roundw
        case rel => exact ⟨j + 1, _, by omega, by go_num, HL7, hb7⟩
        case measure => simp [intOf]; omega
      · obtain rfl : j = n := by omega
        go_wp2
        go_ret2
        exact givesLB_yes rfl (hst.out.1.base HB2.out.size) (by rw [hst.out.2, List.take_of_length_le (by rw [sgL_len, ← HR.out, lls_len, ← HN.out]; exact Nat.le_refl _), sgR_yes HL.out]) (bel2 HB2.out hb)
/-- A slice put in another one's place in a row of slices. -/
theorem LS.set {w : World} {B g cap n : Nat} {P : VL} (hn : n = P.length) (h : LS w B (.slice (some ⟨g, 0, none⟩) n cap) P) {j : Nat} {x : Value} {zs : List Int} (hx : IS w B x zs) (hd : ∀ m, m < P.length → ∀ q, (pvl P m).ownBlock = some q → x.ownBlock ≠ some q) :
    LS (w.setCell ⟨g, j, none⟩ x) B (.slice (some ⟨g, 0, none⟩) n cap) (P.set j (x, zs)) ∧ w.grownBy (w.setCell ⟨g, j, none⟩ x) (some g) := by
  subst hn
  have s := World.ownsRow.stored h.1 j x
  have hin : ∀ p ∈ P.set j (x, zs), p = (x, zs) ∨ p ∈ P := fun p hp => (List.mem_or_eq_of_mem_set hp).symm
  have hd' : ∀ p ∈ P, ∀ q, p.1.ownBlock = some q → x.ownBlock ≠ some q := fun p hp q hq => by
    obtain ⟨m, hm, rfl⟩ := List.getElem_of_mem hp
    rw [← p_eq hm] at hq
    exact hd m hm q hq
  refine ⟨⟨?_, fun p hp => ?_, ?_⟩, s.2⟩
  · rw [List.length_set]
    have := s.1
    unfold vls at this ⊢
    rw [List.map_set]
    exact this
  · rcases hin p hp with rfl | h'
    · exact hx.in_grown s.2 (hx.other_row h.1)
    · exact (h.2.1 p h').in_grown s.2 ((h.2.1 p h').other_row h.1)
  · rw [List.pairwise_iff_getElem]
    intro a b ha hb hab
    rw [List.length_set] at ha hb
    rw [List.getElem_set, List.getElem_set]
    have hp := List.pairwise_iff_getElem.1 h.2.2 a b ha hb hab
    split
    · split
      · omega
      · exact fun q hq e => hd' _ (List.getElem_mem hb) q e hq
    · split
      · exact hd' _ (List.getElem_mem ha)
      · exact hp
/-- The map of edges, when a row that lies before it has changed. -/
theorem EdI.other {l : List Tm} {B b k : Nat} {X : List (List Int)} {nn lo hi : Nat} {w w' : World} {row : Option Nat} (h : EdI l B b k X nn lo hi w) (hg : w.grownBy w' row) (hr : ∀ g, row = some g → g < B ∧ g < b) : EdI l B b k X nn lo hi w' := by
  obtain ⟨D, vf, h1, h2, h3, h4⟩ := h
  have hbl := h1.lt
  obtain ⟨es, clock, q1, q2, q3, q4⟩ := h1
  refine ⟨D, vf, ⟨es, clock, (hg.block b hbl (fun e => by have := (hr b e.symm).2; omega)).trans q1, q2, q3, q4⟩, h2, fun e he => ⟨(h3 e he).1, (h3 e he).2.other hg (fun g hv e => by have := ((h3 _ he).2.lt g hv).1; have := (hr g e.symm).1; omega)⟩, h4⟩
/-- What the map of edges tells of a pair: the numbers of its cells. -/
theorem ed_get {l : List Tm} (h12 : l.length ≤ 12) {B b nn lo hi : Nat} {w : World} (h : EdI l B b (ceL l).length [] nn lo hi w) {i k : Int} (wi : (Lit.int .i64 i).wf = true) (wk : (Lit.int .i64 k).wf = true) :
    ∃ vv, (Instr.lookup 56 (.map (some b)) (.agg #[.int .i64 i, .int .i64 k]) false).run Tryz.prog w = .ok vv w ∧ IS w B vv (clL l (ceL l).length [i, k]) := by
  obtain ⟨D, vf, hD1, hD2, hD3, -⟩ := h
  obtain ⟨es, clock, hb, F, hs, hD⟩ := hD1
  rcases Maps.fit_look false prKeyed Tryz.underlying56 (zeroS w) hb F (pr_keyW wi wk) with ⟨hrun, _, hat⟩ | ⟨e0, y, _, _, hrun, hR0, hat, _⟩
  · refine ⟨.slice none 0 0, hrun.trans rfl, ?_⟩
    by_cases h0 : clM l (ceL l).length [] [i, k] = []
    · rw [← clM_nil, h0]; exact IS.nil_ _ _
    · have h1 := (hD3 _ h0).1 (.lit (.bool false))
      rw [hD, hat] at h1
      cases h1
  · have hh : has D (prK [i, k]) = true := by rw [hD]; exact has_true_of_atKey hat
    obtain ⟨e, he, hp⟩ := (hD2 _).1 hh
    have hea := clM_ea (Nat.le_refl _) (fun e he => absurd he (by simp)) he
    obtain ⟨a, c, q1, q2, rfl⟩ := ea_pair hea
    obtain ⟨rfl, rfl⟩ := pr_injW wi wk (wf_i64 (by omega)) (wf_i64 (by omega)) hp
    obtain ⟨d1, d2⟩ := hD3 _ he
    obtain ⟨-, rfl⟩ := hR_inv hR0
    have hv : e0.val = vf [(a : Int), (c : Int)] := by
      have h1 := d1 (.lit (.bool false))
      rw [hD, hat] at h1
      injection h1
    refine ⟨e0.val, hrun.trans rfl, ?_⟩
    rw [hv, ← clM_nil]
    exact d2
set_option maxHeartbeats 4000000 in
set_option maxRecDepth 100000 in
theorem implSegmentsOf_any (w : World) (B : Nat) (v : Value) (l : List Tm) (h : TmS w B v l) : Calls Tryz.prog 13 #[v] w fun e w' => GivesLB (plB l) (sgR l) w e w' := by
  cases hl : plB l
  · have HL := Lib.hid hl
    go_enter Tryz.func13, Tryz.ntmps13
    go_wp2_with fail
    refine (implInnerEdges_any _ B _ l h).mono ?_
    rintro e w1 ⟨r, P, rfl, hLS, hP, b1⟩
    rw [HL.out]
    clear hLS hP hl
    go_wp2
    go_ret2
    exact givesLB_nil rfl (sgR_no HL.out) b1
  · have HL := Lib.hid hl
    have H12 := Lib.hid (plB_le hl).2
    go_enter Tryz.func13, Tryz.ntmps13
    go_wp2_with fail
    refine (implInnerEdges_any _ B _ l h).mono ?_
    rintro e w1 ⟨rs, R, rfl, hRS, hR, b1⟩
    rw [eoR_yes hl] at hR
    rw [HL.out]
    have hn12 : R.length ≤ 144 := by rw [← lls_len, hR]; exact ed_few H12.out 2
    obtain ⟨A, cap, rfl, -, hp⟩ := hRS.parts
    have HP := Lib.hid hp
    have HV := Lib.hid hRS.2
    have HR := Lib.hid hR
    have HRS := Lib.hid hRS
    have HB1 := Lib.hid b1
    have HAF := Lib.hid (show ∀ g, A = some ⟨g, 0, none⟩ → w.heap.size ≤ g ∧ g < w1.heap.size from fun g hg => by subst hg; exact World.ownsRow.lt hRS.1 g rfl)
    obtain ⟨n, hn⟩ : ∃ n, n = R.length := ⟨_, rfl⟩
    have HN := Lib.hid hn
    rw [← hn] at hn12 HRS ⊢
    have h1 := FS.below h b1
    obtain ⟨At, capt, rfl, -, -⟩ := TmS.parts h
    clear h hRS hR hp b1 hn hl
    go_wp2_with fail
    refine (cellsAtEdges_any w1 B _ l h1 HL.out).mono ?_
    rintro e w2 ⟨b, nn, lo, hi0, rfl, hwb, -, hE, b2⟩
    have HE := Lib.hid hE
    have HRS2 := Lib.hid (HRS.out.below b2)
    have HP2 := Lib.hid (fun k (hk : k < R.length) => (show ∃ g, A = some ⟨g, 0, none⟩ ∧ w2.cell? ⟨g, k, none⟩ = some (pvl R k) from by
      obtain ⟨g, hg, hc⟩ := HP.out k hk
      exact ⟨g, hg, X3.below.box_old3 hc b2⟩))
    have HB2 := Lib.hid (bel2 HB1.out b2)
    have HS2 := Lib.hid (And.intro HB1.out.size b2.size)
    clear hE b2 h1 HP HRS
    go_wp2
    go_loopw [20] (fun i wr => ∃ (j : Nat) (P : VL), j ≤ n ∧ i = .int .i64 j ∧ Hid (LS wr w.heap.size (.slice A n cap) P ∧ P.length = n ∧ lls P = (sgL l).take j ++ (edM2 l 2).drop j) ∧ Hid (w2.grownBy wr (Value.slice A n cap).ownBlock)) (fun i _ => n - (intOf i).toNat)
    case atStart => exact ⟨0, R, by omega, rfl, Lib.hid ⟨HRS2.out, HN.out.symm, by rw [HR.out]; simp⟩, Lib.hid (World.grownBy.refl _ _)⟩
    case round =>
      obtain ⟨j, P, hj, rfl, hst, hgr⟩ := hrel
      by_cases hlt : j < n
      · have hjp : j < P.length := by rw [hst.out.2.1]; exact hlt
        have hjl : j < (edM2 l 2).length := by rw [← HR.out, lls_len, ← HN.out]; exact hlt
        obtain ⟨Ap, capp, hv0, -, hpp⟩ := hst.out.1.parts
        obtain ⟨g, hg, hc1⟩ := hpp j hjp
        rw [hst.out.2.1] at hv0
        simp only [Value.slice.injEq] at hv0
        obtain ⟨hA, -, -⟩ := hv0
        rw [hg] at hA
        subst hA
        have hgb := HAF.out g rfl
        have his := hst.out.1.2.at hjp
        have hge : pll P j = (edM2 l 2)[j] := by
          have h1 := lls_get hjp (by rw [lls_len]; exact hjp)
          rw [← h1]
          have hlen : ((sgL l).take j).length = j := by rw [List.length_take, sgL_len]; omega
          have h2 : (lls P)[j]? = (edM2 l 2)[j]? := by
            rw [hst.out.2.2, List.getElem?_append_right (by omega), hlen, List.getElem?_drop]; simp
          rw [List.getElem?_eq_getElem (by rw [lls_len]; exact hjp), List.getElem?_eq_getElem hjl] at h2
          exact Option.some.inj h2
        have hmem : pll P j ∈ edM2 l 2 := by rw [hge]; exact List.getElem_mem _
        have hnx := sg_next l hjl hge.symm
        have hdr : (edM2 l 2).drop j = pll P j :: (edM2 l 2).drop (j + 1) := by rw [List.drop_eq_getElem_cons hjl, hge]
        obtain ⟨i, k, hik, hkl, hs, h2c⟩ := sg_edge hmem
        rw [hs] at his hnx h2c hdr
        have h2t := clL_two HL.out [(i : Int), (k : Int)]
        have h12 := H12.out
        obtain ⟨vv, hlook, hvv⟩ := ed_get h12 (HE.out.other hgr.out (fun q hq => by simp only [Value.ownBlock, Option.some.injEq] at hq; omega)) (wf_i64 (a := (i : Int)) (by omega)) (wf_i64 (a := (k : Int)) (by omega))
        have HVV := Lib.hid hvv
        have HIS := Lib.hid his
        have HNX := Lib.hid hnx
        have HDR := Lib.hid hdr
        obtain ⟨sv, hsv⟩ : ∃ sv, sv = pvl P j := ⟨_, rfl⟩
        rw [← hsv] at hc1 HIS
        obtain ⟨As, caps, rfl, -, hsp⟩ := HIS.out.parts
        obtain ⟨gs, rfl, hs0⟩ := hsp 0 (by simp)
        obtain ⟨gs', hgs, hs1⟩ := hsp 1 (by simp)
        cases hgs
        have d0 : wr.cell? ⟨gs, 0, none⟩ = some (.int .i64 (i : Int)) := hs0
        have d1 : wr.cell? ⟨gs, 1, none⟩ = some (.int .i64 (k : Int)) := hs1
        rw [show ([(i : Int), (k : Int)] : List Int).length = 2 from rfl] at hc1 HIS
        obtain ⟨Av, capv, rfl, -, -⟩ := hvv.parts
        obtain ⟨cl, hcl⟩ : ∃ cl, cl = clL l (ceL l).length [(i : Int), (k : Int)] := ⟨_, rfl⟩
        rw [← hcl] at HVV HNX h2c h2t hlook
        obtain ⟨m, hm⟩ : ∃ m, m = cl.length := ⟨_, rfl⟩
        have HM := Lib.hid hm
        rw [← hm] at h2c h2t HVV hlook
        have hbW : Below wr.heap.size wr (wr.alloc (.cells #[.slice (some ⟨gs, 0, none⟩) 2 caps, .slice Av m capv] 49)) := (Below.refl _ _).alloc (Nat.le_refl _) _
        have HCAT := Lib.hid (concatR_any (wr.alloc (.cells #[.slice (some ⟨gs, 0, none⟩) 2 caps, .slice Av m capv] 49)) wr.heap.size 2 [(.slice (some ⟨gs, 0, none⟩) 2 caps, [(i : Int), (k : Int)]), (.slice Av m capv, cl)]
          (fun q hq => by
            have hq' : q = 0 ∨ q = 1 := by simp at hq; omega
            rcases hq' with rfl | rfl
            · exact cell_of_row _ wr.heap.size 0 #[.slice (some ⟨gs, 0, none⟩) 2 caps, .slice Av m capv] 49 (0, 0) (heap_alloc_new wr _)
            · exact cell_of_row _ wr.heap.size 1 #[.slice (some ⟨gs, 0, none⟩) 2 caps, .slice Av m capv] 49 (0, 0) (heap_alloc_new wr _))
          (fun q hq => by
            have hq' : q = 0 ∨ q = 1 := by simp at hq; omega
            rcases hq' with rfl | rfl
            · exact (HIS.out.rda (by simp)).below hbW
            · exact (HVV.out.rda (by rw [← HM.out]; omega)).below hbW) (by simp)
          (fun q hq => by
            have hq' : q = 0 ∨ q = 1 := by simp at hq; omega
            rcases hq' with rfl | rfl
            · show ([(i : Int), (k : Int)] : List Int).length ≤ 2000; simp
            · show cl.length ≤ 2000; omega))
        have HBW := Lib.hid hbW
        have HST := Lib.hid hst.out
        have harr : ∀ W : World, (Instr.arrayAt 59 (.slice (some ⟨gs, 0, none⟩) 2 caps)).run Tryz.prog W = .ok (.pointer (some ⟨gs, 0, none⟩)) W := fun W => run_arrayAt _ _ _ _ _ _ _ Tryz.underlying59 (Nat.le_refl _)
        have lgs : gs < wr.heap.size := cell_lt d0
        have lg : g < wr.heap.size := cell_lt hc1
        clear his hge hmem hnx hdr hs hsv hsp hs0 hs1 hvv hcl hm hbW hst hpp hg
        go_wp2_with fail
        refine HCAT.out.mono ?_
        rintro e w5 ⟨r5, rfl, hr5, b5⟩
        rw [show flC [(.slice (some ⟨gs, 0, none⟩) 2 caps, [(i : Int), (k : Int)]), (.slice Av m capv, cl)] [((.slice (some ⟨gs, 0, none⟩) 2 caps : Value), [(i : Int), (k : Int)]), (.slice Av m capv, cl)].length = [(i : Int), (k : Int)] ++ cl by simp [flC, lls]] at hr5
        have hb5 := bel2 HBW.out b5
        have hLS5 := HST.out.1.below hb5
        have hrow5 := hLS5.1
        rw [HST.out.2.1] at hrow5
        have c5 := World.ownsRow.cellAt hrow5 j (by omega)
        have f5 := World.ownsRow.frozenAt hrow5 j
        rw [vls_at hjp] at c5
        obtain ⟨A5, cap5, rfl, -, -⟩ := hr5.parts
        rw [show ([(i : Int), (k : Int)] ++ cl).length = 2 + m from by rw [List.length_append, ← HM.out]; rfl] at hr5 ⊢
        have hset := LS.set (j := j) (zs := [(i : Int), (k : Int)] ++ cl) HST.out.2.1.symm hLS5 (hr5.base (Nat.le_trans (Nat.le_trans HS2.out.1 HS2.out.2) (Nat.le_trans hgr.out.size HBW.out.size))) (fun q hq s hs e => by
          have h1 := (HST.out.1.2.at hq).lt s hs
          have h2 := hr5.lt s e
          have := HBW.out.size
          omega)
        have hgr2 : w2.grownBy (w5.setCell ⟨g, j, none⟩ (.slice A5 (2 + m) cap5)) (some g) := Lib.grownBy_trans (grown_bel hgr.out hb5) hset.2
        have HL7 := Lib.hid (And.intro hset.1 (And.intro (show (P.set j (.slice A5 (2 + m) cap5, [(i : Int), (k : Int)] ++ cl)).length = n by rw [List.length_set, HST.out.2.1]) (show lls (P.set j (.slice A5 (2 + m) cap5, [(i : Int), (k : Int)] ++ cl)) = (sgL l).take (j + 1) ++ (edM2 l 2).drop (j + 1) by
          have hlen : ((sgL l).take j).length = j := by rw [List.length_take, sgL_len]; omega
          rw [show lls (P.set j (.slice A5 (2 + m) cap5, [(i : Int), (k : Int)] ++ cl)) = (lls P).set j ([(i : Int), (k : Int)] ++ cl) by unfold lls; rw [List.map_set], HST.out.2.2, HDR.out, List.set_append_right _ _ (by omega), hlen, Nat.sub_self, HNX.out]
          simp)))
        have HG7 := Lib.hid hgr2
        have lg5 : g < w5.heap.size := Nat.lt_of_lt_of_le lg hb5.size
        clear hset hgr2 hr5 hLS5 hrow5 b5 hb5 d0 d1 hc1 lgs lg hlook HCAT
        go_wp2
        go_roundw
        case rel => exact ⟨j + 1, _, by omega, by go_num, HL7, HG7⟩
        case measure => simp [intOf]; omega
      · obtain rfl : j = n := by omega
        have hbz := HB2.out.grown hgr.out HB2.out.size (fun q hq => (World.ownsRow.lt HRS2.out.1 q hq).1)
        go_wp2
        go_ret2
        exact givesLB_yes rfl hst.out.1 (by rw [hst.out.2.2, List.drop_eq_nil_of_le (by rw [← HR.out, lls_len, ← HN.out]; exact Nat.le_refl _), List.append_nil, List.take_of_length_le (by rw [sgL_len, ← HR.out, lls_len, ← HN.out]; exact Nat.le_refl _), sgR_yes HL.out]) hbz
end Go.Proofs.YtbapepflfgcioaaGreat

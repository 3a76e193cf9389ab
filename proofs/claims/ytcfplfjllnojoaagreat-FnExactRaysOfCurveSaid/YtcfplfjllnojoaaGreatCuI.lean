/-
  The model's ends; EndsAt and BalanceAt of both.
  Condition: the slice reads as the terms that are named.
-/
import Derived.Test.YtcfplfjllnojoaaGreatCuG
import Derived.Test.YtcfplfjllnojoaaGreatSl
import Derived.Lib.AppendZeros
import Derived.Test.YtcfplfjllnojoaaGreatEdL
import Derived.Test.YtcfplfjllnojoaaGreatCuM
import Derived.Laws.Cover3
namespace Go.Proofs.YtcfplfjllnojoaaGreat
set_option linter.unusedSimpArgs false
set_option linter.unusedVariables false
open Go.ChangeShapes Go.WideShapes Go.ChangeAt Go.RowKit Go.Maps
open Go.Sort (grow)

theorem ints_oneC (zs : List Int) : ∀ u ∈ ints zs, u.oneCell' = true := fun u hu => by
  simp only [ints, List.mem_map] at hu
  obtain ⟨y, -, rfl⟩ := hu
  rfl
theorem RdV.newsC {w : World} {v : Value} {zs : List Int} (h : RdV w v zs) (h0 : 0 < zs.length) : ∃ g cap, v = .slice (some ⟨g, 0, none⟩) zs.length cap ∧ ∀ j u, (ints zs)[j]? = some u → w.cell? ((⟨g, 0, none⟩ : Addr).add j) = some u := by
  obtain ⟨A, cap, rfl, hm, hp⟩ := h
  obtain ⟨g, rfl, -⟩ := hp 0 h0
  refine ⟨g, cap, rfl, fun j u hu => ?_⟩
  have hj : j < zs.length := by
    rcases Nat.lt_or_ge j zs.length with h' | h'
    · exact h'
    · rw [List.getElem?_eq_none (by simp [ints]; omega)] at hu; cases hu
  obtain ⟨g', hg, hc⟩ := hp j hj
  cases hg
  rw [add_zero, hc]
  rw [gd_eq _ _ hj]
  simpa [ints, List.getElem?_eq_getElem hj] using hu
theorem news_below {w w' : World} {g : Nat} {zs : List Int} (h : ∀ j u, (ints zs)[j]? = some u → w.cell? ((⟨g, 0, none⟩ : Addr).add j) = some u) (hb : Below w.heap.size w w') : ∀ j u, (ints zs)[j]? = some u → w'.cell? ((⟨g, 0, none⟩ : Addr).add j) = some u := fun j u hu => by
  have := h j u hu
  rw [add_zero] at this ⊢
  exact box_o this hb
theorem twI_new (w : World) (B : Nat) (h : B ≤ w.heap.size) : (w.alloc (.cells #[] 3)).ownsRow B 3 1 (.slice (some ⟨w.heap.size, 0, none⟩) 0 0) 0 [] := World.ownsRow_made w #[] 0 h (Nat.zero_le _) rfl
/-- A row of integers behind another one. -/
theorem IS.joined {w' : World} {B : Nat} {v : Value} {xs ys : List Int} {n m : Nat} (hn : n = xs.length) (hm : m = ys.length) (h : w'.ownsRow B 3 1 v (n + m) (ints xs ++ ints ys)) : IS w' B v (xs ++ ys) := by
  subst hn hm
  unfold IS
  rw [List.length_append]
  unfold ints at h ⊢
  rw [List.map_append]
  exact h
set_option maxHeartbeats 1000000 in
theorem l1Own_any (w : World) (v : Value) (zs : List Int) (h : RdV w v zs) (h0 : 0 < zs.length) (hz : zs.length ≤ 1000) : Calls Tryz.prog 16 #[v] w fun e w' => ∃ r, e = .returned r ∧ IS w' w.heap.size r zs ∧ Below w.heap.size w w' := by
  obtain ⟨g, cap, rfl, hnews⟩ := h.newsC h0
  obtain ⟨i0, hi, hz0, hz1, hz2⟩ := info_parts infoInt
  obtain ⟨n, hn⟩ : ∃ n, n = zs.length := ⟨_, rfl⟩
  have HN := Lib.hid hn
  have bA : Below w.heap.size w (w.alloc (.cells #[] 3)) := (Below.refl _ _).alloc (Nat.le_refl _) _
  have HW := Lib.hid (news_below hnews bA)
  have HR := Lib.hid (twI_new w w.heap.size (Nat.le_refl _))
  have HB := Lib.hid bA
  rw [← hn] at hz h0 ⊢
  clear h hnews hn bA
  go_enter Tryz.func16, Tryz.ntmps16
  go_wp2_with (at_builtin; refine wpList_append_own _ rfl _ _ 36 rfl w.heap.size 3 i0 (.int .i64 0) 1 8 Tryz.underlying36 hi hz0 hz1 hz2 rfl (by decide) _ 0 _ rfl HR.out ⟨g, 0, none⟩ n _ (ints zs) rfl (by rw [HN.out]; simp [ints]) HW.out (ints_oneC _) (by unfold maxLen; omega) (by omega) (by simp) ?_; intro v' w2 hown2 hgrow2 hnil2)
  have hr : IS w2 w.heap.size v' ([] ++ zs) := IS.joined (n := 0) (m := n) rfl HN.out (by simpa [ints] using hown2)
  have hb : Below w.heap.size w w2 := HB.out.grown hgrow2 HB.out.size (fun q hq => (World.ownsRow.lt HR.out q hq).1)
  clear hown2 hgrow2 hnil2
  go_wp2
  go_ret
  exact ⟨_, rfl, hr, hb⟩
theorem enL_next (l : List Tm) (x : List Int) {j : Nat} (hj : j < (setX lxL (sdL l x)).length) : (enL l x).take (j + 1) = (enL l x).take j ++ [enE l x ((setX lxL (sdL l x))[j])] := by
  rw [List.take_add_one, List.getElem?_eq_getElem (by rw [enL_len]; exact hj)]
  simp [enL]
/-- One more list behind a row of lists, all of it above the world before. -/
theorem ls_push {w w1 w2 : World} {B : Nat} {v v' x : Value} {P : VL} {zs : List Int} (h : LS w B v P) (hb : Below w.heap.size w w1) (hB : B ≤ w.heap.size) (hx : IS w1 w.heap.size x zs) (hown : w2.ownsRow B 36 1 v' (P.length + 1) (vls P ++ [x])) (hg : w1.grownBy w2 v.ownBlock) : LS w2 B v' (P ++ [(x, zs)]) :=
  ls_snoc (h.below hb) (hx.base hB) hown hg (fun p hp g hg e => by have := (h.2.1 p hp).lt g hg; have := hx.lt g e; omega) (fun g hg e => by have := World.ownsRow.lt h.1 g e; have := hx.lt g hg; omega)
end Go.Proofs.YtcfplfjllnojoaaGreat
/-
  EndsAt and BalanceAt of both.
  Condition: the slice reads as the terms that are named.
-/
namespace Go.Proofs.YtcfplfjllnojoaaGreat
set_option linter.unusedSimpArgs false
set_option linter.unusedVariables false
open Go.ChangeShapes Go.WideShapes Go.ChangeAt Go.RowKit Go.Maps
open Go.Sort (grow)

def esR (l : List Tm) (i : Int) : List (List Int) := if cpB l i = true then enL l (cuR l i) else []
theorem esR_yes {l : List Tm} {i : Int} (h : cpB l i = true) : esR l i = enL l (cuR l i) := if_pos h
theorem esR_no {l : List Tm} {i : Int} (h : cpB l i = false) : esR l i = [] := if_neg (by simp [h])
theorem enL_few {l : List Tm} (hl : plB l = true) {x : List Int} (hx : x ∈ ceL l) : (enL l x).length ≤ 12 ∧ ∀ e ∈ enL l x, e.length = 5 := by
  refine ⟨?_, fun e he => ?_⟩
  · rw [enL_len]
    have h1 := setX_len (sdL l x)
    have h2 := hc_le hx (plB_le hl).2
    rw [← sdL_len] at h2
    omega
  · obtain ⟨s, hs, rfl⟩ := List.mem_map.1 he
    rw [setX_mem totLx] at hs
    exact enE_len hl hx hs
theorem few_es {l : List Tm} {i : Int} {P : VL} (h : lls P = esR l i) : FewL P := by
  cases hq : cpB l i
  · rw [esR_no hq] at h
    have : P = [] := List.map_eq_nil_iff.1 h
    subst this
    exact ⟨by simp, fun p hp => by simp at hp⟩
  · obtain ⟨h1, h2⟩ := cuR_in hq
    obtain ⟨h3, h4⟩ := enL_few h1 h2
    rw [esR_yes hq] at h
    refine ⟨by rw [← lls_len, h]; omega, fun p hp => ?_⟩
    have : p.2 ∈ lls P := List.mem_map.2 ⟨p, hp, rfl⟩
    rw [h] at this
    rw [h4 _ this]; omega
theorem givesLB_yes {ok : Bool} {L : List (List Int)} {w w' : World} {r : Value} {P : VL} (h1 : ok = true) (hP : LS w' w.heap.size r P) (h2 : lls P = L) (hb : Below w.heap.size w w') : GivesLB ok L w (.returned (.tuple #[r, .bool true])) w' := by
  subst h1; exact ⟨_, P, rfl, hP, h2, hb⟩
/-- The sums of the c-th parts, each times the weight. -/
def bxS (L : List (List Int)) (c : Nat) : Nat → Int
  | 0 => 0
  | k + 1 => bxS L c k + gd (L.getD k []) c * gd (L.getD k []) 4
def baX (l : List Tm) (i : Int) (c : Nat) : Int := if cpB l i = true then bxS (enL l (cuR l i)) c (enL l (cuR l i)).length else 0
theorem baX_yes {l : List Tm} {i : Int} (h : cpB l i = true) (c : Nat) : baX l i c = bxS (enL l (cuR l i)) c (enL l (cuR l i)).length := if_pos h
theorem baX_no {l : List Tm} {i : Int} (h : cpB l i = false) (c : Nat) : baX l i c = 0 := if_neg (by simp [h])
theorem enL_bd {l : List Tm} (hl : plB l = true) {x : List Int} (hx : x ∈ ceL l) {e : List Int} (he : e ∈ enL l x) : (-6 ≤ gd e 2 ∧ gd e 2 ≤ 6) ∧ (-6 ≤ gd e 3 ∧ gd e 3 ≤ 6) ∧ (1 ≤ gd e 4 ∧ gd e 4 ≤ 6) := by
  obtain ⟨s, hs, rfl⟩ := List.mem_map.1 he
  rw [setX_mem totLx] at hs
  obtain ⟨i, k, hik, hkl, rfl, -, -⟩ := side_of hl hx hs
  have hb := wt_bd (in6_of (plB_at hl (show i < l.length by omega))) (in6_of (plB_at hl hkl)) (ptO_ne hl (by omega) hkl (by omega : i ≠ k))
  rw [enE_pair]
  cases hr : rgB l x i k
  · rw [enT_no hr]
    refine ⟨?_, ?_, ?_⟩ <;> simp only [gd, List.cons_append, List.nil_append, List.getD_cons_succ, List.getD_cons_zero] <;> omega
  · rw [enT_yes hr]
    refine ⟨?_, ?_, ?_⟩ <;> simp only [gd, List.cons_append, List.nil_append, List.getD_cons_succ, List.getD_cons_zero] <;> omega
theorem getD_in {L : List (List Int)} {k : Nat} (hk : k < L.length) : L.getD k [] ∈ L := by
  rw [List.getD_eq_getElem?_getD, List.getElem?_eq_getElem hk]; exact List.getElem_mem hk
theorem bxS_bd {L : List (List Int)} {c : Nat} (h : ∀ e ∈ L, (-6 ≤ gd e c ∧ gd e c ≤ 6) ∧ (1 ≤ gd e 4 ∧ gd e 4 ≤ 6)) : ∀ k, k ≤ L.length → -(36 * (k : Int)) ≤ bxS L c k ∧ bxS L c k ≤ 36 * (k : Int)
  | 0, _ => by simp [bxS]
  | k + 1, hk => by
    have ih := bxS_bd h k (by omega)
    have h1 := h _ (getD_in (show k < L.length by omega))
    have h2 := mulB2 (x := gd (L.getD k []) c) (y := gd (L.getD k []) 4) (A := 6) (B := 6) h1.1 (by omega)
    rw [bxS]; omega
def GivesBa (a b : Int) (ok : Bool) (w : World) (e : Ending) (w' : World) : Prop := e = .returned (.tuple #[.int .i64 a, .int .i64 b, .bool ok]) ∧ Below w.heap.size w w'
theorem givesBa_of {a b c d : Int} {o p : Bool} {w w' : World} (h1 : a = c) (h2 : b = d) (h3 : o = p) (hb : Below w.heap.size w w') : GivesBa a b o w (.returned (.tuple #[.int .i64 c, .int .i64 d, .bool p])) w' := by
  subst h1 h2 h3; exact ⟨rfl, hb⟩
end Go.Proofs.YtcfplfjllnojoaaGreat
/-
  slices.Grow and slices.Concat at slices of integers, wherever they lie: what the calls return.
  Condition: the slices read as the lists that are named.
-/
namespace Go.Proofs.YtcfplfjllnojoaaGreat
set_option linter.unusedSimpArgs false
set_option linter.unusedVariables false
open Go.ChangeShapes Go.WideShapes Go.ChangeAt Go.RowKit
open Go.Sort (grow)

theorem ints_oneJ (zs : List Int) : ∀ u ∈ ints zs, u.oneCell' = true := fun u hu => by
  simp only [ints, List.mem_map] at hu
  obtain ⟨y, -, rfl⟩ := hu
  rfl
/-- A slice value with an address, from which on it reads as a list. -/
def RdA (w : World) (v : Value) (zs : List Int) : Prop := ∃ ad cap, v = .slice (some ad) zs.length cap ∧ ∀ j u, (ints zs)[j]? = some u → w.cell? (ad.add j) = some u
theorem RdA.below {w w' : World} {v : Value} {zs : List Int} (h : RdA w v zs) (hb : Below w.heap.size w w') : RdA w' v zs := by
  obtain ⟨ad, cap, h1, h2⟩ := h
  exact ⟨ad, cap, h1, fun j u hu => (hb.cell (p := ad.add j) (cell_lt (h2 j u hu))).trans (h2 j u hu)⟩
theorem IS.rda {w : World} {B : Nat} {v : Value} {zs : List Int} (h : IS w B v zs) (h0 : 0 < zs.length) : RdA w v zs := by
  obtain ⟨A, cap, rfl, hm, hp⟩ := h.parts
  obtain ⟨g, rfl, -⟩ := hp 0 h0
  refine ⟨⟨g, 0, none⟩, cap, rfl, fun j u hu => ?_⟩
  have hj : j < zs.length := by
    rcases Nat.lt_or_ge j zs.length with h' | h'
    · exact h'
    · rw [List.getElem?_eq_none (by simp [ints]; omega)] at hu; cases hu
  obtain ⟨g', hg, hc⟩ := hp j hj
  cases hg
  rw [add_zero, hc]
  rw [gd_eq _ _ hj]
  simpa [ints, List.getElem?_eq_getElem hj] using hu
set_option maxHeartbeats 1000000 in
set_option maxRecDepth 100000 in
theorem growJ_nil (w : World) (n : Nat) (hn : n ≤ 1000000) : Calls Tryz.prog 48 #[.slice none 0 0, .int .i64 (n : Int)] w fun e w' => ∃ r, e = .returned r ∧ w'.ownsRow w.heap.size 3 1 r 0 [] ∧ Below w.heap.size w w' := by
  obtain ⟨i0, hi, hz0, hz1, hz2⟩ := info_parts infoInt
  by_cases h0 : 0 < n
  · have hrun := fun ty => Lib.run_append_nil_zeros (P := Tryz.prog) w 36 3 ty 3 i0 (.int .i64 0) .i64 .i64 Tryz.underlying36 Tryz.underlying3 hi hz0 n h0 (by omega) (by omega) (by rw [hz2]; omega)
    have HC := Lib.hid (And.intro (grownCap_ge w n 0 3) (grownCap_le_maxLen w n 0 3 (by unfold maxLen; omega)))
    obtain ⟨c, hc⟩ : ∃ c, c = grownCap w n 0 3 := ⟨_, rfl⟩
    rw [← hc] at hrun HC
    obtain ⟨cs, hcs⟩ : ∃ cs, cs = Builtin.zeroCells (.int .i64 0 : Value).cells n ++ Builtin.zeroCells (.int .i64 0 : Value).cells (c - n) := ⟨_, rfl⟩
    rw [← hcs] at hrun
    have HZ := Lib.hid (show cs.size = c * 1 by
      rw [hcs, Array.size_append, size_zeroCells, size_zeroCells]
      show n * 1 + (c - n) * 1 = c * 1
      have := HC.out.1
      omega)
    have HR := Lib.hid hrun
    have hcl := HC.out.1
    clear hc hcs hrun
    go_enter Tryz.func48, Tryz.ntmps48
    go_wp2_with (at_builtin; refine Lib.wpList_append_run _ rfl _ _ _ _ rfl _ _ rfl rfl _ _ (HR.out _) ?_)
    go_wp2
    go_ret
    refine ⟨_, rfl, ⟨rfl, .inr ⟨w.heap.size, c, cs, rfl, Nat.le_refl _, heap_alloc_new w.drew _, by omega, HC.out.2, HZ.out, by simp⟩⟩, ((Below.refl _ _).drew).alloc (by simp) _⟩
  · obtain rfl : n = 0 := by omega
    go_enter Tryz.func48, Tryz.ntmps48
    go_wp2
    go_ret
    exact ⟨_, rfl, World.ownsRow_nil _ _ _ 1, Below.refl _ _⟩
def flC (P : VL) (k : Nat) : List Int := ((lls P).take k).flatten
theorem flC_zero (P : VL) : flC P 0 = [] := by simp [flC]
theorem flC_next {P : VL} {k : Nat} (hk : k < P.length) : flC P (k + 1) = flC P k ++ pll P k := by
  unfold flC
  have h1 : k < (lls P).length := by rw [lls_len]; exact hk
  rw [List.take_add_one, List.getElem?_eq_getElem h1, lls_get hk h1]
  simp
theorem flC_len {P : VL} (h : ∀ k, k < P.length → (pll P k).length ≤ 2000) : ∀ k, k ≤ P.length → (flC P k).length ≤ 2000 * k
  | 0, _ => by simp [flC]
  | k + 1, hk => by
    have := flC_len h k (by omega)
    have := h k (by omega)
    rw [flC_next (by omega), List.length_append]; omega
set_option maxHeartbeats 2000000 in
set_option maxRecDepth 100000 in
theorem concatR_any (w : World) (G cap : Nat) (P : VL) (hp : ∀ k, k < P.length → w.cell? ⟨G, k, none⟩ = some (pvl P k)) (hv : ∀ k, k < P.length → RdA w (pvl P k) (pll P k)) (hn : P.length ≤ 100) (h12 : ∀ k, k < P.length → (pll P k).length ≤ 2000) : Calls Tryz.prog 24 #[.slice (some ⟨G, 0, none⟩) P.length cap] w fun e w' => GivesI (flC P P.length) w e w' := by
  have HP := Lib.hid hp
  have HV := Lib.hid hv
  have H12 := Lib.hid h12
  have HFL := Lib.hid (flC_len h12)
  obtain ⟨n, hne⟩ : ∃ n, n = P.length := ⟨_, rfl⟩
  have HN := Lib.hid hne
  rw [← hne] at hn ⊢
  obtain ⟨i0, hi, hz0, hz1, hz2⟩ := info_parts infoInt
  clear hp hv h12 hne
  go_enter Tryz.func24, Tryz.ntmps24
  go_wp2
  go_loopw [3, 11] (fun o i wr => ∃ k : Nat, k ≤ n ∧ i = .int .i64 k ∧ (∃ m : Nat, o = .int .i64 m ∧ m ≤ 2000 * k) ∧ w = wr) (fun _ i _ => n - (intOf i).toNat)
  case atStart => exact ⟨0, by omega, rfl, ⟨0, rfl, by omega⟩, rfl⟩
  case round =>
    obtain ⟨k, hk, rfl, ⟨m, rfl, hm⟩, rfl⟩ := hrel
    by_cases hlt : k < n
    · have hkp : k < P.length := by rw [← HN.out]; exact hlt
      have hc := HP.out k hkp
      have hz := H12.out k hkp
      obtain ⟨A', cap', hv, -⟩ := HV.out k hkp
      rw [hv] at hc
      obtain ⟨q, hq⟩ : ∃ q, q = (pll P k).length := ⟨_, rfl⟩
      rw [← hq] at hc hz
      clear hv hq hkp
      have q1 : IntKind.i64.wrap ((m : Int) + q) = ((m + q : Nat) : Int) := by rw [IntWalk.i64_in _ (by omega)]; omega
      have q2 : ¬ (((m + q : Nat) : Int) < 0) := by omega
      go_wp2
      go_roundw
      case rel => exact ⟨k + 1, by omega, by go_num, ⟨m + q, by first | rfl | go_num, by omega⟩, by first | rfl | trivial⟩
      case measure => simp [intOf]; omega
    · obtain rfl : k = n := by omega
      go_wp2_with fail
      refine (growJ_nil _ m (by omega)).mono ?_
      rintro e w1 ⟨r, rfl, hr, b1⟩
      go_wp2
      go_loopw [6, 27] (fun o i wr => ∃ j : Nat, j ≤ k ∧ i = .int .i64 j ∧ wr.ownsRow w.heap.size 3 1 o (flC P j).length (ints (flC P j)) ∧ Below w.heap.size w wr) (fun _ i _ => k - (intOf i).toNat)
      case atStart => exact ⟨0, by omega, rfl, by rw [flC_zero]; exact hr, b1⟩
      case round =>
        obtain ⟨j, hj, rfl, ho, hb⟩ := hrel
        clear hr
        by_cases hltj : j < k
        · have hjp : j < P.length := by rw [← HN.out]; exact hltj
          have hc := box_o (HP.out j hjp) hb
          have lG : G < wr.heap.size := cell_lt hc
          have his := (HV.out j hjp).below hb
          have hfl := HFL.out j (by omega)
          have hz := H12.out j hjp
          obtain ⟨ad, cap', hv, hnews⟩ := his
          have HX := Lib.hid (flC_next hjp)
          rw [hv] at hc
          have HZ := Lib.hid (show (ints (pll P j)).length = (pll P j).length * 1 by simp [ints])
          have HW := Lib.hid hnews
          obtain ⟨zs, hzs⟩ : ∃ zs, zs = pll P j := ⟨_, rfl⟩
          rw [← hzs] at hc HX HZ HW hz
          clear hv hnews hzs
          have hs := hb.size
          go_wp2_with (at_builtin; refine wpList_append_own _ rfl _ _ 36 rfl w.heap.size 3 i0 (.int .i64 0) 1 8 Tryz.underlying36 hi hz0 hz1 hz2 rfl (by decide) _ (flC P j).length _ rfl ho ad zs.length _ (ints zs) rfl HZ.out HW.out (ints_oneJ _) (by unfold maxLen; omega) (by omega) (by omega) ?_; intro v' w2 hown2 hgrow2 hnil2)
          have hb2 : Below w.heap.size w w2 := hb.grown hgrow2 hs (fun q hq => (World.ownsRow.lt ho q hq).1)
          have hrow : w2.ownsRow w.heap.size 3 1 v' (flC P (j + 1)).length (ints (flC P (j + 1))) := by
            rw [HX.out, List.length_append]
            unfold ints at hown2 ⊢
            rw [List.map_append]
            exact hown2
          clear hown2 hgrow2 hnil2 ho hb hc
          go_wp2
          go_roundw
          case rel => exact ⟨j + 1, by omega, by go_num, hrow, hb2⟩
          case measure => simp [intOf]; omega
        · obtain rfl : j = k := by omega
          go_wp2
          go_ret
          exact ⟨_, rfl, ho, hb⟩
end Go.Proofs.YtcfplfjllnojoaaGreat
/-
  LoopsOf of both; a cell by its number, of both.
  Condition: the slice reads as the terms that are named.
-/
namespace Go.Proofs.YtcfplfjllnojoaaGreat
set_option linter.unusedSimpArgs false
set_option linter.unusedVariables false
open Go.ChangeShapes Go.WideShapes Go.ChangeAt Go.RowKit Go.Maps
open Go.Sort (grow)

/-- No edge has more than two cells. -/
theorem clL_two {l : List Tm} (hl : plB l = true) (e : List Int) : (clL l (ceL l).length e).length ≤ 2 := by
  unfold clL
  rw [List.length_map]
  obtain ⟨F, hF⟩ : ∃ F, F = (List.range (ceL l).length).filter fun c : Nat => decide (e ∈ sdL l ((ceL l).getD c [])) := ⟨_, rfl⟩
  rw [← hF]
  apply Classical.byContradiction
  intro h3
  have hpw : F.Pairwise (· < ·) := by rw [hF]; exact List.Pairwise.filter _ List.pairwise_lt_range
  have hmem : ∀ c ∈ F, c < (ceL l).length ∧ e ∈ sdL l ((ceL l).getD c []) := fun c hc => by
    rw [hF, List.mem_filter, List.mem_range] at hc
    exact ⟨hc.1, by simpa using hc.2⟩
  have hm : ∀ j (hj : j < F.length), F[j] < (ceL l).length ∧ e ∈ sdL l ((ceL l).getD F[j] []) := fun j hj => hmem _ (List.getElem_mem hj)
  have q := fun a b (ha : a < F.length) (hb : b < F.length) (hab : a < b) => List.pairwise_iff_getElem.1 hpw a b ha hb hab
  have q1 := q 0 1 (by omega) (by omega) (by omega)
  have q2 := q 1 2 (by omega) (by omega) (by omega)
  have m0 := hm 0 (by omega)
  have m1 := hm 1 (by omega)
  have m2 := hm 2 (by omega)
  generalize F[0] = c0 at *
  generalize F[1] = c1 at *
  generalize F[2] = c2 at *
  obtain ⟨i, k, hik, hk, rfl, ⟨i0, k0⟩, s0⟩ := side_of hl (ceL_at m0.1) m0.2
  obtain ⟨i', k', hik', hk', e1, ⟨i1, k1⟩, s1⟩ := side_of hl (ceL_at m1.1) m1.2
  obtain ⟨i'', k'', hik'', hk'', e2, ⟨i2, k2⟩, s2⟩ := side_of hl (ceL_at m2.1) m2.2
  simp only [List.cons.injEq, and_true] at e1 e2
  obtain rfl : i = i' := by omega
  obtain rfl : k = k' := by omega
  obtain rfl : i = i'' := by omega
  obtain rfl : k = k'' := by omega
  have hne := ptO_ne hl (show i < l.length by omega) hk (by omega : i ≠ k)
  have up := fun {c d : Nat} (hc : c < (ceL l).length) (hd : d < (ceL l).length) => fun (ic : (i : Int) ∈ (ceL l).getD c []) (kc : (k : Int) ∈ (ceL l).getD c []) (id : (i : Int) ∈ (ceL l).getD d []) (kd : (k : Int) ∈ (ceL l).getD d []) (h : (LefC l ((ceL l).getD c []) i k ∧ LefC l ((ceL l).getD d []) i k) ∨ (LefC l ((ceL l).getD c []) k i ∧ LefC l ((ceL l).getD d []) k i)) => show c = d from by
    rcases h with ⟨h1, h2⟩ | ⟨h1, h2⟩
    · exact ceL_nodup l hc hd (same_cell (ceL_at hc) (ceL_at hd) hne ic kc id kd h1 h2)
    · exact ceL_nodup l hc hd (same_cell (ceL_at hc) (ceL_at hd) (fun e => hne e.symm) kc ic kd id h1 h2)
  rcases s0 with s0 | s0 <;> rcases s1 with s1 | s1 <;> rcases s2 with s2 | s2
  · have := up m0.1 m1.1 i0 k0 i1 k1 (.inl ⟨s0, s1⟩); omega
  · have := up m0.1 m1.1 i0 k0 i1 k1 (.inl ⟨s0, s1⟩); omega
  · have := up m0.1 m2.1 i0 k0 i2 k2 (.inl ⟨s0, s2⟩); omega
  · have := up m1.1 m2.1 i1 k1 i2 k2 (.inr ⟨s1, s2⟩); omega
  · have := up m1.1 m2.1 i1 k1 i2 k2 (.inl ⟨s1, s2⟩); omega
  · have := up m0.1 m2.1 i0 k0 i2 k2 (.inr ⟨s0, s2⟩); omega
  · have := up m0.1 m1.1 i0 k0 i1 k1 (.inr ⟨s0, s1⟩); omega
  · have := up m0.1 m1.1 i0 k0 i1 k1 (.inr ⟨s0, s1⟩); omega

def loR (l : List Tm) : Int := if plB l = true then (if (ceL l).length = 0 then 0 else ((edM2 l 2).length : Int) - ((ceL l).length : Int) + 1) else 0
theorem loR_no {l : List Tm} (h : plB l = false) : loR l = 0 := if_neg (by simp [h])
theorem loR_zero {l : List Tm} (h : plB l = true) (h0 : (ceL l).length = 0) : loR l = 0 := by unfold loR; rw [if_pos h, if_pos h0]
theorem loR_yes {l : List Tm} (h : plB l = true) (h0 : ¬ (ceL l).length = 0) : loR l = ((edM2 l 2).length : Int) - ((ceL l).length : Int) + 1 := by unfold loR; rw [if_pos h, if_neg h0]
end Go.Proofs.YtcfplfjllnojoaaGreat
/-
  The cells at a side, of both; SegmentsOf of both.
  Condition: the slice reads as the terms that are named.
-/
namespace Go.Proofs.YtcfplfjllnojoaaGreat
set_option linter.unusedSimpArgs false
set_option linter.unusedVariables false
open Go.ChangeShapes Go.WideShapes Go.ChangeAt Go.RowKit Go.Maps
open Go.Sort (grow)

theorem clM_zero (l : List Tm) (e : List Int) : clM l 0 [] e = [] := by rw [clM_nil]; simp [clL]
theorem clL_pos {l : List Tm} {k : Nat} (hk : k ≤ (ceL l).length) {e : List Int} (h : 1 ≤ cntN l k e) : clL l k e ≠ [] := (clL_ne hk e).2 h
theorem clL_le (l : List Tm) (k : Nat) (e : List Int) : (clL l k e).length ≤ k := by
  unfold clL
  have := List.length_filter_le (fun c : Nat => decide (e ∈ sdL l ((ceL l).getD c []))) (List.range k)
  rw [List.length_range] at this
  rw [List.length_map]; exact this
theorem one_at (w : World) (v : Value) (g : Nat) (hg : w.heap.size = g) : (w.alloc (.cells #[v] 3)).cell? ⟨g, 0, none⟩ = some v := by
  subst hg
  exact cell_of_row (w.alloc (.cells #[v] 3)) w.heap.size 0 #[v] 3 (0, 0) (heap_alloc_new w _)
set_option maxHeartbeats 4000000 in
set_option maxRecDepth 100000 in
theorem cuAt_any (w : World) (B B' : Nat) (v s : Value) (l : List Tm) (e0 : List Int) (h : TmS w B v l) (hs : IS w B' s e0) (hl : plB l = true) :
    Calls Tryz.prog 15 #[v, s] w fun e w' => ∃ r, e = .returned r ∧ IS w' w.heap.size r (clL l (ceL l).length e0) ∧ Below w.heap.size w w' := by
  have HL := Lib.hid hl
  have H12 := Lib.hid (plB_le hl).2
  go_enter Tryz.func15, Tryz.ntmps15
  go_wp2_with fail
  refine (ceOf_any w B _ l h hl).mono ?_
  rintro e w2 ⟨r, C, rfl, hC, eC, b2⟩
  have H2 := Lib.hid (FS.below h b2)
  have HS2 := Lib.hid (hs.below b2)
  have HB2 := Lib.hid b2
  obtain ⟨A, cap, rfl, -, hp⟩ := hC.parts
  have HP := Lib.hid hp
  have HV := Lib.hid hC.2
  have HEC := Lib.hid eC
  have hle := ceL_len H12.out
  obtain ⟨n, hn⟩ : ∃ n, n = C.length := ⟨_, rfl⟩
  have hnc : n = (ceL l).length := by rw [hn, ← eC, lls_len]
  rw [← hnc] at hle
  have HN := Lib.hid hn
  have HNC := Lib.hid hnc
  rw [← hn]
  obtain ⟨i0, hi, hz0, hz1, hz2⟩ := info_parts infoInt
  clear h hs hl hC eC hp b2 hn hnc
  go_wp2
  go_loopw [5, 13] (fun o i wr => ∃ k : Nat, k ≤ n ∧ i = .int .i64 k ∧ Hid (IS wr w2.heap.size o (clL l k e0)) ∧ Below w2.heap.size w2 wr) (fun _ i _ => n - (intOf i).toNat)
  case atStart => exact ⟨0, by omega, rfl, Lib.hid (by rw [← clM_nil, clM_zero]; exact IS.nil_ _ _), Below.refl _ _⟩
  case round =>
    obtain ⟨k, hk, rfl, hst, hb⟩ := hrel
    by_cases hlt : k < n
    · obtain ⟨wO, hwO⟩ : ∃ wO, wO = wr := ⟨_, rfl⟩
      rw [← hwO] at hst hb ⊢
      clear hwO wr
      have hkc : k < C.length := by rw [← HN.out]; exact hlt
      obtain ⟨g, rfl, hc0⟩ := HP.out k hkc
      have hc := X3.below.box_old3 hc0 hb
      have his := (HV.out.at hkc).below hb
      have hcl := cell_in HEC.out hkc
      have hcg := pll_get HEC.out hkc
      have htm := FS.below H2.out hb
      obtain ⟨cv, hcv⟩ : ∃ cv, cv = pvl C k := ⟨_, rfl⟩
      obtain ⟨zs, hzs⟩ : ∃ zs, zs = pll C k := ⟨_, rfl⟩
      rw [← hcv] at hc his
      rw [← hzs] at his hcl hcg
      clear hc0 hcv hzs
      go_wp2_with fail
      refine (ceSides_any wO B _ _ _ l zs htm his HL.out hcl).mono ?_
      rintro e w3 ⟨rs, R, rfl, hRS, hR, b3⟩
      have hst3 := Lib.hid (hst.out.below b3)
      have HS3 := Lib.hid ((HS2.out.below hb).below b3)
      have HRM := Lib.hid (show ∀ e, e ∈ lls R ↔ e ∈ sdL l ((ceL l).getD k []) from fun e => by rw [hR, setX_mem totLx, hcg])
      have HRN := Lib.hid (show (lls R).Nodup by rw [hR]; exact inc_nodup (setX_inc totLx _))
      obtain ⟨A3, cap3, rfl, -, hp3⟩ := hRS.parts
      have HP3 := Lib.hid hp3
      have HV3 := Lib.hid hRS.2
      have hrl : R.length ≤ 12 := by
        rw [← lls_len, hR]
        have h1 := setX_len (sdL l zs)
        have h2 := hc_le hcl H12.out
        rw [← sdL_len] at h2
        omega
      obtain ⟨nr, hnr⟩ : ∃ nr, nr = R.length := ⟨_, rfl⟩
      have HNR := Lib.hid hnr
      rw [← hnr] at hrl ⊢
      have HB3 := Lib.hid (bel2 hb b3)
      have hs3 : w2.heap.size ≤ w3.heap.size := (bel2 hb b3).size
      have HST0 := Lib.hid (show IS w3 w2.heap.size u5 (clM l k [] e0) by rw [clM_nil]; exact hst3.out)
      have HLT0 := Lib.hid (fun q (hq : u5.ownBlock = some q) => (hst.out.lt q hq).2)
      have HAF3 := Lib.hid (show ∀ g, A3 = some ⟨g, 0, none⟩ → wO.heap.size ≤ g ∧ g < w3.heap.size from fun g hg => by subst hg; exact World.ownsRow.lt hRS.1 g rfl)
      have hO2 : w2.heap.size ≤ wO.heap.size := hb.size
      have hO3 : wO.heap.size ≤ w3.heap.size := b3.size
      clear hst hst3 hc his htm hcl hcg hRS hR hp3 b3 hb hnr
      go_wp2
      go_loopw [5, 22] (fun o i wr => ∃ j : Nat, j ≤ nr ∧ i = .int .i64 j ∧ Hid (IS wr w2.heap.size o (clM l k ((lls R).take j) e0) ∧ ∀ q, o.ownBlock = some q → q < wO.heap.size ∨ w3.heap.size ≤ q) ∧ Hid (∀ i, wO.heap.size ≤ i → i < w3.heap.size → wr.heap[i]? = w3.heap[i]?) ∧ Hid (Below w2.heap.size w2 wr) ∧ w3.heap.size ≤ wr.heap.size) (fun _ i _ => nr - (intOf i).toNat)
      case atStart => exact ⟨0, by omega, rfl, Lib.hid ⟨HST0.out, fun q hq => .inl (HLT0.out q hq)⟩, Lib.hid (fun i _ _ => rfl), HB3, Nat.le_refl _⟩
      case round =>
        clear HST0 HLT0 HS3
        obtain ⟨j, hj, rfl, hst, hkp, hb, hsz⟩ := hrel
        by_cases hltj : j < nr
        · have hjr : j < R.length := by rw [← HNR.out]; exact hltj
          have hjl : j < (lls R).length := by rw [lls_len]; exact hjr
          obtain ⟨g3, rfl, ha0⟩ := HP3.out j hjr
          have hg3 := HAF3.out g3 rfl
          have ha : wr.cell? ⟨g3, j, none⟩ = some (pvl R j) := by
            have hbl := hkp.out g3 hg3.1 hg3.2
            unfold World.cell? at ha0 ⊢; rw [hbl]; exact ha0
          have hxi := (HV3.out.at hjr)
          have hx : IS wr wO.heap.size (pvl R j) (pll R j) := hxi.keep fun q hq => hkp.out q (hxi.lt q hq).1 (hxi.lt q hq).2
          have hs := HS2.out.below hb.out
          have HTK := Lib.hid (show (lls R).take (j + 1) = (lls R).take j ++ [pll R j] by
            rw [List.take_add_one, List.getElem?_eq_getElem hjl, lls_get hjr hjl]; rfl)
          have HNI := Lib.hid (show pll R j ∉ (lls R).take j from fun hm => by
            obtain ⟨i, hi, e⟩ := List.getElem_of_mem hm
            rw [List.length_take] at hi
            rw [List.getElem_take] at e
            have h1 : i < (lls R).length := by omega
            have := List.pairwise_iff_getElem.1 (List.nodup_iff_pairwise_ne.1 HRN.out) i j h1 hjl (by omega)
            rw [e, lls_get hjr hjl] at this
            exact this rfl)
          have HSAME := Lib.hid (l1Same_any wr _ _ _ _ _ _ hx hs)
          obtain ⟨xv, hxv⟩ : ∃ xv, xv = pvl R j := ⟨_, rfl⟩
          obtain ⟨ys, hys⟩ : ∃ ys, ys = pll R j := ⟨_, rfl⟩
          rw [← hxv] at ha HSAME
          rw [← hys] at HSAME HTK HNI
          have lg : g3 < wr.heap.size := cell_lt ha
          clear ha0 hxi hx hs hxv hys hjl
          cases hd : decide (ys = e0)
          · have hne : e0 ≠ ys := fun e => (of_decide_eq_false hd) e.symm
            have HE := Lib.hid (show IS wr w2.heap.size u5 (clM l k ((lls R).take (j + 1)) e0) ∧ ∀ q, u5.ownBlock = some q → q < wO.heap.size ∨ w3.heap.size ≤ q from by
              rw [HTK.out, clM_other hne]; exact hst.out)
            rw [hd] at HSAME
            clear hd hst
            go_wp2_with fail
            refine HSAME.out.mono ?_
            rintro e w5 ⟨rfl, nq, rfl⟩
            have HE5 := Lib.hid (show IS (wr.drewN nq) w2.heap.size u5 (clM l k ((lls R).take (j + 1)) e0) ∧ ∀ q, u5.ownBlock = some q → q < wO.heap.size ∨ w3.heap.size ≤ q from ⟨HE.out.1.drewN nq, HE.out.2⟩)
            have HK5 := Lib.hid (show ∀ i, wO.heap.size ≤ i → i < w3.heap.size → (wr.drewN nq).heap[i]? = w3.heap[i]? from hkp.out)
            have HB5 := Lib.hid (belN hb.out nq)
            go_wp2
            go_roundw
            case rel => exact ⟨j + 1, by omega, by go_num, HE5, HK5, HB5, hsz⟩
            case measure => simp [intOf]; omega
          · have he := of_decide_eq_true hd
            subst he
            rw [hd] at HSAME
            have HCS := Lib.hid (clM_same HNI.out (l := l) (k := k))
            have hlen := clM_le l k ((lls R).take j) ys
            obtain ⟨L0, hL0⟩ : ∃ L0, L0 = (clM l k ((lls R).take j) ys).length := ⟨_, rfl⟩
            have HL0 := Lib.hid hL0
            rw [← hL0] at hlen
            have HST := Lib.hid hst.out
            obtain ⟨ov, hov⟩ : ∃ ov, ov = u5 := ⟨_, rfl⟩
            clear hd hst hL0
            go_wp2_with fail
            refine HSAME.out.mono ?_
            rintro e w5 ⟨rfl, nq, rfl⟩
            have hI5 : IS ((wr.drewN nq).alloc (.cells #[.int .i64 (k : Int)] 3)) w2.heap.size u5 (clM l k ((lls R).take j) ys) := (HST.out.1.drewN nq).alloc _
            have HONE := Lib.hid (show ∀ m u, [Value.int .i64 (k : Int)][m]? = some u → ((wr.drewN nq).alloc (.cells #[.int .i64 (k : Int)] 3)).cell? ((⟨wr.heap.size, 0, none⟩ : Addr).add m) = some u from oneS_news (one_at (wr.drewN nq) (.int .i64 (k : Int)) wr.heap.size rfl))
            have HI5 := Lib.hid hI5
            have hsV : ((wr.drewN nq).alloc (.cells #[.int .i64 (k : Int)] 3)).heap.size = wr.heap.size + 1 := by simp
            have hBW : w2.heap.size ≤ wr.heap.size + 1 := by omega
            clear hI5 ha lg
            go_wp2_with (at_builtin; refine wpList_append_lies _ rfl _ _ 36 rfl w2.heap.size 3 i0 (.int .i64 0) 1 8 Tryz.underlying36 hi hz0 hz1 hz2 rfl (by decide) u5 L0 _ rfl (by rw [HL0.out]; exact HI5.out) ⟨wr.heap.size, 0, none⟩ 1 1 [.int .i64 (k : Int)] rfl rfl HONE.out (by simp [Value.oneCell']) (by omega) (by unfold maxLen; omega) (by omega) (by rw [hsV]; omega) (wr.heap.size + 1) hsV ?_; intro g cap6 w6 hown6 hg6 hloc hgl)
            have hsl : w3.heap.size ≤ w6.heap.size := by have := hg6.size; rw [hsV] at this; omega
            have HE := Lib.hid (show IS w6 w2.heap.size (.slice (some ⟨g, 0, none⟩) (L0 + 1) cap6) (clM l k ((lls R).take (j + 1)) ys) ∧ ∀ q, (Value.slice (some ⟨g, 0, none⟩) (L0 + 1) cap6).ownBlock = some q → q < wO.heap.size ∨ w3.heap.size ≤ q from by
              refine ⟨?_, fun q hq => ?_⟩
              · rw [HTK.out, HCS.out]
                exact IS.snoc HL0.out hown6
              · simp only [Value.ownBlock, Option.some.injEq] at hq
                subst hq
                rcases hloc with h | h
                · exact HST.out.2 _ h
                · omega)
            have HK := Lib.hid (show ∀ i, wO.heap.size ≤ i → i < w3.heap.size → w6.heap[i]? = w3.heap[i]? from fun i h1 h2 => by
              have t6 := hg6.block i (by rw [hsV]; omega) (fun e => by have := HST.out.2 _ e.symm; omega)
              rw [t6, ← hkp.out i h1 h2]
              exact (belA1 (Below.refl (wr.drewN nq).heap.size (wr.drewN nq)) (.cells #[.int .i64 (k : Int)] 3)).block i (by show i < wr.heap.size; omega))
            have HB6 := Lib.hid (show Below w2.heap.size w2 w6 from (belA1 (belN hb.out nq) _).grown hg6 (belA1 (belN hb.out nq) _).size (fun q hq => (HST.out.1.lt q hq).1))
            clear hown6 hg6 hloc hgl hsV
            go_wp2
            go_roundw
            case rel => exact ⟨j + 1, by omega, by go_num, HE, HK, HB6, hsl⟩
            case measure => simp [intOf]; omega
        · obtain rfl : j = nr := by omega
          have HE := Lib.hid (show IS wr w2.heap.size u5 (clL l (k + 1) e0) from by
            rw [← clN_next (X := (lls R).take j) (fun e => by rw [HNR.out, ← lls_len, List.take_length]; exact HRM.out e)]
            exact hst.out.1)
          go_wp2
          go_roundw
          case rel => exact ⟨k + 1, by omega, by go_num, HE, hb.out⟩
          case measure => simp [intOf]; omega
    · obtain rfl : k = n := by omega
      go_wp2
      go_ret
      exact ⟨_, rfl, by rw [← HNC.out]; exact hst.out.base HB2.out.size, bel2 HB2.out hb⟩
def sgL (l : List Tm) : List (List Int) := (edM2 l 2).map fun e => e ++ clL l (ceL l).length e
theorem sgL_len (l : List Tm) : (sgL l).length = (edM2 l 2).length := by simp [sgL]
def sgR (l : List Tm) : List (List Int) := if plB l = true then sgL l else []
theorem sgR_yes {l : List Tm} (h : plB l = true) : sgR l = sgL l := if_pos h
theorem sgR_no {l : List Tm} (h : plB l = false) : sgR l = [] := if_neg (by simp [h])
theorem few_sg {l : List Tm} {P : VL} (h : lls P = sgR l) : FewL P := by
  cases hq : plB l
  · rw [sgR_no hq] at h
    have : P = [] := List.map_eq_nil_iff.1 h
    subst this
    exact ⟨by simp, fun p hp => by simp at hp⟩
  · rw [sgR_yes hq] at h
    have h1 := ed_few (plB_le hq).2 2
    refine ⟨by rw [← lls_len, h, sgL_len]; omega, fun p hp => ?_⟩
    have : p.2 ∈ lls P := List.mem_map.2 ⟨p, hp, rfl⟩
    rw [h] at this
    obtain ⟨e, he, hpe⟩ := List.mem_map.1 this
    obtain ⟨i, k, -, -, rfl⟩ := ea_pair (List.mem_filter.1 he).1
    have h2 := clL_two hq [(i : Int), (k : Int)]
    rw [← hpe, List.length_append, show ([(i : Int), (k : Int)] : List Int).length = 2 from rfl]
    omega
theorem sg_next (l : List Tm) {j : Nat} (hj : j < (edM2 l 2).length) {e : List Int} (he : (edM2 l 2)[j] = e) : (sgL l).take (j + 1) = (sgL l).take j ++ [e ++ clL l (ceL l).length e] := by
  rw [List.take_add_one, List.getElem?_eq_getElem (by rw [sgL_len]; exact hj)]
  subst he
  simp [sgL]
theorem sg_edge {l : List Tm} {e : List Int} (he : e ∈ edM2 l 2) : ∃ i k : Nat, i < k ∧ k < l.length ∧ e = [(i : Int), (k : Int)] ∧ 2 ≤ (clL l (ceL l).length e).length := by
  obtain ⟨i, k, h1, h2, rfl⟩ := ea_pair (List.mem_filter.1 he).1
  refine ⟨i, k, h1, h2, rfl, ?_⟩
  rw [clL_len l _ _ (Nat.le_refl _)]
  exact (edM2_mem (by omega) _).1 he
/-- A slice put in another one's place in a row of slices. -/
theorem LS.set {w : World} {B g cap n : Nat} {P : VL} (hn : n = P.length) (h : LS w B (.slice (some ⟨g, 0, none⟩) n cap) P) {j : Nat} {x : Value} {zs : List Int} (hx : IS w B x zs) (hd : ∀ m, m < P.length → ∀ q, (pvl P m).ownBlock = some q → x.ownBlock ≠ some q) :
    LS (w.setCell ⟨g, j, none⟩ x) B (.slice (some ⟨g, 0, none⟩) n cap) (P.set j (x, zs)) ∧ w.grownBy (w.setCell ⟨g, j, none⟩ x) (some g) := by
  subst hn
  have s := World.ownsRow.stored h.1 j x
  have hin : ∀ p ∈ P.set j (x, zs), p = (x, zs) ∨ p ∈ P := fun p hp => (List.mem_or_eq_of_mem_set hp).symm
  have hd' : ∀ p ∈ P, ∀ q, p.1.ownBlock = some q → x.ownBlock ≠ some q := fun p hp q hq => by
    obtain ⟨m, hm, rfl⟩ := List.getElem_of_mem hp
    rw [← p_eq hm] at hq
    exact hd m hm q hq
  refine ⟨⟨?_, fun p hp => ?_, ?_⟩, s.2⟩
  · rw [List.length_set]
    have := s.1
    unfold vls at this ⊢
    rw [List.map_set]
    exact this
  · rcases hin p hp with rfl | h'
    · exact hx.in_grown s.2 (hx.other_row h.1)
    · exact (h.2.1 p h').in_grown s.2 ((h.2.1 p h').other_row h.1)
  · rw [List.pairwise_iff_getElem]
    intro a b ha hb hab
    rw [List.length_set] at ha hb
    rw [List.getElem_set, List.getElem_set]
    have hp := List.pairwise_iff_getElem.1 h.2.2 a b ha hb hab
    split
    · split
      · omega
      · exact fun q hq e => hd' _ (List.getElem_mem hb) q e hq
    · split
      · exact hd' _ (List.getElem_mem ha)
      · exact hp
/-- The map of edges, when a row that lies before it has changed. -/
theorem EdI.other {l : List Tm} {B b k : Nat} {X : List (List Int)} {nn lo hi : Nat} {w w' : World} {row : Option Nat} (h : EdI l B b k X nn lo hi w) (hg : w.grownBy w' row) (hr : ∀ g, row = some g → g < B ∧ g < b) : EdI l B b k X nn lo hi w' := by
  obtain ⟨D, vf, h1, h2, h3, h4⟩ := h
  have hbl := h1.lt
  obtain ⟨es, clock, q1, q2, q3, q4⟩ := h1
  refine ⟨D, vf, ⟨es, clock, (hg.block b hbl (fun e => by have := (hr b e.symm).2; omega)).trans q1, q2, q3, q4⟩, h2, fun e he => ⟨(h3 e he).1, (h3 e he).2.other hg (fun g hv e => by have := ((h3 _ he).2.lt g hv).1; have := (hr g e.symm).1; omega)⟩, h4⟩
/-- What the map of edges tells of a pair: the numbers of its cells. -/
theorem ed_get {l : List Tm} (h12 : l.length ≤ 12) {B b nn lo hi : Nat} {w : World} (h : EdI l B b (ceL l).length [] nn lo hi w) {i k : Int} (wi : (Lit.int .i64 i).wf = true) (wk : (Lit.int .i64 k).wf = true) :
    ∃ vv, (Instr.lookup 45 (.map (some b)) (.agg #[.int .i64 i, .int .i64 k]) false).run Tryz.prog w = .ok vv w ∧ IS w B vv (clL l (ceL l).length [i, k]) := by
  obtain ⟨D, vf, hD1, hD2, hD3, -⟩ := h
  obtain ⟨es, clock, hb, F, hs, hD⟩ := hD1
  rcases Maps.fit_look false prKeyed Tryz.underlying45 (zeroS w) hb F (pr_keyW wi wk) with ⟨hrun, _, hat⟩ | ⟨e0, y, _, _, hrun, hR0, hat, _⟩
  · refine ⟨.slice none 0 0, hrun.trans rfl, ?_⟩
    by_cases h0 : clM l (ceL l).length [] [i, k] = []
    · rw [← clM_nil, h0]; exact IS.nil_ _ _
    · have h1 := (hD3 _ h0).1 (.lit (.bool false))
      rw [hD, hat] at h1
      cases h1
  · have hh : has D (prK [i, k]) = true := by rw [hD]; exact has_true_of_atKey hat
    obtain ⟨e, he, hp⟩ := (hD2 _).1 hh
    have hea := clM_ea (Nat.le_refl _) (fun e he => absurd he (by simp)) he
    obtain ⟨a, c, q1, q2, rfl⟩ := ea_pair hea
    obtain ⟨rfl, rfl⟩ := pr_injW wi wk (wf_i64 (by omega)) (wf_i64 (by omega)) hp
    obtain ⟨d1, d2⟩ := hD3 _ he
    obtain ⟨-, rfl⟩ := hR_inv hR0
    have hv : e0.val = vf [(a : Int), (c : Int)] := by
      have h1 := d1 (.lit (.bool false))
      rw [hD, hat] at h1
      injection h1
    refine ⟨e0.val, hrun.trans rfl, ?_⟩
    rw [hv, ← clM_nil]
    exact d2
end Go.Proofs.YtcfplfjllnojoaaGreat

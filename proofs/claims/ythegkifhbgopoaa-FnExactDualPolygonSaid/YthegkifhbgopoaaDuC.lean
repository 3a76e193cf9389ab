/-
  DualPolygon of the program: what the call returns.
  Condition: the slice reads as the list that is named.
-/
import Derived.Test.YthegkifhbgopoaaDuB
import Derived.Laws.EntriesVeiled
namespace Go.Proofs.Ythegkifhbgopoaa
set_option linter.unusedSimpArgs false
set_option linter.unusedVariables false
open Go.ChangeShapes Go.WideShapes Go.ChangeAt Go.RowKit
open Go.Sort (grow)

/-- The list of a function's first points. -/
def tabP (f : Nat → Pt) (n : Nat) : List Pt := (List.range n).map f
theorem tabP_len (f : Nat → Pt) (n : Nat) : (tabP f n).length = n := by simp [tabP]
theorem tabP_pd (f : Nat → Pt) {n k : Nat} (h : k < n) : pd (tabP f n) k = f k := by
  rw [pd_eq _ _ (by rw [tabP_len]; exact h)]; simp [tabP]
theorem tabP_ext {f g : Nat → Pt} {n : Nat} (h : ∀ k, k < n → f k = g k) : tabP f n = tabP g n :=
  List.map_congr_left fun k hk => h k (List.mem_range.1 hk)
theorem tabP_set {f g : Nat → Pt} {n j : Nat} (hj : j < n) (h : ∀ k, k < n → k ≠ j → g k = f k) : (tabP f n).set j (g j) = tabP g n := by
  refine List.ext_getElem (by simp [tabP]) fun i h1 h2 => ?_
  rw [List.getElem_set]
  have hi : i < n := by simpa [tabP] using h2
  split
  · rename_i he; subst he; simp [tabP]
  · rename_i he
    have := h i hi fun e => he e.symm
    simp [tabP, this]
theorem tabP_self (l : List Pt) : tabP (pd l) l.length = l := by
  refine List.ext_getElem (by simp [tabP]) fun i h1 h2 => ?_
  simp [tabP, pd_eq l i h2]
theorem flatP_setD : ∀ (L : List Pt) (i : Nat) (t : Pt), i < L.length → flatP (L.set i t) = ((flatP L).set (i * 2) t.1).set (i * 2 + 1) t.2
  | [], _, _, h => by simp at h
  | a :: r, 0, t, _ => rfl
  | a :: r, i + 1, t, h => by
    have ih := flatP_setD r i t (by simpa using h)
    show encP a ++ flatP (r.set i t) = _
    rw [ih, show (i + 1) * 2 = i * 2 + 1 + 1 by omega]
    rfl
theorem flatP_set1 : ∀ (L : List Pt) (i : Nat) (y : Int), i < L.length → flatP (L.set i ((pd L i).1, y)) = (flatP L).set (i * 2 + 1) y
  | a :: r, 0, y, _ => rfl
  | a :: r, i + 1, y, h => by
    have ih := flatP_set1 r i y (by simpa using h)
    show encP a ++ flatP (r.set i ((pd r i).1, y)) = _
    rw [ih, show (i + 1) * 2 + 1 = (i * 2 + 1) + 1 + 1 by omega]
    rfl
theorem replicate_two9 (m : Nat) : List.replicate (m + 2) (0 : Int) = List.replicate m 0 ++ [0, 0] := by
  rw [show m + 2 = (m + 1) + 1 by omega, List.replicate_succ', List.replicate_succ', List.append_assoc]; rfl
theorem madeP (n : Nat) : ints (flatP (tabP (fun _ => (0, 0)) n)) = (madeCells (.agg #[.int .i64 0, .int .i64 0] : Value).cells (n * 2)).toList := by
  have e := made_ints 2 (n * 2) (by omega)
  refine Eq.trans ?_ e.symm
  clear e
  congr 1
  induction n with
  | zero => rfl
  | succ n ih =>
    have : tabP (fun _ => ((0, 0) : Pt)) (n + 1) = tabP (fun _ => (0, 0)) n ++ [(0, 0)] := by simp [tabP, List.range_succ]
    rw [this, flatP_snoc, ih, show (n + 1) * 2 = n * 2 + 2 by omega]
    show List.replicate (n * 2) (0 : Int) ++ [0, 0] = List.replicate (n * 2 + 2) 0
    rw [replicate_two9]
/-- Two stores side by side into a row. -/
theorem two_put {T : TypeId} {k base g n cap : Nat} {w : World} {xs : List Value} (h : w.ownsRow base T k (.slice (some ⟨g, 0, none⟩) n cap) n xs) (i : Nat) (u v : Value) : ((w.setCell ⟨g, i, none⟩ u).setCell ⟨g, i + 1, none⟩ v).ownsRow base T k (.slice (some ⟨g, 0, none⟩) n cap) n ((xs.set i u).set (i + 1) v) ∧ w.grownBy ((w.setCell ⟨g, i, none⟩ u).setCell ⟨g, i + 1, none⟩ v) (some g) := by
  have s0 := World.ownsRow.stored h i u
  have s1 := World.ownsRow.stored s0.1 (i + 1) v
  exact ⟨s1.1, ⟨s1.2.os.trans s0.2.os, s1.2.tape.trans s0.2.tape, s1.2.output.trans s0.2.output, Nat.le_trans s0.2.size s1.2.size, fun j hj hne => (s1.2.block j (Nat.lt_of_lt_of_le hj s0.2.size) hne).trans (s0.2.block j hj hne)⟩⟩
/-- The cells of a row of points. -/
theorem rowP_at {w : World} {B g n cap : Nat} {l : List Pt} (h : w.ownsRow B 108 2 (.slice (some ⟨g, 0, none⟩) n cap) n (ints (flatP l))) {k : Nat} (hk : k < n) : X2 w g (k * 2) (pd l k) ∧ w.frozen? ⟨g, k * 2, none⟩ = false ∧ w.frozen? ⟨g, k * 2 + 1, none⟩ = false ∧ g < w.heap.size ∧ B ≤ g := by
  have hlen : (flatP l).length = n * 2 := by have := h.1; simpa [ints] using this
  have hll : l.length = n := by rw [flatP_len] at hlen; omega
  obtain ⟨e0, e1⟩ := flatP_gd (ps := l) (j := k) (by omega)
  have c0 := World.ownsRow.cellAt h (k * 2) (by omega)
  have c1 := World.ownsRow.cellAt h (k * 2 + 1) (by omega)
  rw [getD_ints _ _ (by omega), e0] at c0
  rw [getD_ints _ _ (by omega), e1] at c1
  have hl := World.ownsRow.lt h g rfl
  exact ⟨⟨c0, c1⟩, World.ownsRow.frozenAt h _, World.ownsRow.frozenAt h _, hl.2, hl.1⟩
def sdF (l : List Tm) (j : Nat) (k : Nat) : Pt := if k < j then sdO (td l k) else (0, 0)
def coF (d : List Pt) (j : Nat) (k : Nat) : Pt := if k < j then (psF Prod.fst d k, psF Prod.snd d k) else (0, 0)
def cdF (d : List Pt) (L : Int) (j : Nat) (k : Nat) : Pt := if k < j then (psF Prod.fst d k, psF Prod.snd d k - L) else (psF Prod.fst d k, psF Prod.snd d k)
theorem sdF_set {l : List Tm} {n j : Nat} (hj : j < n) : (tabP (sdF l j) n).set j (sdO (td l j)) = tabP (sdF l (j + 1)) n := by
  have e : sdF l (j + 1) j = sdO (td l j) := if_pos (by omega)
  rw [← e]
  refine tabP_set hj fun k _ hne => ?_
  unfold sdF
  by_cases h : k < j
  · rw [if_pos h, if_pos (by omega)]
  · rw [if_neg h, if_neg (by omega)]
theorem coF_set {d : List Pt} {n j : Nat} (hj : j < n) : (tabP (coF d j) n).set j (psF Prod.fst d j, psF Prod.snd d j) = tabP (coF d (j + 1)) n := by
  have e : coF d (j + 1) j = (psF Prod.fst d j, psF Prod.snd d j) := if_pos (by omega)
  rw [← e]
  refine tabP_set hj fun k _ hne => ?_
  unfold coF
  by_cases h : k < j
  · rw [if_pos h, if_pos (by omega)]
  · rw [if_neg h, if_neg (by omega)]
theorem cdF_set {d : List Pt} {L : Int} {n j : Nat} (hj : j < n) : (tabP (cdF d L j) n).set j ((pd (tabP (cdF d L j) n) j).1, psF Prod.snd d j - L) = tabP (cdF d L (j + 1)) n := by
  have e0 : (pd (tabP (cdF d L j) n) j).1 = psF Prod.fst d j := by rw [tabP_pd _ hj]; unfold cdF; rw [if_neg (by omega)]
  have e : cdF d L (j + 1) j = (psF Prod.fst d j, psF Prod.snd d j - L) := if_pos (by omega)
  rw [e0, ← e]
  refine tabP_set hj fun k _ hne => ?_
  unfold cdF
  by_cases h : k < j
  · rw [if_pos h, if_pos (by omega)]
  · rw [if_neg h, if_neg (by omega)]
theorem sdF_end (l : List Tm) : tabP (sdF l l.length) l.length = sdL9 l := by
  rw [← tabP_self (sdL9 l), sdL9_len]
  refine tabP_ext fun k hk => ?_
  unfold sdF
  rw [if_pos hk, pd_sdL hk]
theorem coF_end (d : List Pt) : tabP (coF d d.length) d.length = tabP (cdF d (mnA (psF Prod.snd d) d.length) 0) d.length :=
  tabP_ext fun k hk => by unfold coF cdF; rw [if_pos hk, if_neg (by omega)]
theorem cdF_end (d : List Pt) : tabP (cdF d (mnA (psF Prod.snd d) d.length) d.length) d.length = corI d := by
  unfold corI tabP
  exact List.map_congr_left fun k hk => by unfold cdF; rw [if_pos (List.mem_range.1 hk)]
theorem cor_all {d : List Pt} (h : ∀ k, k < d.length → ptG (psF Prod.fst d k, psF Prod.snd d k - mnA (psF Prod.snd d) d.length) = true) : (corI d).all ptG = true := by
  rw [List.all_eq_true]
  intro x hx
  unfold corI at hx
  obtain ⟨k, hk, rfl⟩ := List.mem_map.1 hx
  exact h k (List.mem_range.1 hk)
theorem cor_bad {d : List Pt} {k : Nat} (hk : k < d.length) (h : ptG (psF Prod.fst d k, psF Prod.snd d k - mnA (psF Prod.snd d) d.length) = false) : (corI d).all ptG = false := by
  rw [← Bool.not_eq_true, List.all_eq_true]
  intro ha
  have := ha (psF Prod.fst d k, psF Prod.snd d k - mnA (psF Prod.snd d) d.length) (by unfold corI; exact List.mem_map.2 ⟨k, List.mem_range.2 hk, rfl⟩)
  rw [h] at this; cases this
set_option maxHeartbeats 8000000 in
set_option maxRecDepth 100000 in
theorem implDualPolygon_any (w : World) (B : Nat) (v : Value) (l : List Tm) (h : RyS w B v l) : Calls Try.prog 45 #[v] w fun e w' => GivesPtB (duB l) (duR l) w e w' := by
  have HI := Lib.hid (implIsBalanced_any w B v l h)
  cases hb : baB l
  · have HN := Lib.hid (du_no1 hb)
    rw [hb] at HI
    generalize ryB l = q at HI
    clear hb h
    cases q
    all_goals
      go_enter Try.func45, Try.ntmps45
      go_wp2_with fail
      refine HI.out.mono ?_
      rintro e w1 ⟨rfl, b1⟩
      go_wp2
      go_ret2
      exact givesPtB_nil HN.out (du_no HN.out) b1
  · have hl : ryB l = true := by
      cases hr : ryB l
      · unfold baB at hb; rw [hr] at hb; cases hb
      · rfl
    rw [hb, hl] at HI
    obtain ⟨A, cap, rfl, hm, hp⟩ := RyS.parts h
    rcases Nat.eq_zero_or_pos l.length with h0 | h0
    · have HN := Lib.hid (du_no2 h0)
      rw [h0] at HI ⊢
      clear hb h hl hp hm
      go_enter Try.func45, Try.ntmps45
      go_wp2_with fail
      refine HI.out.mono ?_
      rintro e w1 ⟨rfl, b1⟩
      go_wp2
      go_ret2
      exact givesPtB_nil HN.out (du_no HN.out) b1
    · have HDU := Lib.hid (du_is hb h0)
      have HP := Lib.hid hp
      have HRT := Lib.hid (fun j (hj : j < l.length) => ryB_at hl hj)
      have HSN := Lib.hid (fun a (ha : a ∈ sdL9 l) => And.intro (sdL_nz hl a ha) (sdL_sm hl a ha))
      have HIS := Lib.hid (fun (d : List Pt) (h1 : d.Perm (sdL9 l)) h2 => duI_is hl h1 h2)
      have HSM := Lib.hid (show ∀ a ∈ duI l, Sm 400 a from fun a ha => sdL_sm hl a ((duI_perm l).mem_iff.1 ha))
      have hle := ryB_le hl
      obtain ⟨n, hn⟩ : ∃ n, n = l.length := ⟨_, rfl⟩
      have HN := Lib.hid hn
      rw [← hn] at hm h0 hle HI ⊢
      have hn0 : ¬ n = 0 := by omega
      have hnz : ((n : Int) == 0) = false := by simp; omega
      unfold maxLen at hm
      obtain ⟨i0, hi, hz0, hz1, hz2⟩ := info_parts infoPoint
      clear hb h hl hp hn
      go_enter Try.func45, Try.ntmps45
      go_wp2_with fail
      refine HI.out.mono ?_
      rintro e w1 ⟨rfl, b1⟩
      have HB1 := Lib.hid b1
      go_wp2_with (refine wpList_make_full _ rfl _ _ 66 rfl w1.heap.size 108 i0 (.agg #[.int .i64 0, .int .i64 0]) 2 Try.underlying66 hi hz0 hz1 .i64 .i64 _ _ n rfl rfl rfl rfl (by rw [hz2]; omega) (by simp only [maxLen]; omega) (Nat.le_refl _) ?_; intro w2 hown hgrow)
      have hb2 : Below w1.heap.size w1 w2 := (Below.refl _ _).grown hgrow (Nat.le_refl _) (fun _ h => by cases h)
      have hrow0 : w2.ownsRow w1.heap.size 108 2 (.slice (some ⟨w1.heap.size, 0, none⟩) n n) n (ints (flatP (tabP (sdF l 0) n))) := by
        have e : tabP (sdF l 0) n = tabP (fun _ => (0, 0)) n := tabP_ext fun k _ => by unfold sdF; rw [if_neg (by omega)]
        rw [e, madeP]; exact hown
      clear hown hgrow
      go_wp2
      go_loopw [36] (fun i wr => ∃ j : Nat, j ≤ n ∧ i = .int .i64 j ∧ Hid (wr.ownsRow w1.heap.size 108 2 (.slice (some ⟨w1.heap.size, 0, none⟩) n n) n (ints (flatP (tabP (sdF l j) n)))) ∧ Below w1.heap.size w1 wr) (fun i _ => n - (intOf i).toNat)
      case atStart => exact ⟨0, by omega, rfl, Lib.hid hrow0, hb2⟩
      case round =>
        obtain ⟨j, hj, rfl, hrow, hb⟩ := hrel
        clear hrow0 hb2
        by_cases hlt : j < n
        · have hjl : j < l.length := by rw [← HN.out]; exact hlt
          obtain ⟨gs, rfl, hx0⟩ := HP.out j hjl
          obtain ⟨c0, c1, c2⟩ := X3.below hx0 (bel2 HB1.out hb)
          have hbA := hb.alloc hb.size (.cells #[.int .i64 (td l j).1, .int .i64 (td l j).2.1, .int .i64 (td l j).2.2] 39)
          have hrA := Lib.hid (World.ownsRow.alloc hrow.out (.cells #[.int .i64 (td l j).1, .int .i64 (td l j).2.1, .int .i64 (td l j).2.2] 39))
          have hcall := Lib.hid (fun W => sideOf_any (td l j) W (HRT.out j hjl))
          have hgl : gs < wr.heap.size := cell_lt c0
          go_wp2_with fail
          refine (hcall.out _).mono ?_
          rintro e w3 ⟨rfl, b3⟩
          have hb3 := bel2 hbA b3
          obtain ⟨x, hx⟩ : ∃ x, x = sdO (td l j) := ⟨_, rfl⟩
          rw [← hx]
          have hr3 := FS.below (zs := flatP (tabP (sdF l j) n)) hrA.out b3
          obtain ⟨⟨d0, d1⟩, f0, f1, hl3, -⟩ := rowP_at hr3 hlt
          have s2 := two_put hr3 (j * 2) (.int .i64 x.1) (.int .i64 x.2)
          have hrow4 := s2.1
          rw [show ((ints (flatP (tabP (sdF l j) n))).set (j * 2) (.int .i64 x.1)).set (j * 2 + 1) (.int .i64 x.2) = ints (flatP (tabP (sdF l (j + 1)) n)) from by rw [← sdF_set hlt, ← hx, flatP_setD _ j _ (by rw [tabP_len]; exact hlt)]; unfold ints; simp only [List.map_set]] at hrow4
          have hb4 : Below w1.heap.size w1 ((w3.setCell ⟨w1.heap.size, j * 2, none⟩ (.int .i64 x.1)).setCell ⟨w1.heap.size, j * 2 + 1, none⟩ (.int .i64 x.2)) := (hb3.setCell (Nat.le_refl _) _).setCell (Nat.le_refl _) _
          have HE := Lib.hid (And.intro hrow4 hb4)
          clear s2 hrow4 hb4 hr3 hrow hrA hcall c0 c1 c2 hx hb3 b3 hbA hx0
          go_wp2
          go_roundw
          case rel => exact ⟨j + 1, by omega, by go_num, Lib.hid HE.out.1, HE.out.2⟩
          case measure => simp [intOf]; omega
        · obtain rfl : j = n := by omega
          have HS := Lib.hid (show PtS wr w1.heap.size (.slice (some ⟨w1.heap.size, 0, none⟩) j j) (sdL9 l) from by
            have h1 := hrow.out
            rw [show tabP (sdF l j) j = sdL9 l by rw [HN.out]; exact sdF_end l] at h1
            unfold PtS FS
            rw [sdL9_len, ← HN.out]
            exact h1)
          have HB2 := Lib.hid (bel2 HB1.out hb)
          clear hrow hb
          go_wp2_with (refine wpList_make_full _ rfl _ _ 66 rfl wr.heap.size 108 i0 (.agg #[.int .i64 0, .int .i64 0]) 2 Try.underlying66 hi hz0 hz1 .i64 .i64 _ _ j rfl rfl rfl rfl (by rw [hz2]; omega) (by simp only [maxLen]; omega) (Nat.le_refl _) ?_; intro w3 hown hgrow)
          have hb3 : Below wr.heap.size wr w3 := (Below.refl _ _).grown hgrow (Nat.le_refl _) (fun _ h => by cases h)
          have hC0 : w3.ownsRow wr.heap.size 108 2 (.slice (some ⟨wr.heap.size, 0, none⟩) j j) j (ints (flatP (tabP (coF (duI l) 0) j))) := by
            have e : tabP (coF (duI l) 0) j = tabP (fun _ => (0, 0)) j := tabP_ext fun k _ => by unfold coF; rw [if_neg (by omega)]
            rw [e, madeP]; exact hown
          have hs3 : wr.heap.size < w3.heap.size := (World.ownsRow.lt hC0 wr.heap.size rfl).2
          have hA0 : (w3.alloc (.cells #[.int .i64 0, .int .i64 0] 108)).ownsRow w3.heap.size 108 2 (.slice (some ⟨w3.heap.size, 0, none⟩) 1 1) 1 (ints (flatP [(0, 0)])) := World.ownsRow_lit w3 #[.int .i64 0, .int .i64 0] 1 (Nat.le_refl _) (by decide) rfl
          have hC1 := World.ownsRow.alloc hC0 (.cells #[.int .i64 0, .int .i64 0] 108)
          have hb4 := (bel2 HB2.out hb3).alloc (bel2 HB2.out hb3).size (.cells #[.int .i64 0, .int .i64 0] 108)
          have HS4 := Lib.hid (FS.alloc (FS.below HS.out hb3) (.cells #[.int .i64 0, .int .i64 0] 108))
          have HCA := Lib.hid (And.intro hA0 (And.intro hC1 hb4))
          have hsz4 := World.size_alloc w3 (.cells #[.int .i64 0, .int .i64 0] 108)
          clear hown hgrow hC0 hA0 hC1 hb4 hb3
          go_wp2_with fail
          refine (putInOrderD_any _ w1.heap.size _ (sdL9 l) HS4.out (by rw [sdL9_len, ← HN.out]; omega) HSN.out).mono ?_
          rintro e w5 ⟨r, d, rfl, hr, hpd, b5⟩
          have hd : d = duI l := HIS.out d hpd.out.1 hpd.out.2
          subst hd
          have hdl : (duI l).length = j := by rw [duI_len, HN.out]
          obtain ⟨hA0, hC1, hb4⟩ := HCA.out
          have hA5 := Lib.hid (FS.below (zs := flatP [(0, 0)]) hA0 b5)
          have hC5 := Lib.hid (FS.below (zs := flatP (tabP (coF (duI l) 0) j)) hC1 b5)
          have HB5 := Lib.hid (bel2 hb4 b5)
          have hs5 := b5.size
          have hwr := HB2.out.size
          rw [hsz4] at hr hs5
          obtain ⟨g5, capd, hrd⟩ : ∃ g5 capd, r = .slice (some ⟨g5, 0, none⟩) (duI l).length capd := by
            rcases hr.2 with ⟨-, h1⟩ | ⟨g5, capd, cur, h1, -⟩
            · omega
            · exact ⟨g5, capd, h1⟩
          subst hrd
          have HR5 := Lib.hid (show FS 108 2 w5 (w3.heap.size + 1) (.slice (some ⟨g5, 0, none⟩) j capd) j (flatP (duI l)) by rw [← hdl]; exact hr)
          rw [hdl]
          obtain ⟨N2, hN2⟩ : ∃ N2, N2 = wr.heap.size := ⟨_, rfl⟩
          obtain ⟨N3, hN3⟩ : ∃ N3, N3 = w3.heap.size := ⟨_, rfl⟩
          have HDL := Lib.hid hdl
          have HBX := Lib.hid (show ∀ k, k ≤ j → (-4000 ≤ psF Prod.fst (duI l) k ∧ psF Prod.fst (duI l) k ≤ 4000) ∧ (-4000 ≤ psF Prod.snd (duI l) k ∧ psF Prod.snd (duI l) k ≤ 4000) from fun k hk => by
            have a1 := psF_bd (f := Prod.fst) (l := duI l) (fun a ha => by have := HSM.out a ha; unfold Sm at this; omega) k (by omega)
            have a2 := psF_bd (f := Prod.snd) (l := duI l) (fun a ha => by have := HSM.out a ha; unfold Sm at this; omega) k (by omega)
            omega)
          have HMB := Lib.hid (show ∀ k, k ≤ j → -4000 ≤ mnA (psF Prod.snd (duI l)) k ∧ mnA (psF Prod.snd (duI l)) k ≤ 0 from fun k hk => mnA_bd (by omega) k fun i hi => (HBX.out i (by omega)).2.1)
          rw [← hN2] at hC5 hs3 hwr
          rw [← hN3] at hA5 hs3 HR5 hs5
          rw [← hN2, ← hN3]
          obtain ⟨D, hD⟩ : ∃ D, D = duI l := ⟨_, rfl⟩
          rw [← hD] at HR5 hC5 HDL HBX HMB HDU HSM
          have HDEQ := Lib.hid hD
          clear hD
          have hws := HB5.out.size
          clear hr hpd hA0 hC1 hb4 HCA HS4 HS hs5 hdl hN2 hN3 b5
          go_wp2
          go_loopw [11, 53] (fun m i wx => ∃ k : Nat, k ≤ j ∧ i = .int .i64 k ∧ m = .int .i64 (mnA (psF Prod.snd D) k) ∧ Hid (wx.ownsRow N2 108 2 (.slice (some ⟨N2, 0, none⟩) j j) j (ints (flatP (tabP (coF D k) j)))) ∧ Hid (wx.ownsRow N3 108 2 (.slice (some ⟨N3, 0, none⟩) 1 1) 1 (ints (flatP [(psF Prod.fst D k, psF Prod.snd D k)]))) ∧ Hid (FS 108 2 wx (N3 + 1) (.slice (some ⟨g5, 0, none⟩) j capd) j (flatP D)) ∧ Below w.heap.size w wx) (fun _ i _ => j - (intOf i).toNat)
          case atStart => exact ⟨0, by omega, rfl, rfl, hC5, by rw [psF_0, psF_0]; exact hA5, HR5, HB5.out⟩
          case round =>
            obtain ⟨k, hk, rfl, rfl, hC, hA, hDD, hb⟩ := hrel
            clear hC5 hA5
            by_cases hlt : k < j
            · obtain ⟨⟨x0, x1⟩, -, -, hgl, hgb⟩ := rowP_at hDD.out hlt
              obtain ⟨bx, bm⟩ := And.intro (HBX.out k (by omega)) (HMB.out k (by omega))
              have bx2 := HBX.out (k + 1) (by omega)
              have e1 := psF_next Prod.fst D k (by rw [HDL.out]; exact hlt)
              have e2 := psF_next Prod.snd D k (by rw [HDL.out]; exact hlt)
              have HMN := Lib.hid (show mnA (psF Prod.snd D) (k + 1) = min (mnA (psF Prod.snd D) k) (psF Prod.snd D (k + 1)) from rfl)
              have HCS := Lib.hid (coF_set (d := D) (n := j) (j := k) hlt)
              have HE := Lib.hid (And.intro e1 e2)
              obtain ⟨X2, hX2e⟩ : ∃ X2, X2 = psF Prod.fst D (k + 1) := ⟨_, rfl⟩
              obtain ⟨Y2, hY2e⟩ : ∃ Y2, Y2 = psF Prod.snd D (k + 1) := ⟨_, rfl⟩
              rw [← hX2e] at bx2 HE
              rw [← hY2e] at bx2 HE HMN
              have HXE := Lib.hid (And.intro hX2e hY2e)
              clear hX2e hY2e
              generalize psF Prod.fst D k = X at bx hA HE HCS
              generalize psF Prod.snd D k = Y at bx hA HE HCS
              generalize mnA (psF Prod.snd D) k = M at bm HMN ⊢
              obtain ⟨qx, qy, hq⟩ : ∃ qx qy, pd D k = (qx, qy) := ⟨_, _, rfl⟩
              rw [hq] at x0 x1 HE
              have HX2 := Lib.hid (show X2 = X + qx from HE.out.1)
              have HY2 := Lib.hid (show Y2 = Y + qy from HE.out.2)
              have w1' : IntKind.i64.wrap (X + qx) = X + qx := IntWalk.i64_in _ (by have := HX2.out; omega)
              have w2' : IntKind.i64.wrap (Y + qy) = Y + qy := IntWalk.i64_in _ (by have := HY2.out; omega)
              have hbox := P2.new wr (qx, qy) 108
              have hC0 := Lib.hid (World.ownsRow.alloc hC.out (.cells #[.int .i64 qx, .int .i64 qy] 108))
              have hA0 := Lib.hid (World.ownsRow.alloc hA.out (.cells #[.int .i64 qx, .int .i64 qy] 108))
              have hD0 := Lib.hid (FS.alloc hDD.out (.cells #[.int .i64 qx, .int .i64 qy] 108))
              have hb0 := hb.alloc hb.size (.cells #[.int .i64 qx, .int .i64 qy] 108)
              have hsz := World.size_alloc wr (.cells #[.int .i64 qx, .int .i64 qy] 108)
              clear hq e1 e2 hC hA hDD hb HE bx bx2 bm
              go_upto_region 16 with fail
              generalize wr.alloc (.cells #[.int .i64 qx, .int .i64 qy] 108) = W0 at hbox hC0 hA0 hD0 hb0 hsz ⊢
              obtain ⟨⟨d0, d1⟩, f0, f1, hl0, -⟩ := rowP_at hC0.out hlt
              obtain ⟨⟨a0, a1⟩, -, -, hl1, -⟩ := rowP_at hA0.out (show 0 < 1 by omega)
              rw [Nat.zero_mul] at a0 a1
              rw [Nat.zero_add] at a1
              replace a0 : W0.cell? ⟨N3, 0, none⟩ = some (.int .i64 X) := a0
              replace a1 : W0.cell? ⟨N3, 1, none⟩ = some (.int .i64 Y) := a1
              obtain ⟨hC1, gr1'⟩ := two_put hC0.out (k * 2) (.int .i64 X) (.int .i64 Y)
              have hA1 := Lib.hid (FS.other (zs := flatP [(X, Y)]) hA0.out gr1' (fun g hg e => by simp [Value.ownBlock] at hg e; omega))
              have hD1 := Lib.hid (FS.other hD0.out gr1' (fun g hg e => by simp [Value.ownBlock] at hg e; omega))
              have hbx1 : P2 ((W0.setCell ⟨N2, k * 2, none⟩ (.int .i64 X)).setCell ⟨N2, k * 2 + 1, none⟩ (.int .i64 Y)) wr.heap.size (qx, qy) := ⟨gr1'.cell hbox.1 (fun e => by simp at e; omega), gr1'.cell hbox.2 (fun e => by simp at e; omega)⟩
              have hsz1 := gr1'.size
              have hb1 := (hb0.setCell (p := ⟨N2, k * 2, none⟩) hwr (.int .i64 X)).setCell (p := ⟨N2, k * 2 + 1, none⟩) hwr (.int .i64 Y)
              have HC1 := Lib.hid (show ((W0.setCell ⟨N2, k * 2, none⟩ (.int .i64 X)).setCell ⟨N2, k * 2 + 1, none⟩ (.int .i64 Y)).ownsRow N2 108 2 (.slice (some ⟨N2, 0, none⟩) j j) j (ints (flatP (tabP (coF D (k + 1)) j))) from by
                rw [← HCS.out, flatP_setD _ _ _ (by rw [tabP_len]; exact hlt)]
                have e : ints (((flatP (tabP (coF D k) j)).set (k * 2) X).set (k * 2 + 1) Y) = ((ints (flatP (tabP (coF D k) j))).set (k * 2) (.int .i64 X)).set (k * 2 + 1) (.int .i64 Y) := by unfold ints; simp only [List.map_set]
                show World.ownsRow _ _ _ _ _ _ (ints (((flatP (tabP (coF D k) j)).set (k * 2) X).set (k * 2 + 1) Y))
                rw [e]; exact hC1)
              clear hC1 hC0 hA0 hD0 hb0 hbox gr1'
              go_upto_region 17 with fail
              generalize (W0.setCell ⟨N2, k * 2, none⟩ (.int .i64 X)).setCell ⟨N2, k * 2 + 1, none⟩ (.int .i64 Y) = W1 at hA1 hD1 hbx1 hb1 HC1 hsz1 ⊢
              obtain ⟨y0, y1⟩ := hbx1
              have hl5 : wr.heap.size < W1.heap.size := cell_lt y0
              clear a0 a1 d0 d1 f0 f1 hl0 hl1
              obtain ⟨⟨a0, a1⟩, f0, f1, hl1, -⟩ := rowP_at hA1.out (show 0 < 1 by omega)
              rw [Nat.zero_mul] at a0 a1 f0 f1
              rw [Nat.zero_add] at a1 f1
              replace a0 : W1.cell? ⟨N3, 0, none⟩ = some (.int .i64 X) := a0
              replace a1 : W1.cell? ⟨N3, 1, none⟩ = some (.int .i64 Y) := a1
              have tp := two_put hA1.out 0 (.int .i64 (X + qx)) (.int .i64 (Y + qy))
              have gr2' : W1.grownBy ((W1.setCell ⟨N3, 0, none⟩ (.int .i64 (X + qx))).setCell ⟨N3, 1, none⟩ (.int .i64 (Y + qy))) (some N3) := tp.2
              have HA2 := Lib.hid (show ((W1.setCell ⟨N3, 0, none⟩ (.int .i64 (X + qx))).setCell ⟨N3, 1, none⟩ (.int .i64 (Y + qy))).ownsRow N3 108 2 (.slice (some ⟨N3, 0, none⟩) 1 1) 1 (ints (flatP [(X2, Y2)])) from by rw [HX2.out, HY2.out]; exact tp.1)
              have HC2 := Lib.hid (FS.other (zs := flatP (tabP (coF D (k + 1)) j)) HC1.out gr2' (fun g hg e => by simp [Value.ownBlock] at hg e; omega))
              have HD2 := Lib.hid (FS.other hD1.out gr2' (fun g hg e => by simp [Value.ownBlock] at hg e; omega))
              have hb2 := (hb1.setCell (p := ⟨N3, 0, none⟩) (show w.heap.size ≤ N3 by omega) (.int .i64 (X + qx))).setCell (p := ⟨N3, 1, none⟩) (show w.heap.size ≤ N3 by omega) (.int .i64 (Y + qy))
              have hz2 : ((W1.setCell ⟨N3, 0, none⟩ (.int .i64 (X + qx))).setCell ⟨N3, 1, none⟩ (.int .i64 (Y + qy))).cell? ⟨N3, 1, none⟩ = some (.int .i64 (Y + qy)) := World.cell?_setCell_same _ _ _ ((World.cell?_setCell_other _ _ _ _ (by simp)).trans a1)
              clear tp gr2' hA1 hD1 hb1 HC1
              go_upto_region 18 with fail
              generalize (W1.setCell ⟨N3, 0, none⟩ (.int .i64 (X + qx))).setCell ⟨N3, 1, none⟩ (.int .i64 (Y + qy)) = W2 at HA2 HC2 HD2 hb2 hz2 ⊢
              have hl3 := cell_lt hz2
              clear a0 a1 f0 f1 hl1 y0 y1 w1' w2'
              have HMI := Lib.hid (show min M (Y + qy) = mnA (psF Prod.snd D) (k + 1) by rw [HMN.out, HY2.out])
              go_wp2
              all_goals
                go_roundw
                case rel => exact ⟨k + 1, by omega, by go_num, by rw [← HMI.out], HC2, by rw [← HXE.out.1, ← HXE.out.2]; exact HA2, HD2, hb2⟩
                case measure => simp [intOf]; omega
            · obtain rfl : k = j := by omega
              have HC := Lib.hid (show wr.ownsRow N2 108 2 (.slice (some ⟨N2, 0, none⟩) k k) k (ints (flatP (tabP (cdF D (mnA (psF Prod.snd D) k) 0) k))) from by
                have := hC.out
                have e := coF_end D
                rw [HDL.out] at e
                rw [e] at this; exact this)
              obtain ⟨L, hL⟩ : ∃ L, L = mnA (psF Prod.snd D) k := ⟨_, rfl⟩
              have HLE := Lib.hid hL
              have HLB := Lib.hid (HMB.out k (Nat.le_refl _))
              rw [← hL] at HC HLB ⊢
              clear hC hA hDD hL
              go_wp2
              go_loopw [80] (fun i wy => ∃ q : Nat, q ≤ k ∧ i = .int .i64 q ∧ Hid (wy.ownsRow N2 108 2 (.slice (some ⟨N2, 0, none⟩) k k) k (ints (flatP (tabP (cdF D L q) k)))) ∧ Hid (∀ z, z < q → ptG (psF Prod.fst D z, psF Prod.snd D z - L) = true) ∧ Below w.heap.size w wy) (fun i _ => k - (intOf i).toNat)
              case atStart => exact ⟨0, by omega, rfl, HC, Lib.hid (fun z hz => by omega), hb⟩
              case round =>
                obtain ⟨q, hq, rfl, hC, hall, hbq⟩ := hrel
                clear HC hb
                by_cases hlq : q < k
                · obtain ⟨⟨d0, d1⟩, f0, f1, hl0, -⟩ := rowP_at hC.out hlq
                  rw [tabP_pd _ hlq, show cdF D L q q = (psF Prod.fst D q, psF Prod.snd D q) from if_neg (by omega)] at d0 d1
                  dsimp only at d0 d1
                  have bx := HBX.out q (by omega)
                  have w1' : IntKind.i64.wrap (psF Prod.snd D q - L) = psF Prod.snd D q - L := IntWalk.i64_in _ (by have := HLB.out; omega)
                  have s1 := World.ownsRow.stored hC.out (q * 2 + 1) (.int .i64 (psF Prod.snd D q - L))
                  have HC1 := Lib.hid (show (wr.setCell ⟨N2, q * 2 + 1, none⟩ (.int .i64 (psF Prod.snd D q - L))).ownsRow N2 108 2 (.slice (some ⟨N2, 0, none⟩) k k) k (ints (flatP (tabP (cdF D L (q + 1)) k))) from by
                    rw [← cdF_set (d := D) (L := L) hlq, flatP_set1 _ _ _ (by rw [tabP_len]; exact hlq)]
                    have e : ints ((flatP (tabP (cdF D L q) k)).set (q * 2 + 1) (psF Prod.snd D q - L)) = (ints (flatP (tabP (cdF D L q) k))).set (q * 2 + 1) (.int .i64 (psF Prod.snd D q - L)) := by unfold ints; simp only [List.map_set]
                    rw [e]; exact s1.1)
                  have hb1 := hbq.setCell (p := ⟨N2, q * 2 + 1, none⟩) hwr (.int .i64 (psF Prod.snd D q - L))
                  have HT := Lib.hid (fun W => implIsPoint_any (psF Prod.fst D q, psF Prod.snd D q - L) W)
                  have HCB := Lib.hid (fun h => cor_bad (d := D) (k := q) (by rw [HDL.out]; exact hlq) h)
                  rw [HDL.out, ← HLE.out] at HCB
                  clear s1 hC bx
                  go_upto_region 24 with fail
                  generalize wr.setCell ⟨N2, q * 2 + 1, none⟩ (.int .i64 (psF Prod.snd D q - L)) = W1 at HC1 hb1 ⊢
                  clear d0 d1 f0 f1 hl0
                  have HALQ := Lib.hid (fun (hy : ptG (psF Prod.fst D q, psF Prod.snd D q - L) = true) => show ∀ z, z < q + 1 → ptG (psF Prod.fst D z, psF Prod.snd D z - L) = true from fun z hz => by
                    by_cases e : z = q
                    · subst e; exact hy
                    · exact hall.out z (by omega))
                  obtain ⟨⟨d0, d1⟩, f0, f1, hl0, -⟩ := rowP_at HC1.out hlq
                  rw [tabP_pd _ hlq, show cdF D L (q + 1) q = (psF Prod.fst D q, psF Prod.snd D q - L) from if_pos (by omega)] at d0 d1
                  dsimp only at d0 d1
                  obtain ⟨X, hX⟩ : ∃ X, X = psF Prod.fst D q := ⟨_, rfl⟩
                  obtain ⟨Y, hY⟩ : ∃ Y, Y = psF Prod.snd D q - L := ⟨_, rfl⟩
                  rw [← hX] at d0 HT HCB HALQ
                  rw [← hY] at d1 HT HCB HALQ
                  clear hX hY w1'
                  go_wp2_with fail
                  refine (HT.out _).mono ?_
                  rintro e w7 ⟨rfl, b7⟩
                  have HC7 := Lib.hid (FS.below (zs := flatP (tabP (cdF D L (q + 1)) k)) HC1.out b7.below)
                  have hb7 := bel2 hb1 b7.below
                  clear d0 d1 f0 f1 hl0 b7
                  cases hg : ptG (X, Y)
                  · have HNO := Lib.hid (HDU.out.trans (HCB.out hg))
                    go_wp2
                    go_ret2
                    exact givesPtB_nil HNO.out (du_no HNO.out) hb7
                  · have HALL2 := Lib.hid (HALQ.out hg)
                    go_wp2
                    go_roundw
                    case rel => exact ⟨q + 1, by omega, by go_num, HC7, HALL2, hb7⟩
                    case measure => simp [intOf]; omega
                · obtain rfl : q = k := by omega
                  have HALL := Lib.hid (HDU.out.trans (cor_all (d := D) (by rw [HDL.out, ← HLE.out]; exact hall.out)))
                  have HE := Lib.hid (show tabP (cdF D L q) q = corI D by
                    have := cdF_end D
                    rw [HDL.out, ← HLE.out] at this
                    exact this)
                  go_wp2
                  go_ret2
                  refine givesPtB_yes HALL.out ?_ hbq
                  have hr : duR l = corI D := by unfold duR; rw [if_pos HALL.out, HDEQ.out]
                  rw [hr]
                  unfold PtS FS
                  rw [corI_len, HDL.out, ← HE.out]
                  exact FS.base (zs := flatP (tabP (cdF D L q) q)) hC.out hwr
end Go.Proofs.Ythegkifhbgopoaa

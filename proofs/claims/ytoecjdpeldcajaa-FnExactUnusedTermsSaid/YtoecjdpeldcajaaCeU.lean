/-
  UnusedTerms of the program and of the model.
  Condition: the slice reads as the list that is named.
-/
import Derived.Test.YtoecjdpeldcajaaCePg
import Derived.Lib.AppendZeros
import Derived.Deep.MidRow
namespace Go.Proofs.Ytoecjdpeldcajaa
set_option linter.unusedSimpArgs false
set_option linter.unusedVariables false
open Go.ChangeShapes Go.WideShapes Go.ChangeAt Go.RowKit
open Go.Sort (grow)

/-- Does a cell hold a term; the terms that none holds. -/
def usB (l : List Tm) (k : Nat) : Bool := decide (∃ x ∈ ceL l, (k : Int) ∈ x)
def unL (l : List Tm) : Nat → List Int
  | 0 => []
  | k + 1 => unL l k ++ if usB l k = true then [] else [(k : Int)]
def unR (l : List Tm) : List Int := if plB l = true then unL l l.length else []
theorem unR_yes {l : List Tm} (h : plB l = true) : unR l = unL l l.length := if_pos h
theorem unR_no {l : List Tm} (h : plB l = false) : unR l = [] := if_neg (by simp [h])
theorem unL_yes {l : List Tm} {k : Nat} (h : usB l k = true) : unL l (k + 1) = unL l k := by rw [unL, if_pos h, List.append_nil]
theorem unL_no {l : List Tm} {k : Nat} (h : usB l k = false) : unL l (k + 1) = unL l k ++ [(k : Int)] := by rw [unL, if_neg (by rw [h]; simp)]
theorem unL_len (l : List Tm) : ∀ k, (unL l k).length ≤ k
  | 0 => by simp [unL]
  | k + 1 => by
    have := unL_len l k
    rw [unL, List.length_append]
    split <;> simp <;> omega
theorem unR_le (l : List Tm) : (unR l).length ≤ 1048576 := by
  cases h : plB l
  · rw [unR_no h]; simp
  · rw [unR_yes h]; have := unL_len l l.length; have := (plB_le h).2; omega
theorem cellU {l : List Tm} {P : VL} (hP : lls P = ceL l) {k : Nat} (hk : k < P.length) : pll P k ∈ ceL l := by
  rw [← hP, ← lls_get hk (by rw [lls_len]; exact hk)]; exact List.getElem_mem _
theorem usB_iff {l : List Tm} {P : VL} (hP : lls P = ceL l) (k : Nat) : usB l k = true ↔ ∃ j, j < P.length ∧ (k : Int) ∈ pll P j := by
  unfold usB
  rw [decide_eq_true_iff]
  constructor
  · rintro ⟨x, hx, hk⟩
    rw [← hP] at hx
    obtain ⟨j, hj, rfl⟩ := List.getElem_of_mem hx
    have hj' : j < P.length := by rw [← lls_len]; exact hj
    rw [lls_get hj' hj] at hk
    exact ⟨j, hj', hk⟩
  · rintro ⟨j, hj, hk⟩
    exact ⟨_, cellU hP hj, hk⟩
set_option maxHeartbeats 1000000 in
theorem l1Has_any (w : World) (B : Nat) (v : Value) (zs : List Int) (x : Int) (h : IS w B v zs) : Calls Try.prog 59 #[v, .int .i64 x] w fun e w' => e = .returned (.bool (decide (x ∈ zs))) ∧ w = w' := by
  obtain ⟨A, cap, rfl, hm, hp⟩ := h.parts
  have HP := Lib.hid hp
  obtain ⟨n, hn⟩ : ∃ n, n = zs.length := ⟨_, rfl⟩
  have HN := Lib.hid hn
  rw [← hn] at hm ⊢
  unfold maxLen at hm
  clear h hp hn
  go_enter Try.func59, Try.ntmps59
  go_wp2
  go_loopw [9] (fun i wr => ∃ k : Nat, k ≤ n ∧ i = .int .i64 k ∧ Hid (x ∉ zs.take k) ∧ w = wr) (fun i _ => n - (intOf i).toNat)
  case atStart => exact ⟨0, by omega, rfl, Lib.hid (by simp), rfl⟩
  case round =>
    obtain ⟨k, hk, rfl, hno, rfl⟩ := hrel
    by_cases hlt : k < n
    · have hkz : k < zs.length := by rw [← HN.out]; exact hlt
      obtain ⟨g, rfl, hc⟩ := HP.out k hkz
      obtain ⟨y, hy⟩ : ∃ y, y = gd zs k := ⟨_, rfl⟩
      have HY := Lib.hid hy
      rw [← hy] at hc
      clear hy
      by_cases he : y = x
      · have HE := Lib.hid (show decide (x ∈ zs) = true from decide_eq_true (by rw [← he, HY.out]; exact gd_mem hkz))
        subst he
        go_wp2
        go_ret
        exact ⟨ret_bool HE.out.symm, rfl⟩
      · have HE := Lib.hid (show x ∉ zs.take (k + 1) by
          rw [List.take_add_one, List.getElem?_eq_getElem hkz, ← gd_eq _ _ hkz, ← HY.out]
          simp only [Option.toList_some, List.mem_append, List.mem_singleton]
          rintro (h | h)
          · exact hno.out h
          · exact he h.symm)
        go_wp2
        go_roundw
        case rel => exact ⟨k + 1, by omega, by go_num, HE, by first | rfl | trivial⟩
        case measure => simp [intOf]; omega
    · obtain rfl : k = n := by omega
      have HE := Lib.hid (show decide (x ∈ zs) = false from decide_eq_false (by have := hno.out; rwa [HN.out, List.take_length] at this))
      go_wp2
      go_ret
      exact ⟨ret_bool HE.out.symm, rfl⟩
set_option maxHeartbeats 2000000 in
set_option maxRecDepth 100000 in
theorem specUnusedTerms_any (w : World) (B : Nat) (v : Value) (l : List Tm) (h : TmS w B v l) : Calls Try.prog 35 #[v] w fun e w' => GivesIB (plB l) (unR l) w e w' := by
  cases hl : plB l
  · have HL := Lib.hid hl
    have HN := Lib.hid (unR_no hl)
    clear hl
    go_enter Try.func35, Try.ntmps35
    go_wp2_with fail
    refine (plGood_any _ B _ l h).mono ?_
    rintro e w1 ⟨rfl, b1⟩
    rw [HL.out]
    go_wp2
    go_ret2
    exact givesIB_nil rfl HN.out b1
  · have HL := Lib.hid hl
    clear hl
    go_enter Try.func35, Try.ntmps35
    go_wp2_with fail
    refine (plGood_any _ B _ l h).mono ?_
    rintro e w1 ⟨rfl, b1⟩
    have h1 := FS.below h b1
    rw [HL.out]
    go_wp2_with fail
    refine (ceOf_any w1 B _ l h1 HL.out).mono ?_
    rintro e w2 ⟨r, P, rfl, hLS, hP, b2⟩
    have HB := Lib.hid (bel2 b1 b2)
    obtain ⟨At, capt, rfl, -, -⟩ := TmS.parts h
    obtain ⟨A, cap, rfl, -, hp⟩ := hLS.parts
    have HP := Lib.hid hp
    have HQ := Lib.hid hP
    have HV := Lib.hid hLS.2
    have hle := ceL_len (plB_le HL.out).2
    have h12 := (plB_le HL.out).2
    obtain ⟨n, hn⟩ : ∃ n, n = P.length := ⟨_, rfl⟩
    rw [show (ceL l).length = n by rw [hn, ← hP, lls_len]] at hle
    have HN := Lib.hid hn
    obtain ⟨nt, hnt⟩ : ∃ nt, nt = l.length := ⟨_, rfl⟩
    have HT := Lib.hid hnt
    rw [← hnt] at h12
    rw [← hn, ← hnt]
    obtain ⟨i0, hi, hz0, hz1, hz2⟩ := info_parts infoInt
    clear hp hLS hP h h1 b1 b2 hn hnt
    go_wp2
    go_loopw [4, 17] (fun o i wr => ∃ k : Nat, k ≤ nt ∧ i = .int .i64 k ∧ IS wr w2.heap.size o (unL l k) ∧ Below w2.heap.size w2 wr) (fun _ i _ => nt - (intOf i).toNat)
    case atStart => exact ⟨0, by omega, rfl, IS.nil_ _ _, Below.refl _ _⟩
    case round =>
      obtain ⟨k, hk, rfl, ho, hb⟩ := hrel
      by_cases hlt : k < nt
      · obtain ⟨wO, hwO⟩ : ∃ wO, wO = wr := ⟨_, rfl⟩
        rw [← hwO] at ho hb ⊢
        clear hwO wr
        go_wp2
        go_loopw [7, 22] (fun o i wr => ∃ m : Nat, m ≤ n ∧ i = .int .i64 m ∧ (∃ u, o = .bool u ∧ Hid (u = true ↔ ∃ j, j < m ∧ (k : Int) ∈ pll P j)) ∧ wO = wr) (fun _ i _ => n - (intOf i).toNat)
        case atStart => exact ⟨0, by omega, rfl, ⟨false, rfl, Lib.hid (by simp)⟩, rfl⟩
        case round =>
          obtain ⟨m, hm, rfl, ⟨u, rfl, hu⟩, rfl⟩ := hrel
          by_cases hltm : m < n
          · have hmp : m < P.length := by rw [← HN.out]; exact hltm
            obtain ⟨g, rfl, hc0⟩ := HP.out m hmp
            have hc := X3.below.box_old3 hc0 hb
            have his := (HV.out.at hmp).below hb
            obtain ⟨cv, hcv⟩ : ∃ cv, cv = pvl P m := ⟨_, rfl⟩
            rw [← hcv] at hc his
            clear hc0 hcv
            cases u
            · go_wp2_with fail
              refine (l1Has_any _ _ _ _ (k : Int) his).mono ?_
              rintro e w3 ⟨rfl, rfl⟩
              have HU := Lib.hid (show decide ((k : Int) ∈ pll P m) = true ↔ ∃ j, j < m + 1 ∧ (k : Int) ∈ pll P j by
                rw [decide_eq_true_iff]
                constructor
                · exact fun h => ⟨m, by omega, h⟩
                · rintro ⟨j, hj, h⟩
                  rcases Nat.lt_succ_iff_lt_or_eq.1 hj with h' | rfl
                  · have := hu.out.2 ⟨j, h', h⟩
                    cases this
                  · exact h)
              obtain ⟨d, hd⟩ : ∃ d, d = decide ((k : Int) ∈ pll P m) := ⟨_, rfl⟩
              rw [← hd] at HU ⊢
              clear hd hc his
              go_wp2
              go_roundw
              case rel => exact ⟨m + 1, by omega, by go_num, ⟨d, rfl, HU⟩, by first | rfl | trivial⟩
              case measure => simp [intOf]; omega
            · have HU := Lib.hid (show true = true ↔ ∃ j, j < m + 1 ∧ (k : Int) ∈ pll P j from ⟨fun _ => by
                obtain ⟨j, h1, h2⟩ := hu.out.1 rfl
                exact ⟨j, by omega, h2⟩, fun _ => rfl⟩)
              clear his
              go_wp2
              go_roundw
              case rel => exact ⟨m + 1, by omega, by go_num, ⟨true, rfl, HU⟩, by first | rfl | trivial⟩
              case measure => simp [intOf]; omega
          · obtain rfl : m = n := by omega
            have HUS := Lib.hid (show usB l k = u by
              rw [Bool.eq_iff_iff, usB_iff HQ.out, hu.out, ← HN.out])
            have hle2 := unL_len l k
            cases u
            · have HX := Lib.hid (unL_no HUS.out)
              have ho' : wO.ownsRow w2.heap.size 3 1 u4 (unL l k).length (ints (unL l k)) := ho
              have hbA := hb.alloc hb.size (.cells #[.int .i64 (k : Int)] 3)
              have hs := hb.size
              clear ho
              go_wp2_with (at_builtin; refine wpList_append_own _ rfl _ _ 41 rfl w2.heap.size 3 i0 (.int .i64 0) 1 8 Try.underlying41 hi hz0 hz1 hz2 rfl (by decide) _ _ _ rfl (ho'.alloc _) ⟨wO.heap.size, 0, none⟩ 1 1 [.int .i64 (k : Int)] rfl rfl (one_new _ _) (by simp [Value.oneCell']) (by unfold maxLen; omega) (by omega) (by simp; omega) ?_; intro v' w6 hown' hgrow hnil)
              have hb6 : Below w2.heap.size w2 w6 := hbA.grown hgrow hbA.size (fun g' hg' => (World.ownsRow.lt ho' g' hg').1)
              have hrow := IS.snoc rfl hown'
              rw [← HX.out] at hrow
              clear hown' hgrow hnil ho' hbA
              go_wp2
              go_roundw
              case rel => exact ⟨k + 1, by omega, by go_num, hrow, hb6⟩
              case measure => simp [intOf]; omega
            · have HX := Lib.hid (unL_yes HUS.out)
              go_wp2
              go_roundw
              case rel => exact ⟨k + 1, by omega, by go_num, by rw [HX.out]; exact ho, hb⟩
              case measure => simp [intOf]; omega
      · obtain rfl : k = nt := by omega
        rw [HT.out] at ho
        go_wp2
        go_ret2
        exact givesIB_yes rfl (by rw [unR_yes HL.out]; exact ho.base HB.out.size) (bel2 HB.out hb)
set_option maxHeartbeats 1000000 in
set_option maxRecDepth 100000 in
theorem growI_nil (w : World) (n : Nat) (hn : n ≤ 1000000) : Calls Try.prog 94 #[.slice none 0 0, .int .i64 (n : Int)] w fun e w' => ∃ r, e = .returned r ∧ w'.ownsRow w.heap.size 3 1 r 0 [] ∧ Below w.heap.size w w' := by
  obtain ⟨i0, hi, hz0, hz1, hz2⟩ := info_parts infoInt
  by_cases h0 : 0 < n
  · have hrun := fun ty => Lib.run_append_nil_zeros (P := Try.prog) w 41 3 ty 3 i0 (.int .i64 0) .i64 .i64 Try.underlying41 Try.underlying3 hi hz0 n h0 (by omega) (by omega) (by rw [hz2]; omega)
    have HC := Lib.hid (And.intro (grownCap_ge w n 0 3) (grownCap_le_maxLen w n 0 3 (by unfold maxLen; omega)))
    obtain ⟨c, hc⟩ : ∃ c, c = grownCap w n 0 3 := ⟨_, rfl⟩
    rw [← hc] at hrun HC
    obtain ⟨cs, hcs⟩ : ∃ cs, cs = Builtin.zeroCells (.int .i64 0 : Value).cells n ++ Builtin.zeroCells (.int .i64 0 : Value).cells (c - n) := ⟨_, rfl⟩
    rw [← hcs] at hrun
    have HZ := Lib.hid (show cs.size = c * 1 by
      rw [hcs, Array.size_append, size_zeroCells, size_zeroCells]
      show n * 1 + (c - n) * 1 = c * 1
      have := HC.out.1
      omega)
    have HR := Lib.hid hrun
    have hcl := HC.out.1
    clear hc hcs hrun
    go_enter Try.func94, Try.ntmps94
    go_wp2_with (at_builtin; refine Lib.wpList_append_run _ rfl _ _ _ _ rfl _ _ rfl rfl _ _ (HR.out _) ?_)
    go_wp2
    go_ret
    refine ⟨_, rfl, ⟨rfl, .inr ⟨w.heap.size, c, cs, rfl, Nat.le_refl _, heap_alloc_new w.drew _, by omega, HC.out.2, HZ.out, by simp⟩⟩, ((Below.refl _ _).drew).alloc (by simp) _⟩
  · obtain rfl : n = 0 := by omega
    go_enter Try.func94, Try.ntmps94
    go_wp2
    go_ret
    exact ⟨_, rfl, World.ownsRow_nil _ _ _ 1, Below.refl _ _⟩
def flN (P : VL) (k : Nat) : List Int := ((lls P).take k).flatten
theorem flN_zero (P : VL) : flN P 0 = [] := by simp [flN]
theorem flN_next {P : VL} {k : Nat} (hk : k < P.length) : flN P (k + 1) = flN P k ++ pll P k := by
  unfold flN
  have h1 : k < (lls P).length := by rw [lls_len]; exact hk
  rw [List.take_add_one, List.getElem?_eq_getElem h1, lls_get hk h1]
  simp
theorem flN_len {P : VL} (h : ∀ k, k < P.length → (pll P k).length ≤ 12) : ∀ k, k ≤ P.length → (flN P k).length ≤ 12 * k
  | 0, _ => by simp [flN]
  | k + 1, hk => by
    have := flN_len h k (by omega)
    have := h k (by omega)
    rw [flN_next (by omega), List.length_append]; omega
theorem ints_oneU (zs : List Int) : ∀ u ∈ ints zs, u.oneCell' = true := fun u hu => by
  simp only [ints, List.mem_map] at hu
  obtain ⟨y, -, rfl⟩ := hu
  rfl
theorem IS.newsU {w : World} {B : Nat} {v : Value} {zs : List Int} (h : IS w B v zs) (h0 : 0 < zs.length) : ∃ g cap, v = .slice (some ⟨g, 0, none⟩) zs.length cap ∧ ∀ j u, (ints zs)[j]? = some u → w.cell? ((⟨g, 0, none⟩ : Addr).add j) = some u := by
  obtain ⟨A, cap, rfl, hm, hp⟩ := h.parts
  obtain ⟨g, rfl, -⟩ := hp 0 h0
  refine ⟨g, cap, rfl, fun j u hu => ?_⟩
  have hj : j < zs.length := by
    rcases Nat.lt_or_ge j zs.length with h' | h'
    · exact h'
    · rw [List.getElem?_eq_none (by simp [ints]; omega)] at hu; cases hu
  obtain ⟨g', hg, hc⟩ := hp j hj
  cases hg
  rw [add_zero, hc]
  rw [gd_eq _ _ hj]
  simpa [ints, List.getElem?_eq_getElem hj] using hu
set_option maxHeartbeats 2000000 in
set_option maxRecDepth 100000 in
theorem concatI_any (w : World) (B : Nat) (v : Value) (P : VL) (h : LS w B v P) (hn : P.length ≤ 2000) (h12 : ∀ k, k < P.length → (pll P k).length ≤ 12) (h0 : ∀ k, k < P.length → 0 < (pll P k).length) : Calls Try.prog 60 #[v] w fun e w' => GivesI (flN P P.length) w e w' := by
  obtain ⟨A, cap, rfl, -, hp⟩ := h.parts
  have HP := Lib.hid hp
  have HV := Lib.hid h.2
  have H12 := Lib.hid h12
  have H0 := Lib.hid h0
  have HFL := Lib.hid (flN_len h12)
  obtain ⟨n, hne⟩ : ∃ n, n = P.length := ⟨_, rfl⟩
  have HN := Lib.hid hne
  rw [← hne] at hn ⊢
  obtain ⟨i0, hi, hz0, hz1, hz2⟩ := info_parts infoInt
  clear h hp h12 h0 hne
  go_enter Try.func60, Try.ntmps60
  go_wp2
  go_loopw [3, 11] (fun o i wr => ∃ k : Nat, k ≤ n ∧ i = .int .i64 k ∧ (∃ m : Nat, o = .int .i64 m ∧ m ≤ 12 * k) ∧ w = wr) (fun _ i _ => n - (intOf i).toNat)
  case atStart => exact ⟨0, by omega, rfl, ⟨0, rfl, by omega⟩, rfl⟩
  case round =>
    obtain ⟨k, hk, rfl, ⟨m, rfl, hm⟩, rfl⟩ := hrel
    by_cases hlt : k < n
    · have hkp : k < P.length := by rw [← HN.out]; exact hlt
      obtain ⟨g, rfl, hc⟩ := HP.out k hkp
      have his := HV.out.at hkp
      have hz := H12.out k hkp
      obtain ⟨A', cap', hv, -, -⟩ := his.parts
      rw [hv] at hc
      obtain ⟨q, hq⟩ : ∃ q, q = (pll P k).length := ⟨_, rfl⟩
      rw [← hq] at hc hz
      clear his hv hq hkp
      have q1 : IntKind.i64.wrap ((m : Int) + q) = ((m + q : Nat) : Int) := by rw [IntWalk.i64_in _ (by omega)]; omega
      have q2 : ¬ (((m + q : Nat) : Int) < 0) := by omega
      go_wp2
      go_roundw
      case rel => exact ⟨k + 1, by omega, by go_num, ⟨m + q, by first | rfl | go_num, by omega⟩, by first | rfl | trivial⟩
      case measure => simp [intOf]; omega
    · obtain rfl : k = n := by omega
      go_wp2_with fail
      refine (growI_nil _ m (by omega)).mono ?_
      rintro e w1 ⟨r, rfl, hr, b1⟩
      go_wp2
      go_loopw [6, 27] (fun o i wr => ∃ j : Nat, j ≤ k ∧ i = .int .i64 j ∧ wr.ownsRow w.heap.size 3 1 o (flN P j).length (ints (flN P j)) ∧ Below w.heap.size w wr) (fun _ i _ => k - (intOf i).toNat)
      case atStart => exact ⟨0, by omega, rfl, by rw [flN_zero]; exact hr, b1⟩
      case round =>
        obtain ⟨j, hj, rfl, ho, hb⟩ := hrel
        clear hr
        by_cases hltj : j < k
        · have hjp : j < P.length := by rw [← HN.out]; exact hltj
          obtain ⟨g, rfl, hc0⟩ := HP.out j hjp
          have hc := X3.below.box_old3 hc0 hb
          have his := (HV.out.at hjp).below hb
          have hfl := HFL.out j (by omega)
          have hz := H12.out j hjp
          obtain ⟨g', cap', hv, hnews⟩ := his.newsU (H0.out j hjp)
          have HX := Lib.hid (flN_next hjp)
          rw [hv] at hc
          have HZ := Lib.hid (show (ints (pll P j)).length = (pll P j).length * 1 by simp [ints])
          have HW := Lib.hid hnews
          obtain ⟨zs, hzs⟩ : ∃ zs, zs = pll P j := ⟨_, rfl⟩
          rw [← hzs] at hc HX HZ HW hz
          clear hc0 his hv hnews hzs
          have hs := hb.size
          go_wp2_with (at_builtin; refine wpList_append_own _ rfl _ _ 41 rfl w.heap.size 3 i0 (.int .i64 0) 1 8 Try.underlying41 hi hz0 hz1 hz2 rfl (by decide) _ (flN P j).length _ rfl ho ⟨g', 0, none⟩ zs.length _ (ints zs) rfl HZ.out HW.out (ints_oneU _) (by unfold maxLen; omega) (by omega) (by omega) ?_; intro v' w2 hown2 hgrow2 hnil2)
          have hb2 : Below w.heap.size w w2 := hb.grown hgrow2 hs (fun q hq => (World.ownsRow.lt ho q hq).1)
          have hrow : w2.ownsRow w.heap.size 3 1 v' (flN P (j + 1)).length (ints (flN P (j + 1))) := by
            rw [HX.out, List.length_append]
            unfold ints at hown2 ⊢
            rw [List.map_append]
            exact hown2
          clear hown2 hgrow2 hnil2 ho hb hc
          go_wp2
          go_roundw
          case rel => exact ⟨j + 1, by omega, by go_num, hrow, hb2⟩
          case measure => simp [intOf]; omega
        · obtain rfl : j = k := by omega
          go_wp2
          go_ret
          exact ⟨_, rfl, ho, hb⟩
/-- A set as the program has it: the terms under n that the first j of a list are not. -/
def unS (n : Nat) (F : List Int) (j : Nat) : List Bool := (List.range 12).map fun m => decide (m < n) && !decide ((m : Int) ∈ F.take j)
theorem unS_len (n : Nat) (F : List Int) (j : Nat) : (unS n F j).length = 12 := by simp [unS]
theorem unS_zero : unS 0 [] 0 = List.replicate 12 false := by
  rfl
theorem unS_up {k : Nat} : (unS k [] 0).set k true = unS (k + 1) [] 0 ∨ 12 ≤ k := by
  rcases Nat.lt_or_ge k 12 with h | h
  · left
    apply List.ext_getElem (by simp [unS])
    intro m h1 h2
    rw [List.getElem_set]
    split
    · next e => subst e; simp [unS]
    · next e =>
      simp only [unS, List.getElem_map, List.getElem_range, List.take_nil, List.not_mem_nil, decide_false, Bool.not_false, Bool.and_true, decide_eq_decide]
      omega
  · exact .inr h
theorem unS_start (n : Nat) (F : List Int) : unS n [] 0 = unS n F 0 := by simp [unS]
theorem unS_next {n j i : Nat} {F : List Int} (hj : j < F.length) (hi : gd F j = i) : (unS n F j).set i false = unS n F (j + 1) := by
  apply List.ext_getElem (by simp [unS])
  intro m h1 h2
  have e : F.take (j + 1) = F.take j ++ [(i : Int)] := by
    rw [List.take_add_one, List.getElem?_eq_getElem hj, ← gd_eq _ _ hj, hi]; rfl
  rw [List.getElem_set]
  split
  · next e' => subst e'; simp [unS, e]
  · next e' =>
    simp only [unS, List.getElem_map, List.getElem_range, e, List.mem_append, List.mem_singleton]
    congr 2
    rw [decide_eq_decide]
    constructor
    · exact .inl
    · rintro (h | h)
      · exact h
      · exact absurd (by omega) e'
theorem flN_mem {P : VL} (x : Int) : x ∈ flN P P.length ↔ ∃ k, k < P.length ∧ x ∈ pll P k := by
  unfold flN
  rw [show (lls P).take P.length = lls P by rw [← lls_len, List.take_length], List.mem_flatten]
  constructor
  · rintro ⟨y, hy, hx⟩
    obtain ⟨j, hj, rfl⟩ := List.getElem_of_mem hy
    have hj' : j < P.length := by rw [← lls_len]; exact hj
    rw [lls_get hj' hj] at hx
    exact ⟨j, hj', hx⟩
  · rintro ⟨k, hk, hx⟩
    have h1 : k < (lls P).length := by rw [lls_len]; exact hk
    exact ⟨_, List.getElem_mem h1, by rw [lls_get hk h1]; exact hx⟩
theorem unS_ix {l : List Tm} {P : VL} (hP : lls P = ceL l) (h12 : l.length ≤ 12) {F : List Int} (hF : F = flN P P.length) : ∀ k, k ≤ 12 → ixL (unS l.length F F.length) k = unL l (min k l.length)
  | 0, _ => by simp [ixL, unL]
  | k + 1, hk => by
    have ih := unS_ix hP h12 hF k (by omega)
    have hg : (unS l.length F F.length).getD k false = (decide (k < l.length) && !decide ((k : Int) ∈ F)) := by
      rw [List.getD_eq_getElem?_getD, List.getElem?_eq_getElem (by rw [unS_len]; omega)]
      simp [unS]
    have hu : decide ((k : Int) ∈ F) = usB l k := by
      rw [Bool.eq_iff_iff, decide_eq_true_iff, usB_iff hP, hF, flN_mem]
    rw [hu] at hg
    rcases Nat.lt_or_ge k l.length with h | h
    · rw [show min (k + 1) l.length = k + 1 by omega]
      rw [show min k l.length = k by omega] at ih
      rw [decide_eq_true h, Bool.true_and] at hg
      cases he : usB l k
      · rw [he] at hg
        rw [ixL_yes hg, ih, unL_no he]
      · rw [he] at hg
        rw [ixL_no hg, ih, unL_yes he]
    · rw [show min (k + 1) l.length = l.length by omega]
      rw [show min k l.length = l.length by omega] at ih
      rw [decide_eq_false (by omega), Bool.false_and] at hg
      rw [ixL_no hg, ih]
theorem flN_in {P : VL} {M : Nat} (h : ∀ k, k < P.length → ∀ n ∈ pll P k, 0 ≤ n ∧ n < (M : Int)) {j : Nat} (hj : j < (flN P P.length).length) : ∃ i : Nat, gd (flN P P.length) j = i ∧ i < M := by
  obtain ⟨k, hk, hx⟩ := (flN_mem _).1 (gd_mem hj)
  have := h k hk _ hx
  exact ⟨(gd (flN P P.length) j).toNat, by omega, by omega⟩
theorem grown_setU {w w' : World} {b : Nat} (h : w.grownBy w' (some b)) (i : Nat) (v : Value) : w.grownBy (w'.setCell ⟨b, i, none⟩ v) (some b) :=
  ⟨h.os, h.tape, h.output, by simpa using h.size, fun j hj hne => by rw [Below.heap_setCell _ _ _ j (fun e => hne (by rw [e]))]; exact h.block j hj hne⟩
set_option maxHeartbeats 2000000 in
set_option maxRecDepth 100000 in
theorem implUnusedTerms_any (w : World) (B : Nat) (v : Value) (l : List Tm) (h : TmS w B v l) : Calls Try.prog 36 #[v] w fun e w' => GivesIB (plB l) (unR l) w e w' := by
  cases hl : plB l
  · have HL := Lib.hid hl
    have HN := Lib.hid (unR_no hl)
    clear hl
    go_enter Try.func36, Try.ntmps36
    go_wp2_with fail
    refine (implCellsOf_any _ B _ l h).mono ?_
    rintro e w1 ⟨r, P, rfl, hLS, hP, b1⟩
    rw [HL.out]
    clear hLS hP
    go_wp2
    go_ret2
    exact givesIB_nil rfl HN.out b1
  · have HL := Lib.hid hl
    obtain ⟨At, capt, rfl, -, -⟩ := TmS.parts h
    have h12 := (plB_le hl).2
    obtain ⟨nt, hnt⟩ : ∃ nt, nt = l.length := ⟨_, rfl⟩
    have HT := Lib.hid hnt
    have H0 := Lib.hid h
    rw [← hnt] at h12
    rw [← hnt]
    clear hl hnt h
    go_enter Try.func36, Try.ntmps36
    go_wp2_with fail
    refine (implCellsOf_any _ B _ l (by rw [HT.out]; exact H0.out)).mono ?_
    rintro e w1 ⟨r, P, rfl, hLS, hP, b1⟩
    rw [HL.out]
    rw [ceR_yes HL.out] at hP
    have hnp := ceL_len (plB_le HL.out).2
    rw [← hP, lls_len] at hnp
    have HNP := Lib.hid hnp
    have HQ := Lib.hid hP
    have HLS := Lib.hid hLS
    have HB := Lib.hid b1
    have HOK := Lib.hid (fun (k : Nat) (hk : k < P.length) => show ((pll P k).length ≤ 12 ∧ 0 < (pll P k).length) ∧ ∀ n ∈ pll P k, 0 ≤ n ∧ n < ((12 : Nat) : Int) from by
      obtain ⟨c1, c2, c3⟩ := cell_ok hP hk HL.out
      refine ⟨⟨c2, ?_⟩, fun n hn => by have := c1 n hn; have := (plB_le HL.out).2; omega⟩
      have := cptL_len l (pll P k)
      rcases Nat.eq_zero_or_pos (pll P k).length with h | h
      · exact absurd (List.eq_nil_of_length_eq_zero (this.trans h)) c3
      · exact h)
    clear hLS hP b1 hnp
    go_wp2
    have HON0 := Lib.hid (show OnB (w1.alloc (.cells #[.bool false, .bool false, .bool false, .bool false, .bool false, .bool false, .bool false, .bool false, .bool false, .bool false, .bool false, .bool false] 68)) w1.heap.size (unS 0 [] 0) by
      rw [unS_zero]; exact heap_alloc_new w1 _)
    have HBO0 := Lib.hid (show Below w1.heap.size w1 (w1.alloc (.cells #[.bool false, .bool false, .bool false, .bool false, .bool false, .bool false, .bool false, .bool false, .bool false, .bool false, .bool false, .bool false] 68)) from (Below.refl _ _).alloc (Nat.le_refl _) _)
    go_loopw [19] (fun i wr => ∃ k : Nat, k ≤ nt ∧ i = .int .i64 k ∧ Hid (OnB wr w1.heap.size (unS k [] 0)) ∧ Hid (Below w1.heap.size w1 wr)) (fun i _ => nt - (intOf i).toNat)
    case atStart => exact ⟨0, by omega, rfl, HON0, HBO0⟩
    case round =>
      clear HON0 HBO0
      obtain ⟨k, hk, rfl, hON, hBO⟩ := hrel
      by_cases hlt : k < nt
      · obtain ⟨d0, f0⟩ := hON.out.at (j := k) (by rw [unS_len]; omega)
        have hk12 : (k : Int) < 12 := by omega
        have HS := Lib.hid (show OnB (wr.setCell ⟨w1.heap.size, k, none⟩ (.bool true)) w1.heap.size (unS (k + 1) [] 0) by
          have h1 := hON.out.set k true
          rwa [show (unS k [] 0).set k true = unS (k + 1) [] 0 from unS_up.resolve_right (by omega)] at h1)
        have HBS := Lib.hid (hBO.out.setCell (p := ⟨w1.heap.size, k, none⟩) (Nat.le_refl _) (.bool true))
        clear hON hBO
        go_wp2
        go_roundw
        case rel => exact ⟨k + 1, by omega, by go_num, HS, HBS⟩
        case measure => simp [intOf]; omega
      · obtain rfl : k = nt := by omega
        have hLS2 := HLS.out.below hBO.out
        go_wp2_with fail
        refine (concatI_any _ _ _ P hLS2 (by have := HNP.out; omega) (fun k hk => (HOK.out k hk).1.1) (fun k hk => (HOK.out k hk).1.2)).mono ?_
        rintro e w2 ⟨rF, rfl, hF, b2⟩
        have HON2 := Lib.hid (hON.out.below b2)
        have HBO2 := Lib.hid (bel2 hBO.out b2)
        obtain ⟨F, hFe⟩ : ∃ F, F = flN P P.length := ⟨_, rfl⟩
        have HFE := Lib.hid hFe
        have HIN := Lib.hid (fun (j : Nat) (hj : j < F.length) => show ∃ i : Nat, gd F j = i ∧ i < 12 by
          rw [hFe] at hj ⊢
          exact flN_in (fun k hk => (HOK.out k hk).2) hj)
        rw [← hFe] at hF
        obtain ⟨AF, capF, rfl, hmF, hpF⟩ := hF.parts
        have HFAR := Lib.hid (show ∀ g, AF = some ⟨g, 0, none⟩ → w1.heap.size < g from fun g hg => by subst hg; exact Nat.lt_of_lt_of_le hON.out.lt (hF.lt g rfl).1)
        have HPF := Lib.hid hpF
        obtain ⟨nF, hnF⟩ : ∃ nF, nF = F.length := ⟨_, rfl⟩
        have HNF := Lib.hid hnF
        rw [← hnF] at hmF ⊢
        unfold maxLen at hmF
        have HON3 := Lib.hid (show OnB w2 w1.heap.size (unS k F 0) by rw [← unS_start]; exact HON2.out)
        have HLT := Lib.hid HON3.out.lt
        have HBA := Lib.hid (bel2 HB.out HBO2.out)
        clear hFe hF hpF hnF hON hBO hLS2 b2 HON2 HLS
        go_wp2
        go_loopw [28] (fun i wr => ∃ j : Nat, j ≤ nF ∧ i = .int .i64 j ∧ Hid (OnB wr w1.heap.size (unS k F j)) ∧ Hid (Below w1.heap.size w1 wr) ∧ Hid (w2.grownBy wr (some w1.heap.size))) (fun i _ => nF - (intOf i).toNat)
        case atStart => exact ⟨0, by omega, rfl, HON3, HBO2, Lib.hid (World.grownBy.refl _ _)⟩
        case round =>
          clear HON3
          obtain ⟨j, hj, rfl, hON, hBO, hG⟩ := hrel
          by_cases hltj : j < nF
          · have hjF : j < F.length := by rw [← HNF.out]; exact hltj
            obtain ⟨i, hi, hi12⟩ := HIN.out j hjF
            obtain ⟨g, rfl, hc0⟩ := HPF.out j hjF
            have HNX := Lib.hid (unS_next (n := k) hjF hi)
            rw [hi] at hc0
            have hfar := HFAR.out g rfl
            have hc := hG.out.cell hc0 (fun e => by simp only [Option.some.injEq] at e; omega)
            obtain ⟨d0, f0⟩ := hON.out.at (j := i) (by rw [unS_len]; omega)
            have hi1 : (i : Int) < 12 := by omega
            have hi0 : (0 : Int) ≤ (i : Int) := by omega
            have HS := Lib.hid (show OnB (wr.setCell ⟨w1.heap.size, i, none⟩ (.bool false)) w1.heap.size (unS k F (j + 1)) by
              have h1 := hON.out.set i false
              rwa [HNX.out] at h1)
            have HBS := Lib.hid (hBO.out.setCell (p := ⟨w1.heap.size, i, none⟩) (Nat.le_refl _) (.bool false))
            have HGS := Lib.hid (show w2.grownBy (wr.setCell ⟨w1.heap.size, i, none⟩ (.bool false)) (some w1.heap.size) from grown_setU hG.out i _)
            clear hON hBO hG hc0 hi
            go_wp2
            go_roundw
            case rel => exact ⟨j + 1, by omega, by go_num, HS, HBS, HGS⟩
            case measure => simp [intOf]; omega
          · obtain rfl : j = nF := by omega
            obtain ⟨on, hon⟩ : ∃ on, on = unS k F j := ⟨_, rfl⟩
            have ho12 : on.length = 12 := by rw [hon]; exact unS_len _ _ _
            have HIXE := Lib.hid (show ixL on 12 = unR l by
              rw [hon, HNF.out, HT.out, unS_ix HQ.out (plB_le HL.out).2 HFE.out 12 (Nat.le_refl _), unR_yes HL.out]
              rw [show min 12 l.length = l.length by have := (plB_le HL.out).2; omega])
            have hRng := hON.out.range
            rw [← hon] at hRng
            have ua : Try.prog.underlying 68 = some (.array 12 4) := Try.underlying68
            have ub : (Try.prog.info? 68).map (·.size) = some (on.map Value.bool).length := by rw [List.length_map, ho12]; kernel_rfl
            have HIX := Lib.hid (fun W => show Calls Try.prog 61 #[.agg (on.map Value.bool).toArray] W fun e w' => GivesI (ixL on 12) W e w' from indices_any on W ho12)
            have hbE := bel2 HB.out hBO.out
            clear hon hON hG ho12
            go_wp2_with (first | (refine wpList_load_mid rfl _ _ rfl _ _ rfl _ _ hRng ua rfl ub ?_))
            refine (HIX.out _).mono ?_
            rintro e w5 ⟨r5, rfl, hr5, b5⟩
            go_wp2
            go_ret2
            exact givesIB_yes rfl (by rw [← HIXE.out]; exact hr5.base hbE.size) (bel2 hbE b5)
end Go.Proofs.Ytoecjdpeldcajaa

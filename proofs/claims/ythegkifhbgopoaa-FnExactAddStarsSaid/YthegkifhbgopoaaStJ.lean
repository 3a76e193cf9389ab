/-
  Added stars, of the model and of the program: what the calls return.
  Condition: the slices read as the lists that are named.
-/
import Derived.Test.YthegkifhbgopoaaStI
namespace Go.Proofs.Ythegkifhbgopoaa
set_option linter.unusedSimpArgs false
set_option linter.unusedVariables false
open Go.ChangeShapes Go.WideShapes Go.ChangeAt Go.RowKit
open Go.Sort (grow)

def adB (a b : List Tm) : Bool := ryB a && (ryB b && ryB (normR (a ++ b)))
def adR (a b : List Tm) : List Tm := if adB a b = true then normR (a ++ b) else []
theorem adR_le (a b : List Tm) : (adR a b).length ≤ 1048576 := by
  unfold adR; split
  · rename_i h
    unfold adB at h
    simp only [Bool.and_eq_true] at h
    have := ryB_le h.2.2; omega
  · simp
theorem ad_no1 {a b : List Tm} (h : ryB a = false) : adB a b = false ∧ adR a b = [] := by
  have : adB a b = false := by unfold adB; rw [h]; rfl
  exact ⟨this, by unfold adR; rw [this]; rfl⟩
theorem ad_no2 {a b : List Tm} (h : ryB b = false) : adB a b = false ∧ adR a b = [] := by
  have : adB a b = false := by unfold adB; rw [h]; simp
  exact ⟨this, by unfold adR; rw [this]; rfl⟩
theorem ad_is {a b : List Tm} (h : ryB a = true) (h' : ryB b = true) : adB a b = ryB (normR (a ++ b)) ∧ adR a b = stR (normR (a ++ b)) := by
  have : adB a b = ryB (normR (a ++ b)) := by unfold adB; rw [h, h']; rfl
  exact ⟨this, by unfold adR stR; rw [this]⟩
theorem norm_add (a : List Tm) {b : List Tm} (j : Nat) (hj : j < b.length) : normR (a ++ b.take (j + 1)) = putR (normR (a ++ b.take j)) (td b j) := by
  rw [take_td b j hj, ← List.append_assoc]
  exact normR_snoc _ _
set_option maxHeartbeats 4000000 in
set_option maxRecDepth 100000 in
theorem specAddStars_any (w : World) (B B' : Nat) (va vb : Value) (a b : List Tm) (h : RyS w B va a) (h' : RyS w B' vb b) : Calls Try.prog 34 #[va, vb] w fun e w' => GivesRyB (adB a b) (adR a b) w e w' := by
  have HI := Lib.hid (stGood_any w B va a h)
  have HJ := Lib.hid (fun W (hW : RyS W B' vb b) => stGood_any W B' vb b hW)
  have HH' := Lib.hid h'
  cases hl : ryB a
  · obtain ⟨n1, n2⟩ := ad_no1 (b := b) hl
    have HN1 := Lib.hid n1
    have HN2 := Lib.hid n2
    rw [hl] at HI
    clear hl n1 n2 h h'
    go_enter Try.func34, Try.ntmps34
    go_wp2_with fail
    refine HI.out.mono ?_
    rintro e w1 ⟨rfl, b1⟩
    go_wp2
    go_ret2
    exact givesRyB_nil HN1.out HN2.out b1
  · rw [hl] at HI
    cases hm : ryB b
    · obtain ⟨n1, n2⟩ := ad_no2 (a := a) hm
      have HN1 := Lib.hid n1
      have HN2 := Lib.hid n2
      rw [hm] at HJ
      clear hl hm n1 n2 h h'
      go_enter Try.func34, Try.ntmps34
      go_wp2_with fail
      refine HI.out.mono ?_
      rintro e w1 ⟨rfl, b1⟩
      go_wp2_with fail
      refine (HJ.out _ (HH'.out.below b1)).mono ?_
      rintro e w2 ⟨rfl, b2⟩
      go_wp2
      go_ret2
      exact givesRyB_nil HN1.out HN2.out (bel2 b1 b2)
    · have HSR := Lib.hid (ad_is hl hm)
      rw [hm] at HJ
      have HWT := Lib.hid (fun j => wts_app (ryB_wts hl) (wts_take (ryB_wts hm) j))
      have HU := Lib.hid (fun j (hj : j < b.length) => show -1000000 ≤ (td b j).2.2 ∧ (td b j).2.2 ≤ 1000000 by have := ryT_parts (ryB_at hm hj); omega)
      have HNA := Lib.hid (normR_srt (ryB_srt hl))
      have hla := ryB_le hl
      have hlb := ryB_le hm
      have HLA := Lib.hid hla
      obtain ⟨A, capa, rfl, -, -⟩ := RyS.parts h
      obtain ⟨A', cap, rfl, hmm, hp⟩ := RyS.parts h'
      have HP := Lib.hid hp
      have HA := Lib.hid h
      obtain ⟨m, hma⟩ : ∃ m, m = a.length := ⟨_, rfl⟩
      obtain ⟨n, hn⟩ : ∃ n, n = b.length := ⟨_, rfl⟩
      have HN := Lib.hid hn
      have HM := Lib.hid hma
      have HFA := Lib.hid (show FS 39 3 w B (.slice A m capa) m (flatT a) by rw [hma]; exact h)
      rw [← hma] at hla HI ⊢
      rw [← hn] at hmm hlb HJ HH' ⊢
      obtain ⟨i0, hi, hz0, hz1, hz2⟩ := info_parts infoRay
      clear hl hm h h' hp hn hma HA
      go_enter Try.func34, Try.ntmps34
      go_wp2_with fail
      refine HI.out.mono ?_
      rintro e w1 ⟨rfl, b1⟩
      go_wp2_with fail
      refine (HJ.out _ (HH'.out.below b1)).mono ?_
      rintro e w2 ⟨rfl, b2⟩
      have B2 := bel2 b1 b2
      have hs2 := B2.size
      clear b1 b2
      go_wp2_with (at_builtin; refine app_fs _ rfl _ _ 47 rfl w.heap.size 39 i0 (.agg #[.int .i64 0, .int .i64 0, .int .i64 0]) 3 24 Try.underlying47 hi hz0 hz1 hz2 rfl (by decide) _ 0 (ints []) rfl (tw_new w2 _ hs2) B m _ (flatT a) rfl ((HFA.out.below B2).alloc _) (by unfold maxLen; omega) (by omega) (by simp; omega) ?_; intro v3 w3 hown3 hgrow3)
      have b3 : Below w.heap.size w w3 := (B2.alloc hs2 _).grown hgrow3 (by simp; omega) (fun k hk => by cases hk; exact hs2)
      have h3 : RyS w3 w.heap.size v3 a := by
        have e : ints (flatT a) = ints [] ++ ints (flatT a) := rfl
        unfold RyS FS
        rw [e, ← HM.out]
        simpa using hown3
      clear hown3 hgrow3
      go_wp2
      go_loopw [6, 22] (fun o i wr => ∃ j : Nat, j ≤ n ∧ i = .int .i64 j ∧ RyS wr w.heap.size o (normR (a ++ b.take j)) ∧ Below w.heap.size w wr) (fun _ i _ => n - (intOf i).toNat)
      case atStart => exact ⟨0, by omega, rfl, by rw [List.take_zero, List.append_nil, HNA.out]; exact h3, b3⟩
      case round =>
        obtain ⟨j, hj, rfl, ho, hbw⟩ := hrel
        clear h3 b3
        by_cases hlt : j < n
        · have hjl : j < b.length := by rw [← HN.out]; exact hlt
          obtain ⟨g, rfl, hc0⟩ := HP.out j hjl
          have hcx := X3.below hc0 hbw
          have HMN := Lib.hid (norm_add a j hjl)
          have hlen := normR_len (a ++ b.take j)
          rw [List.length_append, List.length_take] at hlen
          have HLN := Lib.hid (show (normR (a ++ b.take j)).length ≤ 1000 by have := HLA.out; omega)
          have HW2 := Lib.hid (normR_wts (m := a ++ b.take j) (by rw [List.length_append, List.length_take]; have := HLA.out; omega) (HWT.out j))
          have HUJ := Lib.hid (HU.out j hjl)
          obtain ⟨c0, c1, c2⟩ := hcx
          have hgl : g < wr.heap.size := cell_lt c0
          have hbA := hbw.alloc hbw.size (.cells #[.int .i64 (td b j).1, .int .i64 (td b j).2.1, .int .i64 (td b j).2.2] 39)
          have HOA := Lib.hid (FS.alloc ho (.cells #[.int .i64 (td b j).1, .int .i64 (td b j).2.1, .int .i64 (td b j).2.2] 39))
          clear hc0 hlen
          go_wp2_with fail
          refine (stPut_all _ w.heap.size _ (normR (a ++ b.take j)) (td b j) HOA.out HLN.out HUJ.out HW2.out).mono ?_
          rintro e w3 ⟨r, rfl, hr, b3⟩
          rw [← HMN.out] at hr
          have HR3 := Lib.hid (FS.base hr hbA.size)
          have HB3 := Lib.hid (bel2 hbA b3)
          clear hr b3 hbA
          go_wp2
          go_roundw
          case rel => exact ⟨j + 1, by omega, by go_num, HR3.out, HB3.out⟩
          case measure => simp [intOf]; omega
        · obtain rfl : j = n := by omega
          rw [HN.out, List.take_length] at ho
          go_wp2_with fail
          refine (stIf_any _ _ _ _ ho).mono ?_
          rintro e w3 ⟨r, rfl, hr, b3⟩
          go_wp2
          go_ret2
          exact givesRyB_is HSR.out.1.symm HSR.out.2 hr (bel2 hbw b3)
theorem flatT_set3 : ∀ (L : List Tm) (i : Nat) (z : Int), i < L.length → flatT (L.set i ((td L i).1, (td L i).2.1, z)) = (flatT L).set (i * 3 + 2) z
  | a :: r, 0, z, _ => rfl
  | a :: r, i + 1, z, h => by
    have ih := flatT_set3 r i z (by simpa using h)
    show encT a ++ flatT (r.set i ((td r i).1, (td r i).2.1, z)) = _
    rw [ih, show (i + 1) * 3 + 2 = (i * 3 + 2) + 3 by omega]
    rfl
theorem mrg_is {acc : List Tm} {t : Tm} (h0 : 0 < acc.length) (hs : Same (td acc (acc.length - 1)) t) : flatT (mrgR acc t) = (flatT acc).set ((acc.length - 1) * 3 + 2) ((td acc (acc.length - 1)).2.2 + t.2.2) ∧ (mrgR acc t).length = acc.length := by
  have e : mrgR acc t = acc.set (acc.length - 1) ((td acc (acc.length - 1)).1, (td acc (acc.length - 1)).2.1, (td acc (acc.length - 1)).2.2 + t.2.2) := by
    unfold mrgR
    rw [if_pos ⟨List.length_pos_iff.1 h0, (sameTB_iff _ _).2 hs⟩, List.set_eq_take_append_cons_drop, if_pos (by omega), show acc.length - 1 + 1 = acc.length by omega, List.drop_length]
    obtain ⟨q1, q2⟩ := hs
    rw [q1, q2, Int.add_comm]
  rw [e]
  exact ⟨flatT_set3 _ _ _ (by omega), List.length_set⟩
theorem mrg_not {acc : List Tm} {t : Tm} (h : acc.length = 0 ∨ ¬ Same (td acc (acc.length - 1)) t) : mrgR acc t = acc ++ [t] := by
  unfold mrgR
  rw [if_neg]
  rintro ⟨h1, h2⟩
  rcases h with h | h
  · exact h1 (List.eq_nil_of_length_eq_zero h)
  · exact h ((sameTB_iff _ _).1 h2)
theorem mrgR_wts {acc : List Tm} {t : Tm} {b c : Int} (ht : 0 ≤ t.2.2 ∧ t.2.2 ≤ c) (hb : 0 ≤ b) (h : Wts acc b) : Wts (mrgR acc t) (b + c) := by
  unfold mrgR
  split
  · rename_i hc
    have h0 : 0 < acc.length := List.length_pos_iff.2 hc.1
    have := wts_at h hb (acc.length - 1) (by omega)
    intro s hs
    rcases List.mem_append.1 hs with hs | hs
    · have := h s (List.mem_of_mem_take hs); omega
    · rw [List.mem_singleton.1 hs]; simp only; omega
  · intro s hs
    rcases List.mem_append.1 hs with hs | hs
    · have := h s hs; omega
    · rw [List.mem_singleton.1 hs]; omega
theorem mrgN_wts {d : List Tm} (h : Wts d 20) : ∀ k, k ≤ d.length → Wts (mrgN d k) (20 * (k : Int))
  | 0, _ => fun s hs => by simp [mrgN] at hs
  | k + 1, hk => by
    have ih := mrgN_wts h k (by omega)
    have e : (20 : Int) * ((k + 1 : Nat) : Int) = 20 * (k : Int) + 20 := by omega
    rw [e]
    exact mrgR_wts (wts_at h (by omega) k (by omega)) (by omega) ih
set_option maxHeartbeats 4000000 in
set_option maxRecDepth 100000 in
theorem implAddStars_any (w : World) (B B' : Nat) (va vb : Value) (a b : List Tm) (h : RyS w B va a) (h' : RyS w B' vb b) : Calls Try.prog 35 #[va, vb] w fun e w' => GivesRyB (adB a b) (adR a b) w e w' := by
  have HI := Lib.hid (isStar_any w B va a h)
  have HJ := Lib.hid (fun W (hW : RyS W B' vb b) => isStar_any W B' vb b hW)
  have HH := Lib.hid h
  have HH' := Lib.hid h'
  cases hl : ryB a
  · obtain ⟨n1, n2⟩ := ad_no1 (b := b) hl
    have HN1 := Lib.hid n1
    have HN2 := Lib.hid n2
    rw [hl] at HI
    clear hl n1 n2 h h'
    go_enter Try.func35, Try.ntmps35
    go_wp2_with fail
    refine HI.out.mono ?_
    rintro e w1 ⟨rfl, b1⟩
    go_wp2
    go_ret2
    exact givesRyB_nil HN1.out HN2.out b1
  · rw [hl] at HI
    cases hm : ryB b
    · obtain ⟨n1, n2⟩ := ad_no2 (a := a) hm
      have HN1 := Lib.hid n1
      have HN2 := Lib.hid n2
      rw [hm] at HJ
      clear hl hm n1 n2 h h'
      go_enter Try.func35, Try.ntmps35
      go_wp2_with fail
      refine HI.out.mono ?_
      rintro e w1 ⟨rfl, b1⟩
      go_wp2_with fail
      refine (HJ.out _ (HH'.out.below b1)).mono ?_
      rintro e w2 ⟨rfl, b2⟩
      go_wp2
      go_ret2
      exact givesRyB_nil HN1.out HN2.out (bel2 b1 b2)
    · have HSR := Lib.hid (ad_is hl hm)
      rw [hm] at HJ
      have HWT := Lib.hid (wts_app (ryB_wts hl) (ryB_wts hm))
      have HLA := Lib.hid (And.intro (ryB_le hl) (ryB_le hm))
      obtain ⟨i0, hi, hz0, hz1, hz2⟩ := info_parts infoRay
      have HC := Lib.hid (fun s t W => compareSteps_any s t W)
      clear hl hm h h'
      go_enter Try.func35, Try.ntmps35
      go_wp2_with fail
      refine HI.out.mono ?_
      rintro e w1 ⟨rfl, b1⟩
      go_wp2_with fail
      refine (HJ.out _ (HH'.out.below b1)).mono ?_
      rintro e w2 ⟨rfl, b2⟩
      have B2 := bel2 b1 b2
      clear b1 b2
      go_wp2_with fail
      refine (putInOrderR_any _ B B' _ _ a b (HH.out.below B2) (HH'.out.below B2) (by have := HLA.out; omega) (by have := HLA.out; omega)).mono ?_
      rintro e w3 ⟨r, d, rfl, hr, HPD, b3⟩
      have B3 := Lib.hid (bel2 B2 b3)
      obtain ⟨A, cap, rfl, hmm, hp⟩ := RyS.parts hr
      have HP := Lib.hid hp
      have HDW := Lib.hid (show Wts d 20 from fun t ht => HWT.out t (HPD.out.1.mem_iff.1 ht))
      have HEND := Lib.hid (mrgN_all HPD.out.2 HPD.out.1)
      have hdl : d.length ≤ 20 := by have := HPD.out.1.length_eq; rw [List.length_append] at this; have := HLA.out; omega
      obtain ⟨n, hn⟩ : ∃ n, n = d.length := ⟨_, rfl⟩
      have HN := Lib.hid hn
      rw [← hn] at hmm hdl ⊢
      unfold maxLen at hmm
      clear hp hr hn b3 HPD HWT HI HJ B2
      go_wp2
      go_loopw [6, 22] (fun o i wr => ∃ j : Nat, j ≤ n ∧ i = .int .i64 j ∧ RyS wr w3.heap.size o (mrgN d j) ∧ Below w3.heap.size w3 wr) (fun _ i _ => n - (intOf i).toNat)
      case atStart => exact ⟨0, by omega, rfl, FS.nil_ _ _ _ _, Below.refl _ _⟩
      case round =>
        obtain ⟨j, hj, rfl, ho, hbw⟩ := hrel
        by_cases hlt : j < n
        · have hjl : j < d.length := by rw [← HN.out]; exact hlt
          obtain ⟨g, rfl, hc0⟩ := HP.out j hjl
          have hcx := X3.below hc0 hbw
          have hbA := hbw.alloc hbw.size (.cells #[.int .i64 (td d j).1, .int .i64 (td d j).2.1, .int .i64 (td d j).2.2] 39)
          have hS := T3.new wr (td d j) 39
          have hs : wr.heap.size < (wr.alloc (.cells #[.int .i64 (td d j).1, .int .i64 (td d j).2.1, .int .i64 (td d j).2.2] 39)).heap.size := cell_lt hS.1
          have HOA := Lib.hid (FS.alloc ho (.cells #[.int .i64 (td d j).1, .int .i64 (td d j).2.1, .int .i64 (td d j).2.2] 39))
          have hlen := mrgN_len d j
          have HNX := Lib.hid (show mrgN d (j + 1) = mrgR (mrgN d j) (td d j) from rfl)
          have HMW := Lib.hid (wts_at (mrgN_wts HDW.out j (by omega)) (by omega))
          have HTW := Lib.hid (wts_at HDW.out (by omega) j hjl)
          obtain ⟨acc, hacc⟩ : ∃ acc, acc = mrgN d j := ⟨_, rfl⟩
          rw [← hacc] at HOA hlen HNX HMW ho
          obtain ⟨t, ht⟩ : ∃ t, t = td d j := ⟨_, rfl⟩
          rw [← ht] at hcx hbA hS hs HOA HNX HTW
          obtain ⟨c0, c1, c2⟩ := hcx
          have hgl : g < wr.heap.size := cell_lt c0
          clear hc0 hacc ht
          rcases Nat.eq_zero_or_pos acc.length with hz | hz
          · -- the first ray of all
            have hz' : acc = [] := List.eq_nil_of_length_eq_zero hz
            subst hz'
            have HE := Lib.hid (mrg_not (acc := []) (t := t) (.inl rfl))
            obtain ⟨A6, cap6, rfl, -, -⟩ := RyS.parts ho
            rw [show ([] : List Tm).length = 0 from rfl] at *
            go_wp2
            generalize wr.alloc (.cells #[.int .i64 t.1, .int .i64 t.2.1, .int .i64 t.2.2] 39) = W0 at hS hbA hs HOA ⊢
            obtain ⟨g0, g1, g2⟩ := T3.grown hS
            refine wp_region_quiet_grown (by kernel_rfl) (by kernel_rfl) ?_
            repeat (go_big_quiet_step (fail))
            refine wpQuiet_nil ?_
            intro _ hw'
            obtain ⟨⟨nq, osq⟩, hw''⟩ := hw'
            subst hw''
            have HB1 := Lib.hid (bel2 hbA (grB nq osq))
            have HO1 := Lib.hid (FS.below HOA.out (grB nq osq))
            have hT1 := T3.below hS (grB nq osq)
            clear g0 g1 g2 hbA hS hs
            generalize grow (W0.drewN nq) osq = W1 at HB1 HO1 hT1 ⊢
            obtain ⟨t0, t1, t2⟩ := hT1
            have hnl := cell_lt t0
            have hs1 := HB1.out.size
            have ho1 : W1.ownsRow w3.heap.size 39 3 (.slice A6 0 cap6) 0 (ints (flatT [])) := HO1.out
            go_wp2_with (at_builtin; refine wpList_append_own _ rfl _ _ 47 rfl w3.heap.size 39 i0 (.agg #[.int .i64 0, .int .i64 0, .int .i64 0]) 3 24 Try.underlying47 hi hz0 hz1 hz2 rfl (by decide) _ 0 _ rfl (ho1.alloc _) ⟨W1.heap.size, 0, none⟩ 1 1 (ints (encT t)) rfl rfl (T3.news (T3.new W1 t 39)) (ints_one _) (by unfold maxLen; omega) (by omega) (by simp; omega) ?_; intro v' w4 hown' hgrow hnil)
            have hb' : Below w3.heap.size w3 w4 := (HB1.out.alloc hs1 _).grown hgrow (by simp; omega) (fun g' hg' => (World.ownsRow.lt ho1 g' hg').1)
            have hrow : RyS w4 w3.heap.size v' (mrgN d (j + 1)) := by
              unfold RyS
              rw [HNX.out, HE.out, flatT_snoc, List.length_append]
              exact FS.snoc hown'
            clear hown' hgrow ho1
            go_wp2
            go_roundw
            case rel => exact ⟨j + 1, by omega, by go_num, hrow, hb'⟩
            case measure => simp [intOf]; omega
          · obtain ⟨gs, cap6, hv6, hBs, hgs, -⟩ := RyS.some ho hz
            have hcells := (RyS.parts ho)
            obtain ⟨A6, cap7, hv7, -, hp6⟩ := hcells
            rw [hv6] at hv7
            simp only [Value.slice.injEq, true_and] at hv7
            obtain ⟨rfl, rfl⟩ := hv7
            subst hv6
            have hx6 : X3 wr gs ((acc.length - 1) * 3) (td acc (acc.length - 1)) := by
              obtain ⟨g', hg', hx⟩ := hp6 (acc.length - 1) (by omega)
              cases hg'; exact hx
            have hxA := X3.below hx6 ((Below.refl _ _).alloc (Nat.le_refl _) (.cells #[.int .i64 t.1, .int .i64 t.2.1, .int .i64 t.2.2] 39))
            have HAL := Lib.hid hlen
            have HMWL := Lib.hid (HMW.out (acc.length - 1) (by omega))
            obtain ⟨m, hm⟩ : ∃ m, m = acc.length := ⟨_, rfl⟩
            have HM := Lib.hid hm
            obtain ⟨u, hu⟩ : ∃ u, u = td acc (m - 1) := ⟨_, rfl⟩
            rw [← hm] at hz hxA HMWL hlen
            rw [← hm] at HOA
            rw [← hu] at hxA HMWL
            have q1 : IntKind.i64.wrap ((m : Int) - 1) = ((m - 1 : Nat) : Int) := by rw [IntWalk.i64_in _ (by omega)]; omega
            have l1 : m - 1 < m := by omega
            have z1 : ((m - 1 : Nat) : Int) < (m : Int) := by omega
            have z2 : (0 : Int) ≤ ((m - 1 : Nat) : Int) := by omega
            by_cases hsm : Same u t
            · have HE := Lib.hid (mrg_is (acc := acc) (t := t) (by rw [← hm]; exact hz) (by rw [← hm, ← hu]; exact hsm))
              have HC' := Lib.hid (fun W => show Calls Try.prog 69 #[tmV u, tmV t] W fun e w' => e = .returned (.int .i64 0) ∧ Gr W w' by rw [← (cmpS_eq u t).2 hsm]; exact HC.out _ _ W)
              have HMT := Lib.hid (And.intro hm hu)
              clear hsm hm hu hp6 hx6 ho
              rw [← HM.out]
              go_wp2
              generalize wr.alloc (.cells #[.int .i64 t.1, .int .i64 t.2.1, .int .i64 t.2.2] 39) = W0 at hS hbA hs HOA hxA ⊢
              obtain ⟨g0, g1, g2⟩ := T3.grown hS
              obtain ⟨p0, p1, p2⟩ := X3.grown hxA
              have hgs0 : gs < W0.heap.size := cell_lt hxA.1
              refine wp_region_quiet_grown (by kernel_rfl) (by kernel_rfl) ?_
              repeat (go_big_quiet_step ((go_at_call 69; refine Calls.grown_of (HC'.out _))))
              refine wpQuiet_nil ?_
              intro _ hw'
              obtain ⟨⟨nq, osq⟩, hw''⟩ := hw'
              subst hw''
              have HB1 := Lib.hid (bel2 hbA (grB nq osq))
              have HO1 := Lib.hid (FS.below HOA.out (grB nq osq))
              have hT1 := T3.below hS (grB nq osq)
              have hX1 := X3.below hxA (grB nq osq)
              clear g0 g1 g2 p0 p1 p2 hbA hS hs hxA hgs0
              generalize grow (W0.drewN nq) osq = W1 at HB1 HO1 hT1 hX1 ⊢
              obtain ⟨t0, t1, t2⟩ := hT1
              obtain ⟨x0, x1, x2⟩ := hX1
              have hnl := cell_lt t0
              have hgl1 := cell_lt x0
              have qw : IntKind.i64.wrap (u.2.2 + t.2.2) = u.2.2 + t.2.2 := IntWalk.i64_in _ (by have := HMWL.out; have := HTW.out; omega)
              have f2 := World.ownsRow.frozenAt HO1.out ((m - 1) * 3 + 2)
              have s2 := World.ownsRow.stored HO1.out ((m - 1) * 3 + 2) (.int .i64 (u.2.2 + t.2.2))
              have hrow : RyS (W1.setCell ⟨gs, (m - 1) * 3 + 2, none⟩ (.int .i64 (u.2.2 + t.2.2))) w3.heap.size (.slice (some ⟨gs, 0, none⟩) m cap6) (mrgN d (j + 1)) := by
                have h2 := s2.1
                unfold RyS FS
                rw [HNX.out, HE.out.1, HE.out.2, ← HM.out, ← HMT.out.2]
                have e : (ints (flatT acc)).set ((m - 1) * 3 + 2) (.int .i64 (u.2.2 + t.2.2)) = ints ((flatT acc).set ((m - 1) * 3 + 2) (u.2.2 + t.2.2)) := by unfold ints; simp only [List.map_set]
                rw [← e]; exact h2
              have HB4 := Lib.hid (HB1.out.setCell (p := ⟨gs, (m - 1) * 3 + 2, none⟩) hBs (.int .i64 (u.2.2 + t.2.2)))
              have HRW := Lib.hid hrow
              clear s2 hrow
              go_wp2
              go_region
              all_goals
                go_wp2
                go_roundw
                case rel => exact ⟨j + 1, by omega, by go_num, HRW.out, HB4.out.drew⟩
                case measure => simp [intOf]; omega
            · have HE := Lib.hid (mrg_not (acc := acc) (t := t) (.inr (by rw [← hm, ← hu]; exact hsm)))
              obtain ⟨c, hc⟩ : ∃ c, c = cmpS u t := ⟨_, rfl⟩
              have hcz : (c == 0) = false := by
                simp only [beq_eq_false_iff_ne]
                intro e; rw [hc] at e; exact hsm ((cmpS_eq u t).1 e)
              have HC' := Lib.hid (fun W => show Calls Try.prog 69 #[tmV u, tmV t] W fun e w' => e = .returned (.int .i64 c) ∧ Gr W w' by rw [hc]; exact HC.out _ _ W)
              clear hsm hm hu hp6 hx6 ho hc
              rw [← HM.out]
              go_wp2
              generalize wr.alloc (.cells #[.int .i64 t.1, .int .i64 t.2.1, .int .i64 t.2.2] 39) = W0 at hS hbA hs HOA hxA ⊢
              obtain ⟨g0, g1, g2⟩ := T3.grown hS
              obtain ⟨p0, p1, p2⟩ := X3.grown hxA
              have hgs0 : gs < W0.heap.size := cell_lt hxA.1
              refine wp_region_quiet_grown (by kernel_rfl) (by kernel_rfl) ?_
              repeat (go_big_quiet_step ((go_at_call 69; refine Calls.grown_of (HC'.out _))))
              refine wpQuiet_nil ?_
              intro _ hw'
              obtain ⟨⟨nq, osq⟩, hw''⟩ := hw'
              subst hw''
              have HB1 := Lib.hid (bel2 hbA (grB nq osq))
              have HO1 := Lib.hid (FS.below HOA.out (grB nq osq))
              have hT1 := T3.below hS (grB nq osq)
              clear g0 g1 g2 p0 p1 p2 hbA hS hs hxA hgs0
              generalize grow (W0.drewN nq) osq = W1 at HB1 HO1 hT1 ⊢
              obtain ⟨t0, t1, t2⟩ := hT1
              have hnl := cell_lt t0
              have hs1 := HB1.out.size
              have ho1 : W1.ownsRow w3.heap.size 39 3 (.slice (some ⟨gs, 0, none⟩) m cap6) m (ints (flatT acc)) := HO1.out
              go_wp2_with (at_builtin; refine wpList_append_own _ rfl _ _ 47 rfl w3.heap.size 39 i0 (.agg #[.int .i64 0, .int .i64 0, .int .i64 0]) 3 24 Try.underlying47 hi hz0 hz1 hz2 rfl (by decide) _ m _ rfl (ho1.alloc _) ⟨W1.heap.size, 0, none⟩ 1 1 (ints (encT t)) rfl rfl (T3.news (T3.new W1 t 39)) (ints_one _) (by unfold maxLen; omega) (by omega) (by simp; omega) ?_; intro v' w4 hown' hgrow hnil)
              have hb' : Below w3.heap.size w3 w4 := (HB1.out.alloc hs1 _).grown hgrow (by simp; omega) (fun g' hg' => (World.ownsRow.lt ho1 g' hg').1)
              have hrow : RyS w4 w3.heap.size v' (mrgN d (j + 1)) := by
                unfold RyS
                rw [HNX.out, HE.out, flatT_snoc, List.length_append, ← HM.out]
                exact FS.snoc hown'
              clear hown' hgrow ho1
              go_wp2
              go_roundw
              case rel => exact ⟨j + 1, by omega, by go_num, hrow, hb'⟩
              case measure => simp [intOf]; omega
        · obtain rfl : j = n := by omega
          rw [show mrgN d j = normR (a ++ b) by rw [HN.out]; exact HEND.out] at ho
          have HO := Lib.hid ho
          clear ho
          go_wp2_with fail
          refine (orNone_any _ _ _ _ HO.out).mono ?_
          rintro e w5 ⟨r, rfl, hr, b5⟩
          go_wp2
          go_ret2
          exact givesRyB_is HSR.out.1.symm HSR.out.2 (FS.base hr B3.out.size) (bel2 (bel2 B3.out hbw) b5)
end Go.Proofs.Ythegkifhbgopoaa

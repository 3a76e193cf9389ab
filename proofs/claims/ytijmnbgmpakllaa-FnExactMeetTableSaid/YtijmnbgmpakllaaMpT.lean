/-
  Tables of counts, in the program and in the model.
  Condition: the slice of slices reads as the lists that are named.
-/
import Derived.Test.YtijmnbgmpakllaaMpC
import Derived.Test.YtijmnbgmpakllaaSsF
namespace Go.Proofs.Ytijmnbgmpakllaa
set_option linter.unusedSimpArgs false
set_option linter.unusedVariables false
open Go.ChangeShapes Go.WideShapes Go.ChangeAt Go.RowKit
open Go.Sort (grow)

/-- Can all counts be told; the row of a star, the table. -/
def mtOk (L : List (List Tm)) : Bool := decide (L.length ≤ 6) && L.all baB
def mtRow (L : List (List Tm)) (a : List Tm) : List Int := L.map (meC a)
def mtTab (L : List (List Tm)) : List (List Int) := if mtOk L = true then L.map (mtRow L) else []
def lat (L : List (List Tm)) (j : Nat) : List Tm := L.getD j []
theorem lat_eq {L : List (List Tm)} {j : Nat} (hj : j < L.length) : L[j] = lat L j := by
  unfold lat; rw [List.getD_eq_getElem?_getD, List.getElem?_eq_getElem hj]; rfl
theorem mtTab_yes {L : List (List Tm)} (h : mtOk L = true) : mtTab L = L.map (mtRow L) := if_pos h
theorem mtTab_no {L : List (List Tm)} (h : mtOk L = false) : mtTab L = [] := if_neg (by simp [h])
theorem mtOk_long {L : List (List Tm)} (h : ¬ L.length ≤ 6) : mtOk L = false := by unfold mtOk; rw [decide_eq_false h]; rfl
theorem mtOk_bad {L : List (List Tm)} {j : Nat} (hj : j < L.length) (h : baB (lat L j) = false) : mtOk L = false := by
  have : L.all baB = false := by
    rw [← Bool.not_eq_true]; intro ha
    have := List.all_eq_true.1 ha _ (List.getElem_mem hj)
    rw [lat_eq hj, h] at this; cases this
  unfold mtOk; rw [this]; simp
theorem mtOk_yes {L : List (List Tm)} (h6 : L.length ≤ 6) (h : ∀ j, j < L.length → baB (lat L j) = true) : mtOk L = true := by
  unfold mtOk
  rw [decide_eq_true h6, Bool.true_and]
  refine List.all_eq_true.2 fun a ha => ?_
  obtain ⟨j, hj, rfl⟩ := List.getElem_of_mem ha
  rw [lat_eq hj]; exact h j hj
theorem mtRow_len (L : List (List Tm)) (a : List Tm) : (mtRow L a).length = L.length := by simp [mtRow]
theorem mtRow_gd {L : List (List Tm)} {a : List Tm} {k : Nat} (hk : k < L.length) : gd (mtRow L a) k = meC a (lat L k) := by
  rw [gd_eq _ _ (by rw [mtRow_len]; exact hk)]
  unfold mtRow
  rw [List.getElem_map, lat_eq hk]
theorem mtRow_next {L : List (List Tm)} {a : List Tm} {k : Nat} (hk : k < L.length) : (mtRow L a).take (k + 1) = (mtRow L a).take k ++ [meC a (lat L k)] := by
  rw [List.take_add_one, List.getElem?_eq_getElem (by rw [mtRow_len]; exact hk)]
  unfold mtRow
  rw [List.getElem_map, lat_eq hk]; rfl
theorem mtTab_next {L : List (List Tm)} {j : Nat} (hj : j < L.length) : (L.map (mtRow L)).take (j + 1) = (L.map (mtRow L)).take j ++ [mtRow L (lat L j)] := by
  rw [List.take_add_one, List.getElem?_eq_getElem (by simpa using hj), List.getElem_map, lat_eq hj]; rfl
theorem twS_parts {a b : List Tm} (h : twS a b = true) : baB a = true ∧ baB b = true := by unfold twS at h; simpa using h
/-- A slice of slices of rays. -/
abbrev LRy (w : World) (B : Nat) (v : Value) (P : VL) : Prop := LSF 38 26 3 w B v P
theorem lry_at {w : World} {B : Nat} {v : Value} {P : VL} {L : List (List Tm)} (h : LRy w B v P) (hL : lls P = L.map flatT) {j : Nat} (hj : j < P.length) : RyS w B (pvl P j) (lat L j) := by
  have h1 := h.2.at hj
  have h2 := lls_at hj
  have hjl : j < L.length := by have := congrArg List.length hL; rw [lls_len, List.length_map] at this; omega
  rw [hL, List.getElem?_map, List.getElem?_eq_getElem hjl, lat_eq hjl] at h2
  rw [← Option.some.inj h2] at h1
  rw [flatT_len, Nat.mul_div_cancel _ (by omega)] at h1
  exact h1
theorem lry_len {P : VL} {L : List (List Tm)} (hL : lls P = L.map flatT) : L.length = P.length := by
  have := congrArg List.length hL
  rw [lls_len, List.length_map] at this
  exact this.symm
set_option maxHeartbeats 4000000 in
set_option maxRecDepth 100000 in
theorem specMeetTable_any (w : World) (B : Nat) (v : Value) (P : VL) (L : List (List Tm)) (h : LRy w B v P) (hL : lls P = L.map flatT) : Calls Try.prog 43 #[v] w fun e w' => GivesLB (mtOk L) (mtTab L) w e w' := by
  have H0 := Lib.hid h
  have HL := Lib.hid hL
  have HLn := Lib.hid (lry_len hL)
  obtain ⟨A, cap, rfl, hm, hp⟩ := LSF.parts h
  have HP := Lib.hid hp
  obtain ⟨n, hn⟩ : ∃ n, n = P.length := ⟨_, rfl⟩
  have HN := Lib.hid hn
  rw [← hn] at hm ⊢
  unfold maxLen at hm
  clear h hL hp hn
  obtain ⟨i0, hi, hz0, hz1, hz2⟩ := info_parts infoInt
  obtain ⟨j0, hj0, hy0, hy1, hy2⟩ := info_parts infoSl
  by_cases h6 : n ≤ 6
  · have h61 : ¬ (6 : Int) < (n : Int) := by omega
    go_enter Try.func43, Try.ntmps43
    go_wp2
    go_loopw [17] (fun i wr => ∃ j : Nat, j ≤ n ∧ i = .int .i64 j ∧ Hid (∀ q, q < j → baB (lat L q) = true) ∧ Hid (Below w.heap.size w wr)) (fun i _ => n - (intOf i).toNat)
    case atStart => exact ⟨0, by omega, rfl, Lib.hid fun q hq => by omega, Lib.hid (Below.refl _ _)⟩
    case round =>
      obtain ⟨j, hj, rfl, hall, hb⟩ := hrel
      by_cases hlt : j < n
      · have hjp : j < P.length := by rw [← HN.out]; exact hlt
        obtain ⟨g, rfl, hc⟩ := HP.out j hjp
        have hc1 := box_o hc hb.out
        have hgl : g < wr.heap.size := cell_lt hc1
        have HS := Lib.hid (mtStar_any wr B _ _ (FS.below (lry_at H0.out HL.out hjp) hb.out))
        clear hc
        cases hq : baB (lat L j)
        · rw [hq] at HS
          have HX := Lib.hid (mtOk_bad (L := L) (j := j) (by rw [HLn.out]; exact hjp) hq)
          clear hq
          go_wp2_with fail
          refine HS.out.mono ?_
          rintro e w1 ⟨rfl, b1⟩
          have bb := bel2 hb.out b1
          go_wp2
          go_ret2
          exact givesLB_nil HX.out (mtTab_no HX.out) bb
        · rw [hq] at HS
          have HX := Lib.hid (show ∀ q, q < j + 1 → baB (lat L q) = true from fun q hq' => by
            rcases Nat.lt_or_ge q j with h | h
            · exact hall.out q h
            · obtain rfl : q = j := by omega
              exact hq)
          clear hq
          go_wp2_with fail
          refine HS.out.mono ?_
          rintro e w1 ⟨rfl, b1⟩
          have bb := Lib.hid (bel2 hb.out b1)
          clear b1
          go_wp2
          go_roundw
          case rel => exact ⟨j + 1, by omega, by go_num, HX, bb⟩
          case measure => simp [intOf]; omega
      · obtain rfl : j = n := by omega
        have HOK := Lib.hid (mtOk_yes (L := L) (by rw [HLn.out, ← HN.out]; exact h6) (fun q hq => hall.out q (by rw [HN.out, ← HLn.out]; exact hq)))
        have HBA := hall
        obtain ⟨w5, hw5⟩ : ∃ w5, w5 = wr := ⟨_, rfl⟩
        rw [← hw5] at hb ⊢
        clear hw5 wr
        have HB5 := hb
        clear hall hb hlt hj
        go_wp2
        go_loopw [6, 27] (fun o i wr => ∃ (c : Nat) (Q : VL), c ≤ j ∧ i = .int .i64 c ∧ Hid (LS wr w5.heap.size o Q ∧ lls Q = (L.map (mtRow L)).take c) ∧ Hid (Below w5.heap.size w5 wr)) (fun _ i _ => j - (intOf i).toNat)
        case atStart => exact ⟨0, [], by omega, rfl, Lib.hid ⟨LS.nil_ _ _, rfl⟩, Lib.hid (Below.refl _ _)⟩
        case round =>
          obtain ⟨c, Q, hc, rfl, hst, hb⟩ := hrel
          by_cases hlt : c < j
          · have hcp : c < P.length := by rw [← HN.out]; exact hlt
            have hcl : c < L.length := by rw [HLn.out]; exact hcp
            obtain ⟨wO, hwO⟩ : ∃ wO, wO = wr := ⟨_, rfl⟩
            rw [← hwO] at hst hb ⊢
            clear hwO wr
            obtain ⟨g, rfl, hc0⟩ := HP.out c hcp
            have hc1 := box_o hc0 (bel2 HB5.out hb.out)
            have hgl : g < wO.heap.size := cell_lt hc1
            obtain ⟨va, hva⟩ : ∃ va, va = pvl P c := ⟨_, rfl⟩
            have HSA := Lib.hid (show RyS w B va (lat L c) by rw [hva]; exact lry_at H0.out HL.out hcp)
            obtain ⟨a, ha⟩ : ∃ a, a = lat L c := ⟨_, rfl⟩
            rw [← ha] at HSA
            have HAB := Lib.hid (show baB a = true by rw [ha]; exact HBA.out c hlt)
            have HA := Lib.hid ha
            rw [← hva] at hc1
            clear hc0 ha hva
            have HB0 := Lib.hid (bel2 HB5.out hb.out)
            obtain ⟨AA, ca, rfl, -, -⟩ := RyS.parts HSA.out
            go_wp2
            go_loopw [9, 33] (fun o i wr => ∃ (k : Nat) (vr : Value), k ≤ j ∧ vr = o ∧ i = .int .i64 k ∧ Hid (IS wr wO.heap.size vr ((mtRow L a).take k)) ∧ Hid (Below wO.heap.size wO wr)) (fun _ i _ => j - (intOf i).toNat)
            case atStart => exact ⟨0, _, by omega, rfl, rfl, Lib.hid (IS.nil_ _ _), Lib.hid (Below.refl _ _)⟩
            case round =>
              clear hc1 hgl
              obtain ⟨k, vr, hk, hov, rfl, hir, hbk⟩ := hrel
              subst hov
              by_cases hltk : k < j
              · have hkp : k < P.length := by rw [← HN.out]; exact hltk
                have hkl : k < L.length := by rw [HLn.out]; exact hkp
                obtain ⟨g2, hg2, hd0⟩ := HP.out k hkp
                cases hg2
                have bO := bel2 HB0.out hbk.out
                have hd1 := box_o hd0 bO
                have hgl2 : g < wr.heap.size := cell_lt hd1
                obtain ⟨vb, hvb⟩ : ∃ vb, vb = pvl P k := ⟨_, rfl⟩
                have HSB := Lib.hid (show RyS w B vb (lat L k) by rw [hvb]; exact lry_at H0.out HL.out hkp)
                rw [← hvb] at hd1
                have HC := Lib.hid (mtCount_any wr B B _ vb a (lat L k) (FS.below HSA.out bO) (FS.below HSB.out bO) (baB_ry HAB.out) (baB_ry (HBA.out k hltk)))
                obtain ⟨mc, hmc⟩ : ∃ mc, mc = meC a (lat L k) := ⟨_, rfl⟩
                rw [← hmc] at HC
                have HNX := Lib.hid (show (mtRow L a).take (k + 1) = (mtRow L a).take k ++ [mc] by rw [hmc]; exact mtRow_next hkl)
                obtain ⟨xs, hxs⟩ : ∃ xs, xs = (mtRow L a).take k := ⟨_, rfl⟩
                have hxl : xs.length = k := by rw [hxs, List.length_take, mtRow_len]; omega
                rw [← hxs] at hir HNX
                obtain ⟨AB, cb, rfl, -, -⟩ := RyS.parts HSB.out
                clear hd0 hvb bO hmc hxs
                go_wp2_with fail
                refine HC.out.mono ?_
                rintro e w7 ⟨rfl, b7⟩
                have ho7 : w7.ownsRow wO.heap.size 3 1 vr xs.length (ints xs) := hir.out.below b7
                have bb7 := bel2 hbk.out b7
                have hs7 := bb7.size
                rw [hxl] at ho7
                have HB7 := Lib.hid bb7
                have HX := Lib.hid hxl
                clear b7 bb7 hd1 hgl2 hxl hir hbk
                go_wp2_with (at_builtin; refine wpList_append_own _ rfl _ _ 71 rfl wO.heap.size 3 i0 (.int .i64 0) 1 8 Try.underlying71 hi hz0 hz1 hz2 rfl (by decide) _ _ _ rfl (ho7.alloc _) ⟨w7.heap.size, 0, none⟩ 1 1 [.int .i64 mc] rfl rfl (one_new _ _) (by simp [Value.oneCell']) (by unfold maxLen; omega) (by omega) (by simp; omega) ?_; intro v' w8 hown' hgrow hnil)
                have hb8 := Lib.hid (show Below wO.heap.size wO w8 from (HB7.out.alloc HB7.out.size _).grown hgrow (by have := HB7.out.size; simp; omega) (fun q hq => (World.ownsRow.lt ho7 q hq).1))
                have HI8 := Lib.hid (show IS w8 wO.heap.size v' ((mtRow L a).take (k + 1)) by rw [HNX.out]; exact IS.snoc HX.out.symm hown')
                clear hown' hgrow hnil ho7 hs7
                go_wp2
                go_roundw
                case rel => exact ⟨k + 1, _, by omega, rfl, by go_num, HI8, hb8⟩
                case measure => simp [intOf]; omega
              · obtain rfl : k = j := by omega
                have hir2 : Hid (IS wr wO.heap.size vr (mtRow L a)) := Lib.hid (by
                  have := hir.out
                  rwa [List.take_of_length_le (by rw [mtRow_len, HLn.out, ← HN.out]; exact Nat.le_refl _)] at this)
                obtain ⟨nq, hnq⟩ : ∃ nq, nq = Q.length := ⟨_, rfl⟩
                have HNQ := Lib.hid hnq
                have hnq2 : nq ≤ 200 := by
                  have := lls_len Q
                  rw [hst.out.2, List.length_take] at this
                  omega
                obtain ⟨Ar, cr', hvr, -, -⟩ := hir2.out.parts
                subst hvr
                obtain ⟨ln, hln⟩ : ∃ ln, ln = (mtRow L a).length := ⟨_, rfl⟩
                rw [← hln] at hir2 ⊢
                have bJ : Below wr.heap.size wr (wr.alloc (.cells #[.slice Ar ln cr'] 71)) := (Below.refl _ _).alloc (Nat.le_refl _) _
                have HX6 := Lib.hid (hir2.out.below bJ)
                have HB6 := Lib.hid (bel2 hbk.out bJ)
                have HNW := Lib.hid (oneS_news (litS_new wr (.slice Ar ln cr')))
                have hone : (Value.slice Ar ln cr').oneCell' = true := rfl
                have hrow6 := (hst.out.1.below HB6.out).1
                rw [← hnq] at hrow6
                have hs6 := Nat.le_trans hb.out.size HB6.out.size
                clear bJ hnq hir hir2 hln hone
                go_wp2_with (at_builtin; refine wpList_append_own _ rfl _ _ 35 rfl w5.heap.size 71 j0 (.slice none 0 0) 1 24 Try.underlying35 hj0 hy0 hy1 hy2 rfl (by decide) _ nq _ rfl hrow6 ⟨wr.heap.size, 0, none⟩ 1 1 [.slice Ar ln cr'] rfl rfl HNW.out (by simp [Value.oneCell']) (by unfold maxLen; omega) (by omega) hs6 ?_; intro v7 w7 hown7 hgrow7 hnil7)
                have hLS7 := ls_push hst.out.1 HB6.out hb.out.size HX6.out (by rw [← HNQ.out]; exact hown7) hgrow7
                have HL7 := Lib.hid (And.intro hLS7 (show lls (Q ++ [(.slice Ar ln cr', mtRow L a)]) = (L.map (mtRow L)).take (c + 1) by
                  rw [mtTab_next hcl, ← HA.out, ← hst.out.2]; simp [lls]))
                have hb7 := Lib.hid (show Below w5.heap.size w5 w7 from (bel2 hb.out HB6.out).grown hgrow7 (bel2 hb.out HB6.out).size (fun q hq => (World.ownsRow.lt hst.out.1.1 q hq).1))
                clear hown7 hgrow7 hnil7 hLS7 hrow6
                go_wp2
                go_roundw
                case rel => exact ⟨c + 1, _, by omega, by go_num, HL7, hb7⟩
                case measure => simp [intOf]; omega
          · obtain rfl : c = j := by omega
            have hl := hst.out.2
            rw [List.take_of_length_le (by rw [List.length_map, HLn.out, ← HN.out]; exact Nat.le_refl _), ← mtTab_yes HOK.out] at hl
            have hls := hst.out.1.base HB5.out.size
            have hE := bel2 HB5.out hb.out
            have HF := Lib.hid (And.intro hls (And.intro hl hE))
            clear hls hl hE
            go_wp2
            go_ret2
            rw [HOK.out]
            exact ⟨_, Q, rfl, HF.out.1, HF.out.2.1, HF.out.2.2⟩
  · have h61 : (6 : Int) < (n : Int) := by omega
    have HX := Lib.hid (mtOk_long (L := L) (by rw [HLn.out, ← HN.out]; exact h6))
    go_enter Try.func43, Try.ntmps43
    go_wp2
    go_ret2
    exact givesLB_nil HX.out (mtTab_no HX.out) (Below.refl _ _)
theorem infoSlT : (Try.prog.info? 71).map (fun i => (i.zero, i.size, i.bytes)) = some (some (.slice none 0 0), 1, 24) := by kernel_rfl
theorem made_row (n : Nat) (vals : List Int) (hn : vals.length = n) : (madeCells (Value.int .i64 0 : Value).cells (n * 1)).toList = ints (part vals 0) := by
  rw [show part vals 0 = List.replicate (n * 1) 0 by simp [part, hn]]
  simp only [madeCells, ints, Value.cells, Nat.mul_one, List.map_replicate]
  refine List.eq_replicate_iff.2 ⟨by simp, fun b hb => ?_⟩
  simp [Nat.mod_one] at hb
  exact hb.2.symm
set_option maxHeartbeats 4000000 in
set_option maxRecDepth 100000 in
theorem implMeetTable_any (w : World) (B : Nat) (v : Value) (P : VL) (L : List (List Tm)) (h : LRy w B v P) (hL : lls P = L.map flatT) : Calls Try.prog 45 #[v] w fun e w' => GivesLB (mtOk L) (mtTab L) w e w' := by
  have H0 := Lib.hid h
  have HL := Lib.hid hL
  have HLn := Lib.hid (lry_len hL)
  obtain ⟨A, cap, rfl, hm, hp⟩ := LSF.parts h
  have HP := Lib.hid hp
  obtain ⟨n, hn⟩ : ∃ n, n = P.length := ⟨_, rfl⟩
  have HN := Lib.hid hn
  rw [← hn] at hm ⊢
  unfold maxLen at hm
  clear h hL hp hn
  obtain ⟨i0, hi, hz0, hz1, hz2⟩ := info_parts infoInt
  obtain ⟨j0, hj0, hy0, hy1, hy2⟩ := info_parts infoSlT
  by_cases h6 : n ≤ 6
  · have h61 : ¬ (6 : Int) < (n : Int) := by omega
    go_enter Try.func45, Try.ntmps45
    go_wp2_with (refine wpList_make_full _ rfl _ _ 35 rfl w.heap.size 71 j0 (.slice none 0 0) 1 Try.underlying35 hj0 hy0 hy1 .i64 .i64 _ _ n rfl rfl rfl rfl (by rw [hy2]; omega) (by simp only [maxLen]; omega) (Nat.le_refl _) ?_; intro w1 hown hgrow)
    rw [madeS] at hown
    have hb0 : Below w.heap.size w w1 := (Below.refl _ _).grown hgrow (Nat.le_refl _) (fun _ h => by cases h)
    have hsz : w.heap.size + 1 ≤ w1.heap.size := by
      rcases hown.2 with ⟨h0, -⟩ | ⟨g, c, cur, h1, h2, h3, -⟩
      · cases h0
      · obtain ⟨rfl, -⟩ : w.heap.size = g ∧ n = c := by simpa using h1
        have := (Array.getElem?_eq_some_iff.1 h3).1
        omega
    have hrow0 := Lib.hid (And.intro hown (And.intro hb0 hsz))
    clear hown hgrow hb0 hsz
    go_wp2
    go_loopw [20] (fun i wr => ∃ (c : Nat) (Q : VL), c ≤ n ∧ i = .int .i64 c ∧ Hid (Q.length = c ∧ lls Q = (L.map (mtRow L)).take c ∧ (∀ q, q < c → baB (lat L q) = true) ∧ wr.ownsRow w.heap.size 71 1 (.slice (some ⟨w.heap.size, 0, none⟩) n n) n (vls Q ++ List.replicate (n - Q.length) (.slice none 0 0)) ∧ LV wr (w.heap.size + 1) Q ∧ Below w.heap.size w wr ∧ w.heap.size + 1 ≤ wr.heap.size)) (fun i _ => n - (intOf i).toNat)
    case atStart => exact ⟨0, [], by omega, rfl, Lib.hid ⟨rfl, rfl, fun q hq => by omega, hrow0.out.1, ⟨fun _ h => by simp at h, List.Pairwise.nil⟩, hrow0.out.2.1, hrow0.out.2.2⟩⟩
    case round =>
      obtain ⟨c, Q, hc, rfl, hst⟩ := hrel
      clear hrow0
      obtain ⟨hQ, hl, hba, hrow, hv, hb, hs⟩ := hst.out
      by_cases hlt : c < n
      · have hcp : c < P.length := by rw [← HN.out]; exact hlt
        have hcl : c < L.length := by rw [HLn.out]; exact hcp
        obtain ⟨wO, hwO⟩ : ∃ wO, wO = wr := ⟨_, rfl⟩
        rw [← hwO] at hst hb hrow hv hs ⊢
        clear hwO wr
        obtain ⟨g, rfl, hc0⟩ := HP.out c hcp
        have hc1 := box_o hc0 hb
        have hgl : g < wO.heap.size := cell_lt hc1
        obtain ⟨va, hva⟩ : ∃ va, va = pvl P c := ⟨_, rfl⟩
        have HSA := Lib.hid (show RyS w B va (lat L c) by rw [hva]; exact lry_at H0.out HL.out hcp)
        obtain ⟨a, ha⟩ : ∃ a, a = lat L c := ⟨_, rfl⟩
        rw [← ha] at HSA
        have HA := Lib.hid ha
        rw [← hva] at hc1
        have HB0 := Lib.hid hb
        have HVL := Lib.hid (show (mtRow L a).length = n by rw [mtRow_len, HLn.out, ← HN.out])
        obtain ⟨AA, ca, rfl, -, -⟩ := RyS.parts HSA.out
        clear hc0 ha hva hb hQ hl hba hrow hv hs
        go_wp2_with (refine wpList_make_full _ rfl _ _ 71 rfl wO.heap.size 3 i0 (.int .i64 0) 1 Try.underlying71 hi hz0 hz1 .i64 .i64 _ _ n rfl rfl rfl rfl (by rw [hz2]; omega) (by simp only [maxLen]; omega) (Nat.le_refl _) ?_; intro w3 hown hgrow)
        rw [made_row n (mtRow L a) HVL.out] at hown
        have hb3 : Below wO.heap.size wO w3 := (Below.refl _ _).grown hgrow (Nat.le_refl _) (fun _ h => by cases h)
        have hrow3 := Lib.hid (And.intro hown hb3)
        obtain ⟨R, hR⟩ : ∃ R, R = wO.heap.size := ⟨_, rfl⟩
        clear hown hgrow hb3 hc1 hgl
        go_wp2
        rw [← hR]
        rw [← hR] at hrow3
        have HR := Lib.hid hR
        clear hR
        go_loopw [30] (fun i wr => ∃ k : Nat, k ≤ n ∧ i = .int .i64 k ∧ Hid ((∀ q, q < k → twS a (lat L q) = true) ∧ wr.ownsRow R 3 1 (.slice (some ⟨R, 0, none⟩) n n) n (ints (part (mtRow L a) k)) ∧ Below R wO wr)) (fun i _ => n - (intOf i).toNat)
        case atStart => exact ⟨0, by omega, rfl, Lib.hid ⟨fun q hq => by omega, hrow3.out.1, hrow3.out.2⟩⟩
        case round =>
          clear hrow3
          obtain ⟨k, hk, rfl, hsk⟩ := hrel
          obtain ⟨htw, hrw, hbk⟩ := hsk.out
          by_cases hltk : k < n
          · have hkp : k < P.length := by rw [← HN.out]; exact hltk
            have hkl : k < L.length := by rw [HLn.out]; exact hkp
            obtain ⟨g2, hg2, hd0⟩ := HP.out k hkp
            cases hg2
            have bO := bel2 HB0.out (by rw [← HR.out]; exact hbk)
            have hd1 := box_o hd0 bO
            have hgl2 : g < wr.heap.size := cell_lt hd1
            obtain ⟨vb, hvb⟩ : ∃ vb, vb = pvl P k := ⟨_, rfl⟩
            have HSB := Lib.hid (show RyS w B vb (lat L k) by rw [hvb]; exact lry_at H0.out HL.out hkp)
            rw [← hvb] at hd1
            have HC := Lib.hid (implMeetCount_any wr B B _ vb a (lat L k) (FS.below HSA.out bO) (FS.below HSB.out bO))
            obtain ⟨AB, cb, rfl, -, -⟩ := RyS.parts HSB.out
            have hbz := bO
            cases htk : twS a (lat L k)
            · rw [htk] at HC
              have HX := Lib.hid (show mtOk L = false by
                unfold twS at htk
                rcases Bool.and_eq_false_iff.1 htk with h1 | h1
                · exact mtOk_bad hcl (by rw [← HA.out]; exact h1)
                · exact mtOk_bad hkl h1)
              have HBZ := Lib.hid bO
              clear hd0 hvb bO hbz htk htw hrw hbk
              go_wp2_with fail
              refine HC.out.mono ?_
              rintro e w7 ⟨rfl, b7⟩
              have bb := bel2 HBZ.out b7
              go_wp2
              go_ret2
              exact givesLB_nil HX.out (mtTab_no HX.out) bb
            · rw [htk, okI_yes rfl] at HC
              obtain ⟨mc, hmc⟩ : ∃ mc, mc = meC a (lat L k) := ⟨_, rfl⟩
              rw [← hmc] at HC
              have HT1 := Lib.hid (show ∀ q, q < k + 1 → twS a (lat L q) = true from fun q hq' => by
                rcases Nat.lt_or_ge q k with h | h
                · exact htw q h
                · obtain rfl : q = k := by omega
                  exact htk)
              have HP1 := Lib.hid (show (part (mtRow L a) k).set k mc = part (mtRow L a) (k + 1) by
                rw [hmc, ← mtRow_gd hkl]; exact part_set _ k (by rw [HVL.out]; exact hltk))
              have hcR : wr.cell? ⟨R, k, none⟩ = some (.int .i64 (gd (part (mtRow L a) k) k)) := by
                rw [World.ownsRow.cellAt hrw k (by omega), getD_ints _ k (by rw [part_len _ _ (by rw [HVL.out]; omega), HVL.out]; exact hltk)]
              have hfR := World.ownsRow.frozenAt hrw k
              clear hd0 hvb bO hbz htk hmc htw
              go_wp2_with fail
              refine HC.out.mono ?_
              rintro e w7 ⟨rfl, b7⟩
              have hc7 := (b7.cell (p := ⟨R, k, none⟩) (cell_lt hcR)).trans hcR
              have hf7 := (b7.frozen (p := ⟨R, k, none⟩) (cell_lt hcR)).trans hfR
              have hlR : R < w7.heap.size := cell_lt hc7
              have hrw7 := sl_below hrw b7
              have s0 := World.ownsRow.stored hrw7 k (.int .i64 mc)
              have HF := Lib.hid (show (∀ q, q < k + 1 → twS a (lat L q) = true) ∧ (w7.setCell ⟨R, k, none⟩ (.int .i64 mc)).ownsRow R 3 1 (.slice (some ⟨R, 0, none⟩) n n) n (ints (part (mtRow L a) (k + 1))) ∧ Below R wO (w7.setCell ⟨R, k, none⟩ (.int .i64 mc)) by
                refine ⟨HT1.out, ?_, ?_⟩
                · have e1 := s0.1
                  rw [show (ints (part (mtRow L a) k)).set k (.int .i64 mc) = ints (part (mtRow L a) (k + 1)) by rw [← HP1.out]; unfold ints; simp only [List.map_set]] at e1
                  exact e1
                · have e2 : Below R wO w7 := by
                    rw [HR.out] at hbk ⊢
                    exact bel2 hbk b7
                  exact e2.setCell (Nat.le_refl _) _)
              clear s0 hrw7 hrw hcR hfR hbk b7 hsk hd1 hgl2
              go_wp2
              go_roundw
              case rel => exact ⟨k + 1, by omega, by go_num, HF⟩
              case measure => simp [intOf]; omega
          · obtain rfl : k = n := by omega
            have e9 : part (mtRow L a) k = mtRow L a := part_end _ _ (by rw [HVL.out]; omega)
            rw [e9] at hrw
            obtain ⟨hQ, hl, hba, hrow, hv, hb, hs⟩ := hst.out
            have hbk' : Below wO.heap.size wO wr := by rw [← HR.out]; exact hbk
            have hIS : IS wr wO.heap.size (.slice (some ⟨R, 0, none⟩) k k) (mtRow L a) := by
              unfold IS
              rw [HVL.out, ← HR.out]; exact hrw
            have hrow2 := sl_below hrow hbk'
            have s0 := World.ownsRow.stored hrow2 c (.slice (some ⟨R, 0, none⟩) k k)
            have hcN : wr.cell? ⟨w.heap.size, c, none⟩ = some (.slice none 0 0) := by
              rw [World.ownsRow.cellAt hrow2 c (by omega), List.getElem?_append_right (by rw [vls_len]; omega), vls_len, hQ, Nat.sub_self, List.getElem?_replicate]
              rw [if_pos (by omega)]
            have hfN := World.ownsRow.frozenAt hrow2 c
            have hbw := bel2 hb hbk'
            have hb3 : Below w.heap.size w (wr.setCell ⟨w.heap.size, c, none⟩ (.slice (some ⟨R, 0, none⟩) k k)) := hbw.setCell (Nat.le_refl _) _
            have hlN : w.heap.size < wr.heap.size := cell_lt hcN
            have HF := Lib.hid (show (Q ++ [(Value.slice (some ⟨R, 0, none⟩) k k, mtRow L a)]).length = c + 1 ∧ lls (Q ++ [(Value.slice (some ⟨R, 0, none⟩) k k, mtRow L a)]) = (L.map (mtRow L)).take (c + 1) ∧ (∀ q, q < c + 1 → baB (lat L q) = true) ∧ (wr.setCell ⟨w.heap.size, c, none⟩ (.slice (some ⟨R, 0, none⟩) k k)).ownsRow w.heap.size 71 1 (.slice (some ⟨w.heap.size, 0, none⟩) k k) k (vls (Q ++ [(Value.slice (some ⟨R, 0, none⟩) k k, mtRow L a)]) ++ List.replicate (k - (Q ++ [(Value.slice (some ⟨R, 0, none⟩) k k, mtRow L a)]).length) (.slice none 0 0)) ∧ LV (wr.setCell ⟨w.heap.size, c, none⟩ (.slice (some ⟨R, 0, none⟩) k k)) (w.heap.size + 1) (Q ++ [(Value.slice (some ⟨R, 0, none⟩) k k, mtRow L a)]) ∧ Below w.heap.size w (wr.setCell ⟨w.heap.size, c, none⟩ (.slice (some ⟨R, 0, none⟩) k k)) ∧ w.heap.size + 1 ≤ (wr.setCell ⟨w.heap.size, c, none⟩ (.slice (some ⟨R, 0, none⟩) k k)).heap.size by
              refine ⟨by simp [hQ], by rw [mtTab_next hcl, ← hl, ← HA.out]; simp [lls], ?_, ?_, ?_, hb3, by simp; omega⟩
              · intro q hq
                rcases Nat.lt_or_ge q c with h | h
                · exact hba q h
                · obtain rfl : q = c := by omega
                  rw [← HA.out]
                  exact (twS_parts (htw q hlt)).1
              · have e1 := s0.1
                rw [← hQ, made_set (zs := mtRow L a) (by omega)] at e1
                rw [← hQ]
                exact e1
              · have hv2 : LVF 3 1 wO (w.heap.size + 1) Q := ⟨fun p hp => by rw [Nat.div_one]; exact hv.1 p hp, hv.2⟩
                have hv3 : LVF 3 1 (wr.setCell ⟨w.heap.size, c, none⟩ (.slice (some ⟨R, 0, none⟩) k k)) (w.heap.size + 1) (Q ++ [(Value.slice (some ⟨R, 0, none⟩) k k, mtRow L a)]) := by
                  refine LVF.other (row := some w.heap.size) ?_ s0.2 (fun g hg => by cases hg; omega)
                  refine LVF.snoc (C := wO.heap.size) (hv2.below hbk') ?_ hs fun p hp g hg => ((hv.1 p hp).lt g hg).2
                  rw [Nat.div_one]; exact hIS
                exact ⟨fun p hp => by have := hv3.1 p hp; rw [Nat.div_one] at this; exact this, hv3.2⟩)
            clear s0 hrow2 hb3 hrow hv hb hs hl hQ hst hbw hIS hbk hbk' hrw e9 hba htw hsk
            go_wp2
            go_roundw
            case rel => exact ⟨c + 1, _, by omega, by go_num, HF⟩
            case measure => simp [intOf]; omega
      · obtain rfl : c = n := by omega
        have HOK := Lib.hid (mtOk_yes (L := L) (by rw [HLn.out, ← HN.out]; exact h6) (fun q hq => hba q (by rw [HN.out, ← HLn.out]; exact hq)))
        rw [List.take_of_length_le (by rw [List.length_map, HLn.out, ← HN.out]; exact Nat.le_refl _), ← mtTab_yes HOK.out] at hl
        rw [made_all hQ] at hrow
        have HF := Lib.hid (show LS wr w.heap.size (.slice (some ⟨w.heap.size, 0, none⟩) c c) Q ∧ lls Q = mtTab L ∧ Below w.heap.size w wr from ⟨⟨by rw [hQ]; exact hrow, hv.base (by omega)⟩, hl, hb⟩)
        clear hrow hv hb hs hl hQ hst hba
        go_wp2
        go_ret2
        rw [HOK.out]
        exact ⟨_, Q, rfl, HF.out.1, HF.out.2.1, HF.out.2.2⟩
  · have h61 : (6 : Int) < (n : Int) := by omega
    have HX := Lib.hid (mtOk_long (L := L) (by rw [HLn.out, ← HN.out]; exact h6))
    go_enter Try.func45, Try.ntmps45
    go_wp2
    go_ret2
    exact givesLB_nil HX.out (mtTab_no HX.out) (Below.refl _ _)
end Go.Proofs.Ytijmnbgmpakllaa

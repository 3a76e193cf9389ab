/-
  Slices of slices of Rays in the laws: measured, copied, compared, marked.
  Conditions: the slices are not too long, and read as the cells that are named.
-/
import Derived.Test.YtijmnbgmpakllaaSsF
import Derived.Test.YtijmnbgmpakllaaSRay
namespace Go.Proofs.Ytijmnbgmpakllaa
set_option linter.unusedSimpArgs false
set_option linter.unusedVariables false
open Go.ChangeShapes Go.WideShapes Go.ChangeAt Go.RowKit
open Go.Sort (grow)

set_option maxHeartbeats 1000000 in
set_option maxRecDepth 100000 in
theorem szRaySS_any (w : World) (A : Option Addr) (cap n : Nat) (Z : List (List Int)) (m : Int) (h : IsRowS 3 w A n Z) (hm : 0 ≤ m ∧ m ≤ 1048576) : Calls Try.prog 42 #[.slice A n cap, .int .i64 m] w fun e w' => e = .returned (.int .i64 (if m - (n + cntS 3 Z : Nat) < 0 then -1 else m - (n + cntS 3 Z : Nat))) ∧ w = w' := by
  have H := Lib.hid h
  have hmx := h.2.1
  unfold maxLen at hmx
  clear h
  have q : IntKind.i64.wrap (m - n) = m - n := IntWalk.i64_in _ (by omega)
  by_cases h0 : m - (n : Int) < 0
  · rw [if_pos (show m - ((n + cntS 3 Z : Nat) : Int) < 0 by omega)]
    go_enter Try.func42, Try.ntmps42
    go_wp2
    go_ret
    exact ⟨rfl, rfl⟩
  · go_enter Try.func42, Try.ntmps42
    go_wp2
    go_loop [1, 5] (fun x i => ∃ j : Nat, j ≤ n ∧ i = .int .i64 j ∧ x = .int .i64 (m - (n : Int) - (cntS 3 (Z.take j) : Nat)) ∧ 0 ≤ m - (n : Int) - (cntS 3 (Z.take j) : Nat)) (fun _ i => n - (intOf i).toNat)
    case atStart => exact ⟨0, by omega, rfl, by simp [cntS], by simp [cntS]; omega⟩
    case round =>
      obtain ⟨j, hj, rfl, rfl, hx⟩ := hrel
      by_cases hlt : j < n
      · obtain ⟨ad, A', n', c', rfl, hbl, hcell, hrow⟩ := H.out.2.2 j hlt
        have hjz : j < Z.length := by rw [H.out.1]; exact hlt
        have hn' : n' ≤ 9223372036854775807 := by have := hrow.2.1; unfold maxLen at this; exact this
        have hnx := cntS_next (k := 3) hjz
        rw [rowS_div (by omega) hrow] at hnx
        have hle := cntS_le (k := 3) Z (j + 1)
        obtain ⟨x, hxe⟩ : ∃ x, x = m - (n : Int) - (cntS 3 (Z.take j) : Nat) := ⟨_, rfl⟩
        rw [← hxe] at hx ⊢
        have HS := Lib.hid (szRayS_any w A' c' n' x hn' (by omega))
        have HX := Lib.hid (And.intro hxe (And.intro hnx hle))
        clear hrow hn' hnx hle hxe
        by_cases h1 : x - (n' : Int) < 0
        · rw [if_pos h1] at HS
          have HE := Lib.hid (show m - ((n + cntS 3 Z : Nat) : Int) < 0 by have := HX.out; omega)
          clear h1
          go_wp2_with fail
          refine HS.out.mono ?_
          rintro e w' ⟨rfl, rfl⟩
          go_wp2
          go_ret
          exact ⟨ret_i64 (by first | rfl | rw [if_pos HE.out]), rfl⟩
        · rw [if_neg h1] at HS
          have HE := Lib.hid (show x - (n' : Int) = m - (n : Int) - (cntS 3 (Z.take (j + 1)) : Nat) by have := HX.out; omega)
          rw [HE.out] at HS h1
          have HN := Lib.hid (show 0 ≤ m - (n : Int) - (cntS 3 (Z.take (j + 1)) : Nat) by omega)
          go_wp2_with fail
          refine HS.out.mono ?_
          rintro e w' ⟨rfl, rfl⟩
          go_wp2
          go_round
          case rel => exact ⟨j + 1, by omega, by go_num, rfl, HN.out⟩
          case measure => simp [intOf]; omega
      · obtain rfl : j = n := by omega
        have hall : Z.take j = Z := List.take_of_length_le (by rw [H.out.1]; exact Nat.le_refl _)
        rw [hall] at hx ⊢
        have HN := Lib.hid (show ¬ m - ((j + cntS 3 Z : Nat) : Int) < 0 by omega)
        have HQ := Lib.hid (show m - (j : Int) - (cntS 3 Z : Nat) = m - ((j + cntS 3 Z : Nat) : Int) by omega)
        go_wp2
        go_ret
        exact ⟨ret_i64 (by first | omega | rw [if_neg HN.out, HQ.out]), rfl⟩
theorem infoRaySl : (Try.prog.info? 38).map (fun i => (i.zero, i.size, i.bytes)) = some (some (.slice none 0 0), 1, 24) := by kernel_rfl
def GivesRaySS (Z : List (List Int)) (w : World) (e : Ending) (w' : World) : Prop := ∃ r P, e = .returned r ∧ LSF 38 26 3 w' w.heap.size r P ∧ lls P = Z ∧ Below w.heap.size w w'
set_option maxHeartbeats 1000000 in
set_option maxRecDepth 100000 in
theorem toRaySS_any (w : World) (A : Option Addr) (cap n : Nat) (Z : List (List Int)) (h : IsRowS 3 w A n Z) (hm : n + cntS 3 Z ≤ 1048576) : Calls Try.prog 44 #[.slice A n cap] w fun e w' => GivesRaySS Z w e w' := by
  obtain ⟨i0, hi, hz0, hz1, hz2⟩ := info_parts infoRaySl
  have H := Lib.hid h
  have HM := Lib.hid hm
  have hn1 : n ≤ 1048576 := by omega
  clear h hm
  go_enter Try.func44, Try.ntmps44
  go_wp2_with (refine wpList_make_full _ rfl _ _ 53 rfl w.heap.size 38 i0 (.slice none 0 0) 1 Try.underlying53 hi hz0 hz1 .i64 .i64 _ _ n rfl rfl rfl rfl (by rw [hz2]; omega) (by simp only [maxLen]; omega) (Nat.le_refl _) ?_; intro w1 hown hgrow)
  rw [madeS] at hown
  have hb0 : Below w.heap.size w w1 := (Below.refl _ _).grown hgrow (Nat.le_refl _) (fun _ h => by cases h)
  have hsz : w.heap.size + 1 ≤ w1.heap.size := by
    rcases hown.2 with ⟨h0, -⟩ | ⟨g, c, cur, h1, h2, h3, -⟩
    · cases h0
    · obtain ⟨rfl, -⟩ : w.heap.size = g ∧ n = c := by simpa using h1
      have := (Array.getElem?_eq_some_iff.1 h3).1
      omega
  have hrow0 := Lib.hid (And.intro hown (And.intro hb0 hsz))
  clear hown hgrow hb0 hsz
  go_loopw [4] (fun i wr => ∃ (j : Nat) (P : VL), j ≤ n ∧ i = .int .i64 j ∧ Hid (P.length = j ∧ lls P = Z.take j ∧ wr.ownsRow w.heap.size 38 1 (.slice (some ⟨w.heap.size, 0, none⟩) n n) n (vls P ++ List.replicate (n - P.length) (.slice none 0 0)) ∧ LVF 26 3 wr (w.heap.size + 1) P ∧ Below w.heap.size w wr ∧ w.heap.size + 1 ≤ wr.heap.size)) (fun i _ => n - (intOf i).toNat)
  case atStart => exact ⟨0, [], by omega, rfl, Lib.hid ⟨rfl, rfl, hrow0.out.1, LVF.nil _ _ _ _, hrow0.out.2.1, hrow0.out.2.2⟩⟩
  case round =>
    obtain ⟨j, P, hj, rfl, hst⟩ := hrel
    clear hrow0
    obtain ⟨hP, hl, hrow, hv, hb, hs⟩ := hst.out
    by_cases hlt : j < n
    · obtain ⟨ad, A', n', c', rfl, hbl, hcell0, hrow'⟩ := H.out.2.2 j hlt
      have hjz : j < Z.length := by rw [H.out.1]; exact hlt
      have hcell : wr.cell? (ad.add j) = some (.slice A' n' c') := by
        rw [hb.cell (p := ad.add j) (by unfold Addr.add; split <;> simpa using hbl), hcell0]
      have hr := hrow'.below hb
      have hnx := cntS_next (k := 3) hjz
      rw [rowS_div (by omega) hr] at hnx
      have hle := cntS_le (k := 3) Z (j + 1)
      obtain ⟨zs, hzs⟩ : ∃ zs, zs = Z.getD j [] := ⟨_, rfl⟩
      rw [← hzs] at hr
      have HT := Lib.hid (toRayS_any wr A' c' n' zs hr.1 hr.2.2 (by have := HM.out; omega))
      have HZ := Lib.hid (show Z.take (j + 1) = Z.take j ++ [zs] by rw [List.take_add_one, List.getElem?_eq_getElem hjz, hzs, List.getD_eq_getElem?_getD, List.getElem?_eq_getElem hjz]; rfl)
      have HD := Lib.hid (show zs.length / 3 = n' from rowS_div (by omega) hr)
      have hc1 : wr.cell? ⟨w.heap.size, j, none⟩ = some (.slice none 0 0) := by
        rw [World.ownsRow.cellAt hrow j (by omega), List.getElem?_append_right (by rw [vls_len]; omega), vls_len, hP, Nat.sub_self, List.getElem?_replicate]
        rw [if_pos (by omega)]
      have hf1 := World.ownsRow.frozenAt hrow j
      have hlw : w.heap.size < wr.heap.size := by omega
      clear hcell0 hbl hrow' hr hnx hle hzs
      go_wp2_with fail
      refine HT.out.mono ?_
      rintro e w2 ⟨r, rfl, hr2, b2⟩
      obtain ⟨Ar, capr, hrv, -, -⟩ := hr2.parts
      subst hrv
      have hc2 := (b2.cell (p := ⟨w.heap.size, j, none⟩) (cell_lt hc1)).trans hc1
      have hf2 := (b2.frozen (p := ⟨w.heap.size, j, none⟩) (cell_lt hc1)).trans hf1
      have hrow2 := sl_below hrow b2
      obtain ⟨r, hrd⟩ : ∃ r, r = Value.slice Ar n' capr := ⟨_, rfl⟩
      rw [← hrd] at hr2
      have s0 := World.ownsRow.stored hrow2 j r
      have hb3 : Below w.heap.size w (w2.setCell ⟨w.heap.size, j, none⟩ r) := (bel2 hb b2).setCell (Nat.le_refl _) _
      have hlw2 : w.heap.size < w2.heap.size := Nat.lt_of_lt_of_le hlw b2.size
      have HF := Lib.hid (show (P ++ [(r, zs)]).length = j + 1 ∧ lls (P ++ [(r, zs)]) = Z.take (j + 1) ∧ (w2.setCell ⟨w.heap.size, j, none⟩ r).ownsRow w.heap.size 38 1 (.slice (some ⟨w.heap.size, 0, none⟩) n n) n (vls (P ++ [(r, zs)]) ++ List.replicate (n - (P ++ [(r, zs)]).length) (.slice none 0 0)) ∧ LVF 26 3 (w2.setCell ⟨w.heap.size, j, none⟩ r) (w.heap.size + 1) (P ++ [(r, zs)]) ∧ Below w.heap.size w (w2.setCell ⟨w.heap.size, j, none⟩ r) ∧ w.heap.size + 1 ≤ (w2.setCell ⟨w.heap.size, j, none⟩ r).heap.size by
        refine ⟨by simp [hP], by rw [HZ.out, ← hl]; simp [lls], ?_, ?_, hb3, by simp; omega⟩
        · have e1 := s0.1
          rw [← hP, made_set (zs := zs) (by omega)] at e1
          rw [← hP]
          exact e1
        · refine LVF.other (row := some w.heap.size) ?_ s0.2 (fun g hg => by cases hg; omega)
          refine LVF.snoc (C := wr.heap.size) (hv.below b2) ?_ hs fun p hp g hg => ((hv.1 p hp).lt g hg).2
          rw [HD.out]; exact hr2)
      rw [hrd] at HF
      clear s0 hrow2 hr2 hb3 hrow hv hb hs hl hP b2 hst hc1 hf1 hlw hrd
      go_wp2
      go_roundw
      case rel => exact ⟨j + 1, _, by omega, by go_num, HF⟩
      case measure => simp [intOf]; omega
    · obtain rfl : j = n := by omega
      rw [made_all hP] at hrow
      have hzl : Z.take j = Z := List.take_of_length_le (by rw [H.out.1]; exact Nat.le_refl _)
      have HF := Lib.hid (show LSF 38 26 3 wr w.heap.size (.slice (some ⟨w.heap.size, 0, none⟩) j j) P ∧ lls P = Z ∧ Below w.heap.size w wr from ⟨⟨by rw [hP]; exact hrow, hv.base (by omega)⟩, by rw [hl, hzl], hb⟩)
      clear hrow hv hb hs hl hP hst hzl
      go_wp2
      go_ret
      exact ⟨_, P, rfl, HF.out.1, HF.out.2.1, HF.out.2.2⟩
set_option maxHeartbeats 1000000 in
set_option maxRecDepth 100000 in
theorem eqRayS_gr (w : World) (B B' : Nat) (v v' : Value) (n : Nat) (zs : List Int) (h : FS 26 3 w B v n zs) (h' : FS 26 3 w B' v' n zs) : Calls Try.prog 26 #[v, v'] w fun e w' => e = .returned (.bool true) ∧ Gr w w' := by
  obtain ⟨A, cap, rfl, hm, hp⟩ := FS.parts h
  obtain ⟨A', cap', rfl, -, hp'⟩ := FS.parts h'
  have HP := Lib.hid hp
  have HP' := Lib.hid hp'
  have HE := Lib.hid (fun a b c W => eqRay_same a b c W)
  unfold maxLen at hm
  clear hp hp' h h'
  go_enter Try.func26, Try.ntmps26
  go_wp2
  go_loopw [5] (fun i wr => ∃ j : Nat, j ≤ n ∧ i = .int .i64 j ∧ Gr w wr) (fun i _ => n - (intOf i).toNat)
  case atStart => exact ⟨0, by omega, rfl, gr0 _⟩
  case round =>
    obtain ⟨j, hj, rfl, hb⟩ := hrel
    by_cases hlt : j < n
    · obtain ⟨g, rfl, a0⟩ := HP.out (j * 3) (by omega)
      obtain ⟨gg, hgg, a1⟩ := HP.out (j * 3 + 1) (by omega)
      cases hgg
      obtain ⟨gg, hgg, a2⟩ := HP.out (j * 3 + 2) (by omega)
      cases hgg
      obtain ⟨g', rfl, b0⟩ := HP'.out (j * 3) (by omega)
      obtain ⟨gg, hgg, b1⟩ := HP'.out (j * 3 + 1) (by omega)
      cases hgg
      obtain ⟨gg, hgg, b2⟩ := HP'.out (j * 3 + 2) (by omega)
      cases hgg
      have c0 := cell_grown (cell_lt ((hb.below.cell (cell_lt a0)).trans a0)) ((hb.below.cell (cell_lt a0)).trans a0)
      have c1 := cell_grown (cell_lt ((hb.below.cell (cell_lt a1)).trans a1)) ((hb.below.cell (cell_lt a1)).trans a1)
      have c2 := cell_grown (cell_lt ((hb.below.cell (cell_lt a2)).trans a2)) ((hb.below.cell (cell_lt a2)).trans a2)
      have d0 := cell_grown (cell_lt ((hb.below.cell (cell_lt b0)).trans b0)) ((hb.below.cell (cell_lt b0)).trans b0)
      have d1 := cell_grown (cell_lt ((hb.below.cell (cell_lt b1)).trans b1)) ((hb.below.cell (cell_lt b1)).trans b1)
      have d2 := cell_grown (cell_lt ((hb.below.cell (cell_lt b2)).trans b2)) ((hb.below.cell (cell_lt b2)).trans b2)
      clear a0 b0 a1 b1 a2 b2
      go_wp2_with fail
      refine wp_region_quiet_grown (by kernel_rfl) (by kernel_rfl) ?_
      repeat (go_big_quiet_step ((first | (go_at_call 64; refine Calls.grown_of (HE.out _ _ _ _)))))
      refine wpQuiet_nil ?_
      intro _ hw'
      obtain ⟨⟨nq, osq⟩, hw''⟩ := hw'
      subst hw''
      go_wp2
      go_roundw
      case rel => exact ⟨j + 1, by omega, by go_num, hb.trans ⟨nq, osq, rfl⟩⟩
      case measure => simp [intOf]; omega
    · go_wp2
      go_ret
      exact ⟨rfl, hb⟩
set_option maxHeartbeats 1000000 in
set_option maxRecDepth 100000 in
theorem eqRaySS_same (w : World) (B B' : Nat) (v v' : Value) (P Q : VL) (h : LSF 38 26 3 w B v P) (h' : LSF 38 26 3 w B' v' Q) (he : lls P = lls Q) : Calls Try.prog 46 #[v, v'] w fun e w' => e = .returned (.bool true) ∧ Below w.heap.size w w' := by
  have H0 := Lib.hid h
  have H0' := Lib.hid h'
  obtain ⟨A, cap, rfl, hm, hp⟩ := LSF.parts h
  obtain ⟨A', cap', rfl, hm', hp'⟩ := LSF.parts h'
  have HP := Lib.hid hp
  have HP' := Lib.hid hp'
  have hlen : Q.length = P.length := by rw [← lls_len, ← lls_len, he]
  have HQL := Lib.hid hlen
  rw [hlen] at hm' ⊢
  obtain ⟨n, hn⟩ : ∃ n, n = P.length := ⟨_, rfl⟩
  have HN := Lib.hid hn
  have HEQ := Lib.hid he
  rw [← hn] at hm hm' ⊢
  unfold maxLen at hm hm'
  clear hp h hp' h' hn hlen he
  go_enter Try.func46, Try.ntmps46
  go_wp2
  go_loopw [5] (fun i wr => ∃ j : Nat, j ≤ n ∧ i = .int .i64 j ∧ Hid (Gr w wr)) (fun i _ => n - (intOf i).toNat)
  case atStart => exact ⟨0, by omega, rfl, Lib.hid (gr0 _)⟩
  case round =>
    obtain ⟨j, hj, rfl, hg⟩ := hrel
    by_cases hlt : j < n
    · have hkp : j < P.length := by rw [← HN.out]; exact hlt
      have hkq : j < Q.length := by rw [HQL.out]; exact hkp
      obtain ⟨g, rfl, hc⟩ := HP.out j hkp
      obtain ⟨g', rfl, hc'⟩ := HP'.out j hkq
      have hc1 := cell_grown (cell_lt (box_o hc hg.out.below)) (box_o hc hg.out.below)
      have hc2 := cell_grown (cell_lt (box_o hc' hg.out.below)) (box_o hc' hg.out.below)
      have hpl : pll Q j = pll P j := by
        have e1 := lls_at hkq
        rw [← HEQ.out, lls_at hkp] at e1
        exact (Option.some.inj e1).symm
      have HQ := Lib.hid (fun W (hW : Gr w W) => show Calls Try.prog 26 #[pvl P j, pvl Q j] W fun e w' => e = .returned (.bool true) ∧ Gr W w' from
        eqRayS_gr W B B' _ _ _ _ ((H0.out.2.at hkp).below hW.below) (by have := (H0'.out.2.at hkq).below hW.below; rwa [hpl] at this))
      have HW := Lib.hid (fun (q : Nat) (os : Array Obj) => hg.out.trans (show Gr wr (grow (wr.drewN q) os) from ⟨q, os, rfl⟩))
      have hI1 : (j : Int) < (n : Int) := by omega
      have hI2 : (0 : Int) ≤ (j : Int) := by omega
      clear hc hc' hpl
      go_wp2_with fail
      refine wp_region_quiet_grown (by kernel_rfl) (by kernel_rfl) ?_
      repeat (go_big_quiet_step ((first | (go_at_call 26; refine Calls.grown_of (HQ.out _ (HW.out _ _))))))
      refine wpQuiet_nil ?_
      intro _ hw'
      obtain ⟨⟨nq, osq⟩, hw''⟩ := hw'
      subst hw''
      have HG := Lib.hid (hg.out.trans ⟨nq, osq, rfl⟩)
      go_wp2
      go_roundw
      case rel => exact ⟨j + 1, by omega, by go_num, HG⟩
      case measure => simp [intOf]; omega
    · go_wp2
      go_ret
      exact ⟨rfl, hg.out.below⟩
def MarksRaySS (P : VL) (k : Int) (w : World) (e : Ending) (w' : World) : Prop := e = .returned (.int .i64 (k + (totL P : Nat))) ∧ GrL w w' P
set_option maxHeartbeats 1000000 in
set_option maxRecDepth 100000 in
theorem markRaySS_any (w : World) (B : Nat) (v : Value) (P : VL) (k0 : Int) (h : LSF 38 26 3 w B v P) (hk0 : 0 ≤ k0 ∧ k0 ≤ 1000000) (hf : totL P ≤ 3 * 1048576) : Calls Try.prog 47 #[v, .int .i64 k0] w fun e w' => MarksRaySS P k0 w e w' := by
  have H0 := Lib.hid h
  have HF := Lib.hid hf
  obtain ⟨A, cap, rfl, hm, hp⟩ := LSF.parts h
  have HP := Lib.hid hp
  obtain ⟨n, hn⟩ : ∃ n, n = P.length := ⟨_, rfl⟩
  have HN := Lib.hid hn
  rw [← hn] at hm ⊢
  unfold maxLen at hm
  clear hp h hn hf
  go_enter Try.func47, Try.ntmps47
  go_wp2
  go_loopw [1, 5] (fun q i wr => ∃ j : Nat, j ≤ n ∧ i = .int .i64 j ∧ q = .int .i64 (k0 + (totL (P.take j) : Nat)) ∧ Hid (∀ p ∈ P.drop j, FS 26 3 wr B p.1 (p.2.length / 3) p.2) ∧ Hid (GrL w wr P)) (fun _ i _ => n - (intOf i).toNat)
  case atStart => exact ⟨0, by omega, rfl, by simp [totL], Lib.hid (by simpa using H0.out.2.1), Lib.hid (GrL.refl _ _)⟩
  case round =>
    obtain ⟨j, hj, rfl, rfl, hV, hG⟩ := hrel
    by_cases hlt : j < n
    · have hkp : j < P.length := by rw [← HN.out]; exact hlt
      obtain ⟨g, rfl, hc⟩ := HP.out j hkp
      have hng : ∀ p ∈ P, p.1.ownBlock ≠ some g := fun p hp e => (H0.out.2.1 p hp).other_row (by decide) H0.out.1 g e rfl
      have hc1 : wr.cell? ⟨g, j, none⟩ = some (pvl P j) := by
        have hb := hG.out.block g (cell_lt hc) hng
        simp only [World.cell?] at hc ⊢
        rw [hb]; exact hc
      have hI := hV.out (pvl P j, pll P j) (by rw [pl_split hkp]; exact List.mem_cons_self ..)
      have hlz : (pll P j).length / 3 * 3 = (pll P j).length := hI.len.symm
      have ht := totL_take_le P (j + 1)
      have hta := totL_at hkp
      have hbd := HF.out
      have HM := Lib.hid (markRayS_any wr B (pvl P j) ((pll P j).length / 3) (pll P j) (k0 + (totL (P.take j) : Nat)) hI (by omega) (by omega))
      have HT := Lib.hid (show k0 + ((totL (P.take j) : Nat) : Int) + (((pll P j).length / 3 * 3 : Nat) : Int) = k0 + ((totL (P.take (j + 1)) : Nat) : Int) by rw [hlz, hta]; omega)
      have HV0 := hV
      clear hc hI hng hV ht hta hbd hlz
      go_wp2_with fail
      refine HM.out.mono ?_
      rintro e w1 ⟨rfl, hy, hg1, hs1⟩
      rw [HT.out]
      have HV2 := Lib.hid (show ∀ p ∈ P.drop (j + 1), FS 26 3 w1 B p.1 (p.2.length / 3) p.2 from fun p hp => by
        refine (HV0.out p (by rw [pl_split hkp]; exact List.mem_cons_of_mem _ hp)).other hg1 fun g hg e => ?_
        have hpw := H0.out.2.2
        rw [← List.take_append_drop j P, pl_split hkp] at hpw
        exact (List.pairwise_cons.1 (List.pairwise_append.1 hpw).2.1).1 p hp g e.symm hg)
      have HG2 := Lib.hid (show GrL w w1 P from ⟨hg1.os.trans hG.out.os, hg1.tape.trans hG.out.tape, hg1.output.trans hG.out.output, hs1.trans hG.out.size, fun i hi hp => (hg1.block i (by rw [hG.out.size]; exact hi) (fun e => hp _ (p_mem hkp) e.symm)).trans (hG.out.block i hi hp)⟩)
      clear hy hg1 hs1 hc1 HM
      go_wp2
      go_roundw
      case rel => exact ⟨j + 1, by omega, by go_num, rfl, HV2, HG2⟩
      case measure => simp [intOf]; omega
    · obtain rfl : j = n := by omega
      have e9 : P.take j = P := by rw [HN.out, List.take_length]
      rw [e9]
      go_wp2
      go_ret
      exact ⟨rfl, hG.out⟩
end Go.Proofs.Ytijmnbgmpakllaa

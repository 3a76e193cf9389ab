/-
  Sums, products, moved and exchanged plane polynomials in the model: what the calls return.
  Condition: the slices read as the lists that are named.
-/
import Derived.Test.YtibdbgeknphljaaPlPutN
namespace Go.Proofs.Ytibdbgeknphljaa
set_option linter.unusedSimpArgs false
set_option linter.unusedVariables false
open Go.ChangeShapes Go.WideShapes Go.ChangeAt Go.RowKit
open Go.Sort (grow)

theorem put_pos (l : List Tm) (t : Tm) : 0 < (putL l t).length := by
  cases l with
  | nil => simp [putL]
  | cons a r =>
    unfold putL
    split
    · simp
    · split <;> simp
theorem norm_take {b : List Tm} (a : List Tm) (k : Nat) (hk : k < b.length) : norm (a ++ b.take (k + 1)) = putL (norm (a ++ b.take k)) (td b k) := by
  rw [take_td b k hk, ← List.append_assoc, norm_snoc]
theorem plPut_all (w : World) (B : Nat) (v : Value) (l : List Tm) (t : Tm) (h : TmS w B v l) (hz : l.length ≤ 1000) (h0 : l.length = 0 → v = .slice none 0 0) : Calls Try.prog 60 #[v, tmV t] w fun e w' => GivesTm (putL l t) w e w' := by
  rcases Nat.eq_zero_or_pos l.length with hl | hl
  · have hv := h0 hl
    have hl' : l = [] := List.eq_nil_of_length_eq_zero hl
    subst hv
    subst hl'
    exact plPut_nil w t
  · exact plPut_any w B v l t h hz hl
def ifL (l : List Tm) : List Tm := if plB l = true then l else []
theorem ifL_norm (ts : List Tm) : ifL (norm ts) = npR ts := rfl
def GivesIf (l : List Tm) (B : Nat) (w : World) (e : Ending) (w' : World) : Prop := ∃ r, e = .returned (.tuple #[r, .bool (plB l)]) ∧ TmS w' B r (ifL l) ∧ Below w.heap.size w w'
theorem givesIf_no {l : List Tm} {B : Nat} {w w' : World} (h : plB l = false) (hb : Below w.heap.size w w') : GivesIf l B w (.returned (.tuple #[.slice none 0 0, .bool false])) w' :=
  ⟨_, by rw [h], by unfold ifL; rw [h]; exact FS.nil_ _ _ _ _, hb⟩
theorem givesIf_yes {l : List Tm} {B : Nat} {v : Value} {w w' : World} (h : plB l = true) (hv : TmS w' B v l) (hb : Below w.heap.size w w') : GivesIf l B w (.returned (.tuple #[v, .bool true])) w' :=
  ⟨_, by rw [h], by unfold ifL; rw [h]; exact hv, hb⟩
theorem plIf_any (w : World) (B : Nat) (v : Value) (l : List Tm) (h : TmS w B v l) : Calls Try.prog 61 #[v] w fun e w' => GivesIf l B w e w' := by
  cases hl : plB l
  · have HL := Lib.hid hl
    clear hl
    go_enter Try.func61, Try.ntmps61
    go_wp2_with fail
    refine (plGood_any _ B _ l h).mono ?_
    rintro e w1 ⟨rfl, b1⟩
    rw [HL.out]
    go_wp2
    go_ret2
    exact givesIf_no HL.out b1
  · have HL := Lib.hid hl
    clear hl
    go_enter Try.func61, Try.ntmps61
    go_wp2_with fail
    refine (plGood_any _ B _ l h).mono ?_
    rintro e w1 ⟨rfl, b1⟩
    rw [HL.out]
    go_wp2
    go_ret2
    exact givesIf_yes HL.out (FS.below h b1) b1
set_option maxHeartbeats 1000000 in
set_option maxRecDepth 100000 in
theorem specPlaneSum_any (w : World) (B B' : Nat) (va vb : Value) (a b : List Tm) (h : TmS w B va a) (h' : TmS w B' vb b) : Calls Try.prog 29 #[va, vb] w fun e w' => GivesTmB (psB a b) (psR a b) w e w' := by
  cases ha : plB a
  · obtain ⟨n1, n2⟩ := ps_no1 (b := b) ha
    have HA := Lib.hid ha
    have HN1 := Lib.hid n1
    have HN2 := Lib.hid n2
    clear ha n1 n2
    go_enter Try.func29, Try.ntmps29
    go_wp2_with fail
    refine (plGood_any _ B _ a h).mono ?_
    rintro e w1 ⟨rfl, b1⟩
    rw [HA.out]
    go_wp2
    go_ret2
    exact givesTmB_nil HN1.out HN2.out b1
  · cases hb : plB b
    · obtain ⟨n1, n2⟩ := ps_no2 (a := a) hb
      have HA := Lib.hid ha
      have HB := Lib.hid hb
      have HN1 := Lib.hid n1
      have HN2 := Lib.hid n2
      clear ha hb n1 n2
      go_enter Try.func29, Try.ntmps29
      go_wp2_with fail
      refine (plGood_any _ B _ a h).mono ?_
      rintro e w1 ⟨rfl, b1⟩
      have h1' := FS.below h' b1
      rw [HA.out]
      go_wp2_with fail
      refine (plGood_any _ B' _ b h1').mono ?_
      rintro e w2 ⟨rfl, b2⟩
      rw [HB.out]
      go_wp2
      go_ret2
      exact givesTmB_nil HN1.out HN2.out (bel2 b1 b2)
    · obtain ⟨n1, n2⟩ := ps_yes ha hb
      have HA := Lib.hid ha
      have HB := Lib.hid hb
      have HN1 := Lib.hid n1
      have HN2 := Lib.hid n2
      have HNA := Lib.hid (plB_norm ha)
      have hla := plB_le ha
      have hlb := (plB_le hb).2
      have H := Lib.hid h
      have H' := Lib.hid h'
      obtain ⟨g, cap, rfl, -, hg, hn⟩ := TmS.some h hla.1
      obtain ⟨A', cap', rfl, -, hp'⟩ := TmS.parts h'
      have HR := Lib.hid hn
      have HP' := Lib.hid hp'
      obtain ⟨m, hmb⟩ : ∃ m, m = b.length := ⟨_, rfl⟩
      have HMB := Lib.hid hmb
      obtain ⟨i0, hi, hz0, hz1, hz2⟩ := info_parts infoTerm
      clear ha hb n1 n2 h h' hp' hn
      go_enter Try.func29, Try.ntmps29
      go_wp2_with fail
      refine (plGood_any _ B _ a H.out).mono ?_
      rintro e w1 ⟨rfl, b1⟩
      rw [HA.out]
      go_wp2_with fail
      refine (plGood_any _ B' _ b (FS.below H'.out b1)).mono ?_
      rintro e w2 ⟨rfl, b2⟩
      have B2 := bel2 b1 b2
      rw [HB.out]
      rw [← hmb] at hlb ⊢
      clear hmb b1 b2
      have hs2 := B2.size
      go_wp2_with (at_builtin; refine wpList_append_own _ rfl _ _ 25 rfl w.heap.size 54 i0 (.agg #[.int .i64 0, .int .i64 0, .int .i64 0]) 3 24 Try.underlying25 hi hz0 hz1 hz2 rfl (by decide) _ 0 (ints []) rfl (tw_new _ _ hs2) ⟨g, 0, none⟩ a.length _ (ints (flatT a)) rfl (by simp [ints, flatT_len]) (fun j u hu => box_o (HR.out j u hu) (B2.alloc hs2 _)) (ints_one _) (by unfold maxLen; omega) (by omega) (by simp; omega) ?_; intro v3 w3 hown3 hgrow3 hnil3)
      have b3 : Below w.heap.size w w3 := (B2.alloc hs2 _).grown hgrow3 (by simp; omega) (fun k hk => by cases hk; exact hs2)
      have h3 : TmS w3 w.heap.size v3 a := by
        have e : ints (flatT a) = ints [] ++ ints (flatT a) := rfl
        unfold TmS FS
        rw [e]
        simpa using hown3
      go_wp2
      go_loopw [6, 22] (fun o i wr => ∃ k : Nat, k ≤ m ∧ i = .int .i64 k ∧ TmS wr w.heap.size o (norm (a ++ b.take k)) ∧ Hid ((norm (a ++ b.take k)).length = 0 → o = .slice none 0 0) ∧ Below w.heap.size w wr) (fun _ i _ => m - (intOf i).toNat)
      case atStart => exact ⟨0, by omega, rfl, by simpa [HNA.out] using h3, Lib.hid (by simp [HNA.out]; intro h0; rw [h0] at hla; simp at hla), b3⟩
      case round =>
        obtain ⟨k, hk, rfl, ho, hnil, hb⟩ := hrel
        by_cases hlt : k < m
        · have hkb : k < b.length := by rw [← HMB.out]; exact hlt
          obtain ⟨g2, rfl, hc0⟩ := HP'.out k hkb
          obtain ⟨c0, c1, c2⟩ := X3.below hc0 hb
          have hbA := hb.alloc hb.size (.cells #[.int .i64 (td b k).1, .int .i64 (td b k).2.1, .int .i64 (td b k).2.2] 54)
          have hoA := FS.alloc ho (.cells #[.int .i64 (td b k).1, .int .i64 (td b k).2.1, .int .i64 (td b k).2.2] 54)
          have HM := Lib.hid (norm_take a k hkb)
          have hln : (norm (a ++ b.take k)).length ≤ 1000 := by
            have := norm_len (a ++ b.take k)
            rw [List.length_append, List.length_take] at this
            omega
          clear hc0
          go_wp2_with fail
          refine (plPut_all _ _ _ _ (td b k) hoA hln hnil.out).mono ?_
          rintro e w4 ⟨r, rfl, hr, b4⟩
          rw [← HM.out] at hr
          have hb4 := bel2 hbA b4
          have hp4 := put_pos (norm (a ++ b.take k)) (td b k)
          rw [← HM.out] at hp4
          go_wp2
          go_roundw
          case rel => exact ⟨k + 1, by omega, by go_num, FS.base hr hbA.size, Lib.hid (fun h0 => by omega), hb4⟩
          case measure => simp [intOf]; omega
        · obtain rfl : k = m := by omega
          rw [HMB.out, List.take_length] at ho
          go_wp2_with fail
          refine (plIf_any _ _ _ _ ho).mono ?_
          rintro e w5 ⟨r, rfl, hr, b5⟩
          go_wp2
          go_ret2
          exact givesTmB_is HN1.out HN2.out hr (bel2 hb b5)
theorem norm_sw (l : List Tm) (k : Nat) (hk : k < l.length) : norm (swL (l.take (k + 1))) = putL (norm (swL (l.take k))) (swT (td l k)) := by
  rw [take_td l k hk]
  unfold swL
  rw [List.map_append]
  exact norm_snoc _ _
set_option maxHeartbeats 1000000 in
set_option maxRecDepth 100000 in
theorem specSwapPlane_any (w : World) (B : Nat) (v : Value) (l : List Tm) (h : TmS w B v l) : Calls Try.prog 36 #[v] w fun e w' => GivesTmB (plB l) (swR l) w e w' := by
  cases hl : plB l
  · have HL := Lib.hid hl
    clear hl
    go_enter Try.func36, Try.ntmps36
    go_wp2_with fail
    refine (plGood_any _ B _ l h).mono ?_
    rintro e w1 ⟨rfl, b1⟩
    rw [HL.out]
    go_wp2
    go_ret2
    exact givesTmB_nil rfl (swR_no HL.out) b1
  · have HL := Lib.hid hl
    have H := Lib.hid h
    have hle := (plB_le hl).2
    obtain ⟨A, cap, rfl, -, hp⟩ := TmS.parts h
    have HP := Lib.hid hp
    obtain ⟨n, hn⟩ : ∃ n, n = l.length := ⟨_, rfl⟩
    have HN := Lib.hid hn
    clear hl h hp
    go_enter Try.func36, Try.ntmps36
    go_wp2_with fail
    refine (plGood_any _ B _ l H.out).mono ?_
    rintro e w1 ⟨rfl, b1⟩
    rw [HL.out]
    rw [← hn] at hle ⊢
    clear hn
    go_wp2
    go_loopw [4, 12] (fun o i wr => ∃ k : Nat, k ≤ n ∧ i = .int .i64 k ∧ TmS wr w.heap.size o (norm (swL (l.take k))) ∧ Hid ((norm (swL (l.take k))).length = 0 → o = .slice none 0 0) ∧ Below w.heap.size w wr) (fun _ i _ => n - (intOf i).toNat)
    case atStart => exact ⟨0, by omega, rfl, (FS.nil_ _ _ _ _ : TmS w1 w.heap.size (.slice none 0 0) []), Lib.hid fun _ => rfl, b1⟩
    case round =>
      obtain ⟨k, hk, rfl, ho, hnil, hb⟩ := hrel
      by_cases hlt : k < n
      · have hkl : k < l.length := by rw [← HN.out]; exact hlt
        obtain ⟨g, rfl, hc0⟩ := HP.out k hkl
        obtain ⟨c0, c1, c2⟩ := X3.below hc0 hb
        have hbA := hb.alloc hb.size (.cells #[.int .i64 (td l k).1, .int .i64 (td l k).2.1, .int .i64 (td l k).2.2] 54)
        have hoA := FS.alloc ho (.cells #[.int .i64 (td l k).1, .int .i64 (td l k).2.1, .int .i64 (td l k).2.2] 54)
        have HM := Lib.hid (norm_sw l k hkl)
        have hln : (norm (swL (l.take k))).length ≤ 1000 := by
          have := norm_len (swL (l.take k))
          rw [swL_len, List.length_take] at this
          omega
        clear hc0
        go_wp2_with fail
        refine (plPut_all _ _ _ _ (swT (td l k)) hoA hln hnil.out).mono ?_
        rintro e w4 ⟨r, rfl, hr, b4⟩
        rw [← HM.out] at hr
        have hb4 := bel2 hbA b4
        have hp4 := put_pos (norm (swL (l.take k))) (swT (td l k))
        rw [← HM.out] at hp4
        go_wp2
        go_roundw
        case rel => exact ⟨k + 1, by omega, by go_num, FS.base hr hbA.size, Lib.hid (fun h0 => by omega), hb4⟩
        case measure => simp [intOf]; omega
      · obtain rfl : k = n := by omega
        rw [HN.out, List.take_length] at ho
        go_wp2
        go_ret2
        exact givesTmB_is rfl (swR_yes HL.out) ho hb
end Go.Proofs.Ytibdbgeknphljaa

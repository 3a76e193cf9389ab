/-
  Is a spot on a curve: what the model's call returns.
  Condition: the slice reads as the list that is named.
-/
import Derived.Test.YthegkifhbgopoaaCuQ
import Derived.Test.YthegkifhbgopoaaTm
namespace Go.Proofs.Ythegkifhbgopoaa
set_option linter.unusedSimpArgs false
set_option linter.unusedVariables false
open Go.ChangeShapes Go.WideShapes Go.ChangeAt Go.RowKit
open Go.Sort (grow)

/-- The values of all terms at a spot. -/
def vaL (l : List Tm) (a b c d : Int) : List Pt := l.map fun t => (cvN t a b c d, cvD t a b c d)
theorem vaL_len (l : List Tm) (a b c d : Int) : (vaL l a b c d).length = l.length := by simp [vaL]
theorem vaL_pd {l : List Tm} {a b c d : Int} {k : Nat} (h : k < l.length) : pd (vaL l a b c d) k = (cvN (td l k) a b c d, cvD (td l k) a b c d) := by
  rw [pd_eq _ _ (by rw [vaL_len]; exact h), td_eq l k h]; simp [vaL]
def vaA (l : List Tm) (a b c d : Int) : Bool := l.all fun t => cvB t a b c d
theorem vaA_yes {l : List Tm} {a b c d : Int} (h : ∀ k, k < l.length → cvB (td l k) a b c d = true) : vaA l a b c d = true := by
  unfold vaA
  rw [List.all_eq_true]
  intro t ht
  obtain ⟨k, hk, rfl⟩ := List.mem_iff_getElem.1 ht
  have := h k hk
  rwa [td_eq l k hk] at this
theorem vaA_no {l : List Tm} {a b c d : Int} {k : Nat} (hk : k < l.length) (h : cvB (td l k) a b c d = false) : vaA l a b c d = false := by
  unfold vaA
  rw [List.all_eq_false]
  exact ⟨l[k], List.getElem_mem _, by rw [td_eq l k hk] at h; rw [h]; simp⟩
theorem vaA_good {l : List Tm} {a b c d : Int} (h : vaA l a b c d = true) : FrA (vaL l a b c d) := by
  unfold vaA at h
  rw [List.all_eq_true] at h
  intro v hv
  obtain ⟨t, ht, rfl⟩ := List.mem_map.1 hv
  exact cvB_frB (h t ht)
/-- Is it asked well, and is the answer yes. -/
def onB (l : List Tm) (a b c d : Int) : Bool := plB l && (frB a b && (frB c d && vaA l a b c d))
def onR (l : List Tm) (a b c d : Int) : Bool := onB l a b c d && twB (vaL l a b c d)
def GivesOn (l : List Tm) (a b c d : Int) (w : World) (e : Ending) (w' : World) : Prop := e = .returned (.tuple #[.bool (onR l a b c d), .bool (onB l a b c d)]) ∧ Below w.heap.size w w'
theorem givesOn_no {l : List Tm} {a b c d : Int} {w w' : World} (h : onB l a b c d = false) (hb : Below w.heap.size w w') : GivesOn l a b c d w (.returned (.tuple #[.bool false, .bool false])) w' := by
  unfold GivesOn onR; rw [h]; exact ⟨rfl, hb⟩
theorem givesOn_yes {l : List Tm} {a b c d : Int} {w w' : World} {r : Bool} (h : onB l a b c d = true) (hr : r = twB (vaL l a b c d)) (hb : Below w.heap.size w w') : GivesOn l a b c d w (.returned (.tuple #[.bool r, .bool true])) w' := by
  unfold GivesOn onR; rw [h, hr]; exact ⟨rfl, hb⟩
theorem plT_lim {t : Tm} (h : plT t = true) : Lim t.1 ∧ Lim t.2.1 ∧ Lim t.2.2 := by
  have := plT_parts h
  unfold Lim; omega
theorem bcF_next (V : List Pt) (n : Nat) : bcF V (n + 1) = if n = 0 ∨ (pd V n).1 * (bcF V n).1.2 < (bcF V n).1.1 * (pd V n).2 then (pd V n, 1) else if pd V n = (bcF V n).1 then ((bcF V n).1, (bcF V n).2 + 1) else bcF V n := rfl
theorem Q4.setN {w : World} {g : Nat} {a b c d : Int} (h : Q4 w g a b c d) {x : Nat} (hx : g ≠ x) (j : Nat) (u : Value) : Q4 (w.setCell ⟨x, j, none⟩ u) g a b c d := (Below.heap_setCell _ _ _ g (fun e => hx (by rw [e]))).trans h
set_option maxHeartbeats 4000000 in
set_option maxRecDepth 100000 in
theorem specIsOn_any (w : World) (B : Nat) (v : Value) (l : List Tm) (a b c d : Int) (h : TmS w B v l) : Calls Try.prog 15 #[v, spV a b c d] w fun e w' => GivesOn l a b c d w e w' := by
  have hQ := Q4.new w a b c d
  have hI : TmS (w.alloc (.cells #[.int .i64 a, .int .i64 b, .int .i64 c, .int .i64 d] 34)) B v l := FS.below h ((Below.refl _ _).alloc (Nat.le_refl _) _)
  have HQ := Lib.hid hQ
  have HI := Lib.hid hI
  have HB := Lib.hid ((Below.refl w.heap.size w).alloc (Nat.le_refl _) (.cells #[.int .i64 a, .int .i64 b, .int .i64 c, .int .i64 d] 34))
  clear hQ hI
  cases g1 : plB l
  · go_enter Try.func15, Try.ntmps15
    go_wp2_with fail
    refine (plGood_any _ B _ l HI.out).mono ?_
    rw [g1]
    rintro x w1 ⟨rfl, b1⟩
    go_wp2_with fail
    go_ret2
    exact givesOn_no (by unfold onB; rw [g1]; rfl) (bel2 HB.out b1)
  cases g2 : frB a b
  · go_enter Try.func15, Try.ntmps15
    go_wp2_with fail
    refine (plGood_any _ B _ l HI.out).mono ?_
    rw [g1]
    rintro x w1 ⟨rfl, b1⟩
    obtain ⟨⟨q0, q1, q2, q3⟩, -⟩ := (HQ.out.below b1).cells
    go_wp2_with fail
    refine (frGood_any _ _ _).mono ?_
    rw [g2]
    rintro x w2 ⟨rfl, b2⟩
    go_wp2_with fail
    go_ret2
    exact givesOn_no (by unfold onB; rw [g1, g2]; rfl) (bel2 (bel2 HB.out b1) b2)
  cases g3 : frB c d
  · go_enter Try.func15, Try.ntmps15
    go_wp2_with fail
    refine (plGood_any _ B _ l HI.out).mono ?_
    rw [g1]
    rintro x w1 ⟨rfl, b1⟩
    obtain ⟨⟨q0, q1, q2, q3⟩, -⟩ := (HQ.out.below b1).cells
    go_wp2_with fail
    refine (frGood_any _ _ _).mono ?_
    rw [g2]
    rintro x w2 ⟨rfl, b2⟩
    obtain ⟨⟨r0, r1, r2, r3⟩, -⟩ := ((HQ.out.below b1).below b2).cells
    go_wp2_with fail
    refine (frGood_any _ _ _).mono ?_
    rw [g3]
    rintro x w3 ⟨rfl, b3⟩
    go_wp2_with fail
    go_ret2
    exact givesOn_no (by unfold onB; rw [g1, g2, g3]; rfl) (bel2 (bel2 (bel2 HB.out b1) b2) b3)
  have HL := Lib.hid (show ∀ k, k < l.length → Lim (td l k).1 ∧ Lim (td l k).2.1 ∧ Lim (td l k).2.2 from fun k hk => plT_lim (plB_at g1 hk))
  have HY := Lib.hid (show onB l a b c d = vaA l a b c d by unfold onB; rw [g1, g2, g3]; rfl)
  obtain ⟨A, cap, rfl, hm, hp⟩ := TmS.parts h
  have HP := Lib.hid hp
  obtain ⟨n, hn⟩ : ∃ n, n = l.length := ⟨_, rfl⟩
  have HN := Lib.hid hn
  rw [← hn] at hm HL HI ⊢
  obtain ⟨V, hV⟩ : ∃ V, V = vaL l a b c d := ⟨_, rfl⟩
  have HV := Lib.hid hV
  have HVP := Lib.hid (show ∀ k, k < n → pd V k = (cvN (td l k) a b c d, cvD (td l k) a b c d) from fun k hk => by rw [hV]; exact vaL_pd (by omega))
  have G1 := Lib.hid g1
  have G2 := Lib.hid g2
  have G3 := Lib.hid g3
  unfold maxLen at hm
  clear h hp hn hV g1 g2 g3
  go_enter Try.func15, Try.ntmps15
  go_wp2_with fail
  refine (plGood_any _ B _ l HI.out).mono ?_
  rw [G1.out]
  rintro x w1 ⟨rfl, b1⟩
  obtain ⟨⟨q0, q1, q2, q3⟩, -⟩ := (HQ.out.below b1).cells
  go_wp2_with fail
  refine (frGood_any _ _ _).mono ?_
  rw [G2.out]
  rintro x w2 ⟨rfl, b2⟩
  obtain ⟨⟨r0, r1, r2, r3⟩, -⟩ := ((HQ.out.below b1).below b2).cells
  go_wp2_with fail
  refine (frGood_any _ _ _).mono ?_
  rw [G3.out]
  rintro x w3 ⟨rfl, b3⟩
  have hq3 := ((HQ.out.below b1).below b2).below b3
  have hb3 := bel2 (bel2 (bel2 HB.out b1) b2) b3
  have hw3 : w.heap.size < w3.heap.size := cell_lt hq3.cells.1.1
  clear q0 q1 q2 q3 r0 r1 r2 r3 b1 b2 b3
  have hF0 := F2.new w3 0 0
  have hqA := hq3.below ((Below.refl _ _).alloc (Nat.le_refl _) (.cells #[.int .i64 0, .int .i64 0] 32))
  have hbA := hb3.alloc (by omega) (.cells #[.int .i64 0, .int .i64 0] 32)
  go_upto_region 4 with fail
  obtain ⟨G, hG⟩ : ∃ G, G = w3.heap.size := ⟨_, rfl⟩
  rw [← hG] at hF0 hw3 ⊢
  generalize w3.alloc (.cells #[.int .i64 0, .int .i64 0] 32) = W3 at hF0 hqA hbA ⊢
  clear hq3 hb3 hG
  go_wp2
  go_loopw [7, 29] (fun cnt i wr => ∃ k : Nat, k ≤ n ∧ i = .int .i64 k ∧ cnt = .int .i64 ((bcF V k).2 : Int) ∧ F2 wr G (bcF V k).1.1 (bcF V k).1.2 ∧ Q4 wr w.heap.size a b c d ∧ (k = 0 ∨ frB (bcF V k).1.1 (bcF V k).1.2 = true) ∧ (bcF V k).2 ≤ k ∧ (∀ j, j < k → cvB (td l j) a b c d = true) ∧ Below w.heap.size w wr) (fun _ i _ => n - (intOf i).toNat)
  case atStart => exact ⟨0, by omega, rfl, rfl, hF0, hqA, .inl rfl, Nat.le_refl _, fun j hj => by omega, hbA⟩
  case round =>
    obtain ⟨k, hk, rfl, rfl, hF, hQ, hgd, hck, hall, hb⟩ := hrel
    clear hF0 hqA hbA
    by_cases hlt : k < n
    · obtain ⟨g, rfl, hc0⟩ := HP.out k (by rw [← HN.out]; exact hlt)
      obtain ⟨c0, c1, c2⟩ := X3.below hc0 hb
      have hgl : w.heap.size < wr.heap.size := cell_lt hQ.cells.1.1
      have HLk := Lib.hid (HL.out k hlt)
      have HVk := Lib.hid (HVP.out k hlt)
      have HBN := Lib.hid (bcF_next V k)
      have HAk := Lib.hid (vaA_no (l := l) (a := a) (b := b) (c := c) (d := d) (k := k) (by rw [← HN.out]; exact hlt))
      obtain ⟨t, ht⟩ : ∃ t, t = td l k := ⟨_, rfl⟩
      have HTK := Lib.hid ht.symm
      rw [← ht] at c0 c1 c2 HLk HVk HAk hc0
      clear ht
      have hT := T3.new wr t 74
      have hQA := hQ.below ((Below.refl _ _).alloc (Nat.le_refl _) (.cells #[.int .i64 t.1, .int .i64 t.2.1, .int .i64 t.2.2] 74))
      have hFA := hF.below ((Below.refl _ _).alloc (Nat.le_refl _) (.cells #[.int .i64 t.1, .int .i64 t.2.1, .int .i64 t.2.2] 74))
      have hbA := hb.alloc hb.size (.cells #[.int .i64 t.1, .int .i64 t.2.1, .int .i64 t.2.2] 74)
      clear hc0 hQ hF hb
      go_upto_region 8 with fail
      generalize wr.alloc (.cells #[.int .i64 t.1, .int .i64 t.2.1, .int .i64 t.2.2] 74) = W0 at hT hQA hFA hbA ⊢
      have HQA := Lib.hid hQA
      have HFA := Lib.hid hFA
      have HBA := Lib.hid hbA
      clear c0 c1 c2 hgl hFA hbA
      obtain ⟨t0, t1, t2⟩ := hT
      obtain ⟨⟨q0, q1, q2, q3⟩, -⟩ := hQA.cells
      have lT := cell_lt t0
      have lQ := cell_lt q0
      go_wp2_with fail
      refine (cuValue_any t a b c d _ HLk.out.1 HLk.out.2.1 HLk.out.2.2 G2.out G3.out).mono ?_
      rintro e w4 ⟨rfl, b4⟩
      have hF4 := HFA.out.below b4
      have hQ4 := HQA.out.below b4
      have hb4 := bel2 HBA.out b4
      have HXY := Lib.hid (fun q : cvB t a b c d = true => cvB_frB q)
      obtain ⟨X, hX⟩ : ∃ X, X = cvN t a b c d := ⟨_, rfl⟩
      obtain ⟨Y, hY⟩ : ∃ Y, Y = cvD t a b c d := ⟨_, rfl⟩
      obtain ⟨m, hm'⟩ : ∃ m, m = cvB t a b c d := ⟨_, rfl⟩
      have HAL := Lib.hid (show m = true → ∀ j, j < k + 1 → cvB (td l j) a b c d = true from fun q j hj => by
        by_cases hjk : j < k
        · exact hall j hjk
        · obtain rfl : j = k := by omega
          rw [HTK.out, ← hm', q])
      rw [← hX, ← hY] at HXY HVk
      rw [← hm'] at HXY HAk
      rw [← hX, ← hY, ← hm']
      clear t0 t1 t2 q0 q1 q2 q3 lT lQ hQA HFA HQA HBA b4 hX hY hm' hall
      have hw4 : w.heap.size < w4.heap.size := cell_lt hQ4.cells.1.1
      have hG4 : G < w4.heap.size := cell_lt hF4.1
      have hN := F2.new w4 X Y
      have hF5 := hF4.below ((Below.refl _ _).alloc (Nat.le_refl _) (.cells #[.int .i64 X, .int .i64 Y] 32))
      have hQ5 := hQ4.below ((Below.refl _ _).alloc (Nat.le_refl _) (.cells #[.int .i64 X, .int .i64 Y] 32))
      have hb5 := hb4.alloc (by omega) (.cells #[.int .i64 X, .int .i64 Y] 32)
      clear hF4 hQ4 hb4
      go_upto_region 9 with fail
      obtain ⟨G', hG'⟩ : ∃ G', G' = w4.heap.size := ⟨_, rfl⟩
      rw [← hG'] at hN hw4 hG4 ⊢
      generalize w4.alloc (.cells #[.int .i64 X, .int .i64 Y] 32) = W5 at hN hF5 hQ5 hb5 ⊢
      clear hG'
      cases m
      · clear hN hF5 hQ5
        go_wp2_with fail
        go_ret2
        exact givesOn_no (by rw [HY.out]; exact HAk.out (by simp)) hb5
      · have HQ5 := Lib.hid hQ5
        have HF5 := Lib.hid hF5
        have HB5 := Lib.hid hb5
        obtain ⟨cn, hcn⟩ : ∃ cn, cn = (bcF V k).2 := ⟨_, rfl⟩
        obtain ⟨bn, hbn⟩ : ∃ bn, bn = (bcF V k).1.1 := ⟨_, rfl⟩
        obtain ⟨bd, hbd⟩ : ∃ bd, bd = (bcF V k).1.2 := ⟨_, rfl⟩
        have hbe : bcF V k = ((bn, bd), cn) := by rw [hbn, hbd, hcn]
        rw [← hbn, ← hbd] at HF5 hgd hF5
        rw [← hcn] at hck ⊢
        rw [HVk.out, hbe] at HBN
        have HGD := Lib.hid hgd
        clear hQ5 hb5 hcn hbn hbd hbe hgd
        have HN5 := Lib.hid hN
        have hne : w.heap.size ≠ G := by omega
        have hle : w.heap.size ≤ G := by omega
        by_cases hk0 : k = 0
        · have z : (((k : Nat) : Int) == 0) = true := by simp [hk0]
          have z' : ((k : Nat) : Int) = 0 := by omega
          have HE := Lib.hid (HBN.out.trans (if_pos (.inl hk0)))
          obtain ⟨x0, x1, -, -⟩ := hN
          obtain ⟨y0, y1, y2, y3⟩ := hF5
          clear hk0
          go_wp2
          go_roundw
          case rel => exact ⟨k + 1, by omega, by go_num, by rw [HE.out]; rfl, by rw [HE.out]; exact F2.store HF5.out X Y, (HQ5.out.setN hne _ _).setN hne _ _, .inr (by rw [HE.out]; exact HXY.out (by simp)), by rw [HE.out]; show 1 ≤ k + 1; omega, HAL.out (by simp), (HB5.out.setCell hle _).setCell hle _⟩
          case measure => simp [intOf]; omega
        · have z : (((k : Nat) : Int) == 0) = false := by simp; omega
          have z' : decide (((k : Nat) : Int) = 0) = false := decide_eq_false (by omega)
          have HBG := Lib.hid (show frB bn bd = true by rcases HGD.out with h | h; exact absurd h hk0; exact h)
          obtain ⟨x0, x1, -, -⟩ := hN
          obtain ⟨y0, y1, y2, y3⟩ := hF5
          have HK0 := Lib.hid hk0
          clear hk0
          go_wp2_with fail
          refine (frCmp_any X Y bn bd _ (HXY.out (by simp)) HBG.out).mono ?_
          rintro e w6 ⟨rfl, b6⟩
          have hF6 := HF5.out.below b6
          have hN6 := HN5.out.below b6
          have HF6 := Lib.hid hF6
          have HQ6 := Lib.hid (HQ5.out.below b6)
          have HB6 := Lib.hid (bel2 HB5.out b6)
          obtain ⟨x0, x1, -, -⟩ := hN6
          obtain ⟨y0, y1, y2, y3⟩ := hF6
          clear b6 z z'
          by_cases hc : X * bd < bn * Y
          · have ec : cmpI (X * bd) (bn * Y) = -1 := if_pos hc
            rw [ec]
            have HE := Lib.hid (HBN.out.trans (if_pos (.inr hc)))
            clear hc ec
            go_wp2
            go_roundw
            case rel => exact ⟨k + 1, by omega, by go_num, by rw [HE.out]; rfl, by rw [HE.out]; exact F2.store HF6.out X Y, (HQ6.out.setN hne _ _).setN hne _ _, .inr (by rw [HE.out]; exact HXY.out (by simp)), by rw [HE.out]; show 1 ≤ k + 1; omega, HAL.out (by simp), (HB6.out.setCell hle _).setCell hle _⟩
            case measure => simp [intOf]; omega
          · obtain ⟨cv, hcv⟩ : ∃ cv, cv = cmpI (X * bd) (bn * Y) := ⟨_, rfl⟩
            have hc0 : decide (cv < 0) = false := decide_eq_false (by rw [hcv]; unfold cmpI; rw [if_neg hc]; split <;> omega)
            rw [← hcv]
            have HE0 := Lib.hid (HBN.out.trans (if_neg (fun h => by rcases h with h | h; exact HK0.out h; exact hc h)))
            clear hcv hc
            by_cases he : X = bn ∧ Y = bd
            · obtain ⟨rfl, rfl⟩ := he
              have HE := Lib.hid (HE0.out.trans (if_pos rfl))
              go_wp2
              go_roundw
              case rel => exact ⟨k + 1, by omega, by go_num, by rw [HE.out]; go_num, by rw [HE.out]; exact HF6.out, HQ6.out, .inr (by rw [HE.out]; exact HBG.out), by rw [HE.out]; show cn + 1 ≤ k + 1; omega, HAL.out (by simp), HB6.out⟩
              case measure => simp [intOf]; omega
            · have HE := Lib.hid (HE0.out.trans (if_neg (fun h => he (by simpa using h))))
              go_wp2
              all_goals go_roundw
              all_goals first
              | exact ⟨k + 1, by omega, by go_num, by rw [HE.out], by rw [HE.out]; exact HF6.out, HQ6.out, .inr (by rw [HE.out]; exact HBG.out), by rw [HE.out]; show cn ≤ k + 1; omega, HAL.out (by simp), HB6.out⟩
              | (simp [intOf]; omega)
    · obtain rfl : k = n := by omega
      have ha := vaA_yes (l := l) (a := a) (b := b) (c := c) (d := d) (by rw [← HN.out]; exact hall)
      have ht : decide ((1 : Int) < (((bcF V k).2 : Nat) : Int)) = twB (vaL l a b c d) := by
        unfold twB; rw [← HV.out, show V.length = k by rw [HV.out, vaL_len, HN.out]]
        congr 1; exact propext ⟨fun h => by omega, fun h => by omega⟩
      have HT := Lib.hid ht
      have HA := Lib.hid ha
      obtain ⟨cn, hcn⟩ : ∃ cn, cn = (bcF V k).2 := ⟨_, rfl⟩
      rw [← hcn] at HT ⊢
      clear ha ht hcn
      go_wp2
      go_ret2
      exact givesOn_yes (by rw [HY.out, HA.out]) (by rw [← HT.out]) hb
end Go.Proofs.Ythegkifhbgopoaa

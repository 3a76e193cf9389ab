/-
  What cells are like: three terms at least, an area above 0; IsTriangulated and IsSmooth of both.
  Condition: the slice reads as the list that is named.
-/
import Derived.Test.YtoecjdpeldcajaaCePg
namespace Go.Proofs.Ytoecjdpeldcajaa
set_option linter.unusedSimpArgs false
set_option linter.unusedVariables false
open Go.ChangeShapes Go.WideShapes Go.ChangeAt Go.RowKit
open Go.Sort (grow)

theorem htT_b (a b c : Tm) : htT a (nmT a b c) b = 0 := by
  have h : htT a (noT a b c) b = 0 := by unfold htT noT crT stT; grind
  unfold nmT
  split
  · rw [htT_ng, h]; rfl
  · exact h
theorem htT_c (a b c : Tm) : htT a (nmT a b c) c = 0 := by
  have h : htT a (noT a b c) c = 0 := by unfold htT noT crT stT; grind
  unfold nmT
  split
  · rw [htT_ng, h]; rfl
  · exact h
theorem sub_len {α : Type} : ∀ {a b : List α}, a.Nodup → (∀ q ∈ a, q ∈ b) → a.length ≤ b.length
  | [], _, _, _ => Nat.zero_le _
  | x :: t, b, hn, hs => by
    obtain ⟨s, r, rfl⟩ := List.append_of_mem (hs x (by simp))
    have hn' := List.nodup_cons.1 hn
    have := sub_len (a := t) (b := s ++ r) hn'.2 (fun q hq => by
      have h1 := hs q (by simp [hq])
      have hne : q ≠ x := fun e => hn'.1 (e ▸ hq)
      simp only [List.mem_append, List.mem_cons] at h1 ⊢
      rcases h1 with h1 | h1 | h1
      · exact .inl h1
      · exact absurd h1 hne
      · exact .inr h1)
    simp only [List.length_append, List.length_cons] at this ⊢
    omega
/-- A cell's three first known terms. -/
theorem cell_three {l : List Tm} {x : List Int} (h : x ∈ ceL l) : ∃ i j k : Nat, i < j ∧ j < k ∧ k < l.length ∧ tuT (td l i) (td l j) (td l k) ≠ 0 ∧ (i : Int) ∈ x ∧ (j : Int) ∈ x ∧ (k : Int) ∈ x := by
  obtain ⟨i, j, k, hij, hjk, hk, ht, -, rfl⟩ := (ceL_mem l x).1 h
  refine ⟨i, j, k, hij, hjk, hk, ht, (zeL_mem _ _ _ _).2 ⟨i, by omega, rfl, htT_self _ _⟩, (zeL_mem _ _ _ _).2 ⟨j, by omega, rfl, ?_⟩, (zeL_mem _ _ _ _).2 ⟨k, by omega, rfl, ?_⟩⟩
  · exact htT_b _ _ _
  · exact htT_c _ _ _
theorem cell_3 {l : List Tm} {x : List Int} (h : x ∈ ceL l) : 3 ≤ x.length := by
  obtain ⟨i, j, k, hij, hjk, -, -, h1, h2, h3⟩ := cell_three h
  refine sub_len (a := [(i : Int), j, k]) ?_ (fun q hq => ?_)
  · simp; omega
  · simp only [List.mem_cons, List.not_mem_nil, or_false] at hq
    rcases hq with rfl | rfl | rfl <;> assumption
/-- The turns about a point, summed along the sides. -/
def trS (l : List Pt) (r : Pt) : Nat → Int
  | 0 => 0
  | k + 1 => trS l r k + trn r (pd l k) (nxP l k)
theorem trn_crs (r p q : Pt) : trn r p q = crP p q - crP r q + crP r p := by unfold trn crP; grind
theorem trS_part (l : List Pt) (r : Pt) : ∀ k, k < l.length → trS l r k = arS l k + crP r (pd l 0) - crP r (pd l k)
  | 0, _ => by simp [trS, arS]
  | k + 1, hk => by
    have ih := trS_part l r k (by omega)
    have hn : nxP l k = pd l (k + 1) := by unfold nxP; rw [Nat.mod_eq_of_lt hk]
    have := trn_crs r (pd l k) (pd l (k + 1))
    rw [trS, arS, ih, hn, this]; omega
theorem trS_all (l : List Pt) (r : Pt) (h0 : 0 < l.length) : trS l r l.length = arL l := by
  obtain ⟨n, hn⟩ : ∃ n, l.length = n + 1 := ⟨l.length - 1, by omega⟩
  have h1 := trS_part l r n (by omega)
  have hx : nxP l n = pd l 0 := by unfold nxP; rw [hn, Nat.mod_self]
  have := trn_crs r (pd l n) (pd l 0)
  unfold arL
  rw [hn, trS, arS, h1, hx, this]; omega
theorem trS_pos {l : List Pt} {r : Pt} (h : ∀ k, k < l.length → 0 ≤ trn r (pd l k) (nxP l k)) : ∀ k, k ≤ l.length → 0 ≤ trS l r k
  | 0, _ => by simp [trS]
  | k + 1, hk => by
    have := trS_pos h k (by omega)
    have := h k (by omega)
    rw [trS]; omega
theorem trS_first {l : List Pt} {r : Pt} (h : ∀ k, k < l.length → 0 ≤ trn r (pd l k) (nxP l k)) : ∀ k, k < l.length → trn r (pd l 0) (nxP l 0) ≤ trS l r (k + 1)
  | 0, _ => by simp [trS]
  | k + 1, hk => by
    have := trS_first h k (by omega)
    have := h (k + 1) hk
    rw [trS]; omega
theorem line_zero {p q a b c : Pt} (hne : p ≠ q) (ha : trn p q a = 0) (hb : trn p q b = 0) (hc : trn p q c = 0) : trn a b c = 0 := by
  obtain ⟨p1, p2⟩ := p
  obtain ⟨q1, q2⟩ := q
  obtain ⟨a1, a2⟩ := a
  obtain ⟨b1, b2⟩ := b
  obtain ⟨c1, c2⟩ := c
  unfold trn at *
  simp only at *
  have k1 : (q1 - p1) * ((b1 - a1) * (c2 - a2) - (b2 - a2) * (c1 - a1)) = 0 := by grind
  have k2 : (q2 - p2) * ((b1 - a1) * (c2 - a2) - (b2 - a2) * (c1 - a1)) = 0 := by grind
  rcases Int.mul_eq_zero.1 k1 with h | h
  · rcases Int.mul_eq_zero.1 k2 with h' | h'
    · exact absurd (by rw [show p1 = q1 by omega, show p2 = q2 by omega]) hne
    · exact h'
  · exact h
theorem trn_turn (p q r : Pt) : trn r p q = trn p q r := by unfold trn; grind
/-- A hull's area is above 0 where three of its points don't lie in line. -/
theorem area_pos {l : List Pt} {a b c : Pt} (ha : a ∈ l) (hb : b ∈ l) (hc : c ∈ l) (ht : trn a b c ≠ 0) : 0 < arL (hulL l) := by
  have hne : l ≠ [] := List.ne_nil_of_mem ha
  have hi := hul_idem hne
  have hn0 := hul_ne hne
  have hh : ∀ q ∈ l, hasB (hulL l) q = true := fun q hq => hul_has hne hq
  obtain ⟨H, hH⟩ : ∃ H, H = hulL l := ⟨_, rfl⟩
  rw [← hH] at hi hn0 hh ⊢
  have hl : 0 < H.length := List.length_pos_iff.2 hn0
  have hpd : ∀ k, pd H k = H.getD k (0, 0) := fun k => rfl
  unfold hasB at hh
  by_cases h1 : H.length = 1
  · simp only [h1, if_pos] at hh
    have e1 := of_decide_eq_true (hh a ha)
    have e2 := of_decide_eq_true (hh b hb)
    refine absurd ?_ ht
    rw [← e1, ← e2]
    unfold trn; grind
  · simp only [h1, if_false] at hh
    have hd := nx_ne hi (by omega) 0 hl
    by_cases h2 : H.length = 2
    · simp only [h2, if_pos, Bool.and_eq_true] at hh
      have z : ∀ q ∈ l, trn (H.getD 0 (0, 0)) (H.getD 1 (0, 0)) q = 0 := fun q hq => of_decide_eq_true (hh q hq).1
      rw [h2] at hd
      exact absurd (line_zero hd (z a ha) (z b hb) (z c hc)) ht
    · simp only [h2, if_false] at hh
      have z : ∀ q ∈ l, ∀ k, k < H.length → 0 ≤ trn q (pd H k) (nxP H k) := fun q hq k hk => by
        rw [trn_turn]
        exact of_decide_eq_true (hh q hq) k hk
      rcases Int.lt_or_le 0 (arL H) with h | h
      · exact h
      · refine absurd ?_ ht
        have key : ∀ q ∈ l, trn (pd H 0) (nxP H 0) q = 0 := fun q hq => by
          have h3 := trS_first (z q hq) (H.length - 1) (by omega)
          rw [show H.length - 1 + 1 = H.length by omega, trS_all H q hl] at h3
          have h4 := z q hq 0 hl
          rw [← trn_turn]; omega
        exact line_zero hd (key a ha) (key b hb) (key c hc)
theorem cell_area {l : List Tm} {x : List Int} (h : x ∈ ceL l) : 0 < arL (hulL (cptL l x)) := by
  obtain ⟨i, j, k, -, -, -, ht, h1, h2, h3⟩ := cell_three h
  exact area_pos (a := ptO (td l i)) (b := ptO (td l j)) (c := ptO (td l k)) (List.mem_map.2 ⟨_, h1, rfl⟩) (List.mem_map.2 ⟨_, h2, rfl⟩) (List.mem_map.2 ⟨_, h3, rfl⟩) ht
theorem caL_pos (l : List Tm) : ∀ n ∈ caL l, 0 < n := fun n hn => by
  obtain ⟨x, hx, rfl⟩ := List.mem_map.1 hn
  exact cell_area hx
/-- Are there just three terms in each cell; has each cell the area 1. -/
def triB (l : List Tm) : Bool := plB l && decide (∀ x ∈ ceL l, x.length = 3)
def smoB (l : List Tm) : Bool := plB l && (decide (0 < (caL l).length) && decide (∀ n ∈ caL l, n = 1))
theorem triB_no {l : List Tm} (h : plB l = false) : triB l = false := by unfold triB; rw [h]; rfl
theorem smoB_no {l : List Tm} (h : plB l = false) : smoB l = false := by unfold smoB; rw [h]; rfl
theorem triB_yes {l : List Tm} (h : plB l = true) : triB l = decide (∀ x ∈ ceL l, x.length = 3) := by unfold triB; rw [h]; rfl
theorem smoB_yes {l : List Tm} (h : plB l = true) : smoB l = (decide (0 < (caL l).length) && decide (∀ n ∈ caL l, n = 1)) := by unfold smoB; rw [h]; rfl
theorem cell_in {l : List Tm} {P : VL} (hP : lls P = ceL l) {k : Nat} (hk : k < P.length) : pll P k ∈ ceL l := by
  rw [← hP, ← lls_get hk (by rw [lls_len]; exact hk)]; exact List.getElem_mem _
theorem in_cell {l : List Tm} {P : VL} (hP : lls P = ceL l) {x : List Int} (hx : x ∈ ceL l) : ∃ k, k < P.length ∧ x = pll P k := by
  rw [← hP] at hx
  obtain ⟨k, hk, rfl⟩ := List.getElem_of_mem hx
  have hk' : k < P.length := by rw [← lls_len]; exact hk
  exact ⟨k, hk', lls_get hk' hk⟩
set_option maxHeartbeats 1000000 in
theorem specIsTriangulated_any (w : World) (B : Nat) (v : Value) (l : List Tm) (h : TmS w B v l) : Calls Try.prog 37 #[v] w fun e w' => SaysBB (triB l) (plB l) w e w' := by
  cases hl : plB l
  · have HL := Lib.hid hl
    have HN := Lib.hid (triB_no hl)
    clear hl
    go_enter Try.func37, Try.ntmps37
    go_wp2_with fail
    refine (plGood_any _ B _ l h).mono ?_
    rintro e w1 ⟨rfl, b1⟩
    rw [HL.out]
    go_wp2
    go_ret2
    exact ⟨ret_bb HN.out.symm rfl, b1⟩
  · have HL := Lib.hid hl
    have HY := Lib.hid (triB_yes hl)
    clear hl
    go_enter Try.func37, Try.ntmps37
    go_wp2_with fail
    refine (plGood_any _ B _ l h).mono ?_
    rintro e w1 ⟨rfl, b1⟩
    have h1 := FS.below h b1
    rw [HL.out]
    go_wp2_with fail
    refine (ceOf_any w1 B _ l h1 HL.out).mono ?_
    rintro e w2 ⟨r, P, rfl, hLS, hP, b2⟩
    have HB := Lib.hid (bel2 b1 b2)
    obtain ⟨A, cap, rfl, -, hp⟩ := hLS.parts
    have HP := Lib.hid hp
    have HQ := Lib.hid hP
    have HV := Lib.hid hLS.2
    have hle := ceL_len (plB_le HL.out).2
    obtain ⟨n, hn⟩ : ∃ n, n = P.length := ⟨_, rfl⟩
    rw [show (ceL l).length = n by rw [hn, ← hP, lls_len]] at hle
    have HN := Lib.hid hn
    rw [← hn]
    clear hp hLS hP h h1 b1 b2 hn
    go_wp2
    go_loopw [12] (fun i wr => ∃ k : Nat, k ≤ n ∧ i = .int .i64 k ∧ Hid (∀ m, m < k → (pll P m).length = 3) ∧ w2 = wr) (fun i _ => n - (intOf i).toNat)
    case atStart => exact ⟨0, by omega, rfl, Lib.hid (fun m hm => absurd hm (Nat.not_lt_zero m)), rfl⟩
    case round =>
      obtain ⟨k, hk, rfl, hall, rfl⟩ := hrel
      by_cases hlt : k < n
      · have hkp : k < P.length := by rw [← HN.out]; exact hlt
        obtain ⟨g, rfl, hc⟩ := HP.out k hkp
        have his := HV.out.at hkp
        have HI := Lib.hid (cell_in HQ.out hkp)
        obtain ⟨A', cap', hv, hzm, -⟩ := his.parts
        rw [hv] at hc
        obtain ⟨zs, hzs⟩ : ∃ zs, zs = pll P k := ⟨_, rfl⟩
        have HZ := Lib.hid hzs
        rw [← hzs] at hc hzm
        clear his hv hzs hkp
        unfold maxLen at hzm
        by_cases h3 : (zs.length : Int) = 3
        · have HA := Lib.hid (show ∀ m, m < k + 1 → (pll P m).length = 3 from fun m hm => by
            rcases Nat.lt_succ_iff_lt_or_eq.1 hm with h | rfl
            · exact hall.out m h
            · rw [← HZ.out]; omega)
          go_wp2
          go_roundw
          case rel => exact ⟨k + 1, by omega, by go_num, HA, by first | rfl | trivial⟩
          case measure => simp [intOf]; omega
        · have HF := Lib.hid (show triB l = false from HY.out.trans (decide_eq_false (fun hall' => h3 (by have := hall' _ HI.out; rw [← HZ.out] at this; omega))))
          go_wp2
          go_ret2
          exact ⟨ret_bb HF.out.symm rfl, HB.out⟩
      · obtain rfl : k = n := by omega
        have HF := Lib.hid (show triB l = true from HY.out.trans (decide_eq_true (fun x hx => by
          obtain ⟨m, hm, rfl⟩ := in_cell HQ.out hx
          exact hall.out m (by rw [HN.out]; exact hm))))
        go_wp2
        go_ret2
        exact ⟨ret_bb HF.out.symm rfl, HB.out⟩
theorem ent_more : ∀ (args : Array Value) (w : World), (callFunc 62 args).run Try.prog w = .ok (.enter 62 args) w := enters_of Try.func62 (by kernel_rfl) rfl
theorem hasMore_any (w : World) (B : Nat) (v : Value) (zs : List Int) (h : IS w B v zs) : Calls Try.prog 62 #[v] w fun e w' => e = .returned (.bool (decide (3 < zs.length))) ∧ w = w' := by
  obtain ⟨A, cap, rfl, hm, -⟩ := h.parts
  obtain ⟨n, hn⟩ : ∃ n, n = zs.length := ⟨_, rfl⟩
  rw [← hn] at hm ⊢
  unfold maxLen at hm
  clear h hn
  go_enter Try.func62, Try.ntmps62
  go_wp2
  go_ret
  exact ⟨ret_bool (by rw [decide_eq_decide]; omega), rfl⟩
set_option maxHeartbeats 1000000 in
theorem indexMore_any (w : World) (B : Nat) (v : Value) (P : VL) (h : LS w B v P) : Calls Try.prog 95 #[v, .func (.func 62) #[] #[]] w fun e w' => (∃ n : Int, e = .returned (.int .i64 n) ∧ (0 ≤ n ↔ ∃ k, k < P.length ∧ 3 < (pll P k).length)) ∧ w = w' := by
  have eg := ent_more
  obtain ⟨A, cap, rfl, hm, hp⟩ := h.parts
  have HP := Lib.hid hp
  have HV := Lib.hid h.2
  obtain ⟨n, hn⟩ : ∃ n, n = P.length := ⟨_, rfl⟩
  have HN := Lib.hid hn
  rw [← hn] at hm ⊢
  unfold maxLen at hm
  clear h hp hn
  go_enter Try.func95, Try.ntmps95
  go_wp2
  go_loopw [8] (fun i wr => ∃ k : Nat, k ≤ n ∧ i = .int .i64 k ∧ Hid (∀ m, m < k → ¬ 3 < (pll P m).length) ∧ w = wr) (fun i _ => n - (intOf i).toNat)
  case atStart => exact ⟨0, by omega, rfl, Lib.hid (fun m hm => absurd hm (Nat.not_lt_zero m)), rfl⟩
  case round =>
    obtain ⟨k, hk, rfl, hall, rfl⟩ := hrel
    by_cases hlt : k < n
    · have hkp : k < P.length := by rw [← HN.out]; exact hlt
      obtain ⟨g, rfl, hc⟩ := HP.out k hkp
      have his := HV.out.at hkp
      cases h3 : decide (3 < (pll P k).length)
      · have HA := Lib.hid (show ∀ m, m < k + 1 → ¬ 3 < (pll P m).length from fun m hm => by
          rcases Nat.lt_succ_iff_lt_or_eq.1 hm with h | rfl
          · exact hall.out m h
          · exact of_decide_eq_false h3)
        go_wp2_with (first | (go_at_fn 62; refine (hasMore_any _ _ _ _ his).mono ?_; rintro e w' ⟨rfl, rfl⟩; rw [h3]))
        go_roundw
        case rel => exact ⟨k + 1, by omega, by go_num, HA, by first | rfl | trivial⟩
        case measure => simp [intOf]; omega
      · have HF := Lib.hid (show ∃ k, k < n ∧ 3 < (pll P k).length from ⟨k, hlt, of_decide_eq_true h3⟩)
        go_wp2_with (first | (go_at_fn 62; refine (hasMore_any _ _ _ _ his).mono ?_; rintro e w' ⟨rfl, rfl⟩; rw [h3]))
        go_ret
        exact ⟨⟨_, rfl, fun _ => HF.out, fun _ => by omega⟩, rfl⟩
    · obtain rfl : k = n := by omega
      go_wp2
      go_ret
      exact ⟨⟨_, rfl, fun h => by omega, fun ⟨m, h1, h2⟩ => absurd h2 (hall.out m h1)⟩, rfl⟩
theorem containsMore_any (w : World) (B : Nat) (v : Value) (P : VL) (h : LS w B v P) : Calls Try.prog 63 #[v, .func (.func 62) #[] #[]] w fun e w' => e = .returned (.bool (decide (∃ k, k < P.length ∧ 3 < (pll P k).length))) ∧ w = w' := by
  go_enter Try.func63, Try.ntmps63
  go_wp2_with fail
  refine (indexMore_any _ B _ P h).mono ?_
  rintro e w' ⟨⟨n, rfl, hn⟩, rfl⟩
  have HN := Lib.hid hn
  clear hn
  go_wp2
  go_ret
  exact ⟨ret_bool (by rw [decide_eq_decide]; exact HN.out), rfl⟩
set_option maxHeartbeats 1000000 in
theorem implIsTriangulated_any (w : World) (B : Nat) (v : Value) (l : List Tm) (h : TmS w B v l) : Calls Try.prog 38 #[v] w fun e w' => SaysBB (triB l) (plB l) w e w' := by
  cases hl : plB l
  · have HL := Lib.hid hl
    have HN := Lib.hid (triB_no hl)
    clear hl
    go_enter Try.func38, Try.ntmps38
    go_wp2_with fail
    refine (implCellsOf_any _ B _ l h).mono ?_
    rintro e w1 ⟨r, P, rfl, hLS, hP, b1⟩
    rw [HL.out]
    clear hLS hP
    go_wp2
    go_ret2
    exact ⟨ret_bb HN.out.symm rfl, b1⟩
  · have HL := Lib.hid hl
    have HY := Lib.hid (triB_yes hl)
    clear hl
    go_enter Try.func38, Try.ntmps38
    go_wp2_with fail
    refine (implCellsOf_any _ B _ l h).mono ?_
    rintro e w1 ⟨r, P, rfl, hLS, hP, b1⟩
    rw [ceR_yes HL.out] at hP
    rw [HL.out]
    have HF := Lib.hid (show triB l = !decide (∃ k, k < P.length ∧ 3 < (pll P k).length) from HY.out.trans (by
      rw [Bool.eq_iff_iff, Bool.not_eq_true', decide_eq_true_iff, decide_eq_false_iff_not]
      constructor
      · rintro hall ⟨k, hk, h3⟩
        have := hall _ (cell_in hP hk)
        omega
      · intro hno x hx
        obtain ⟨k, hk, rfl⟩ := in_cell hP hx
        have h1 := cell_3 (cell_in hP hk)
        have h2 : ¬ 3 < (pll P k).length := fun h3 => hno ⟨k, hk, h3⟩
        omega))
    go_wp2_with fail
    refine (containsMore_any _ _ _ P hLS).mono ?_
    rintro e w' ⟨rfl, rfl⟩
    obtain ⟨d, hd⟩ : ∃ d, d = decide (∃ k, k < P.length ∧ 3 < (pll P k).length) := ⟨_, rfl⟩
    rw [← hd] at HF ⊢
    clear hd
    go_wp2
    go_ret2
    exact ⟨ret_bb HF.out.symm rfl, b1⟩
theorem caL_in {l : List Tm} {k : Nat} (hk : k < (caL l).length) : gd (caL l) k ∈ caL l := gd_mem hk
theorem in_caL {l : List Tm} {n : Int} (h : n ∈ caL l) : ∃ k, k < (caL l).length ∧ n = gd (caL l) k := by
  obtain ⟨k, hk, rfl⟩ := List.getElem_of_mem h
  exact ⟨k, hk, (gd_eq _ _ hk).symm⟩
set_option maxHeartbeats 1000000 in
set_option maxRecDepth 100000 in
theorem specIsSmooth_any (w : World) (B : Nat) (v : Value) (l : List Tm) (h : TmS w B v l) : Calls Try.prog 39 #[v] w fun e w' => SaysBB (smoB l) (plB l) w e w' := by
  cases hl : plB l
  · have HL := Lib.hid hl
    have HN := Lib.hid (smoB_no hl)
    clear hl
    go_enter Try.func39, Try.ntmps39
    go_wp2_with fail
    refine (plGood_any _ B _ l h).mono ?_
    rintro e w1 ⟨rfl, b1⟩
    rw [HL.out]
    go_wp2
    go_ret2
    exact ⟨ret_bb HN.out.symm rfl, b1⟩
  · have HL := Lib.hid hl
    have HY := Lib.hid (smoB_yes hl)
    clear hl
    go_enter Try.func39, Try.ntmps39
    go_wp2_with fail
    refine (plGood_any _ B _ l h).mono ?_
    rintro e w1 ⟨rfl, b1⟩
    have h1 := FS.below h b1
    rw [HL.out]
    go_wp2_with fail
    refine (ceOf_any w1 B _ l h1 HL.out).mono ?_
    rintro e w2 ⟨r, P, rfl, hLS, hP, b2⟩
    have H2 := Lib.hid (FS.below h1 b2)
    have HB := Lib.hid (bel2 b1 b2)
    obtain ⟨A, cap, rfl, -, hp⟩ := hLS.parts
    have HP := Lib.hid hp
    have HQ := Lib.hid hP
    have HV := Lib.hid hLS.2
    have hle := ceL_len (plB_le HL.out).2
    obtain ⟨n, hn⟩ : ∃ n, n = P.length := ⟨_, rfl⟩
    have hnc : n = (caL l).length := by rw [hn, caL_len, ← hP, lls_len]
    rw [← caL_len, ← hnc] at hle
    have HN := Lib.hid hn
    have HC := Lib.hid hnc
    rw [← hn]
    clear hp hLS hP h h1 b1 b2 hn hnc
    go_wp2
    go_loopw [14] (fun i wr => ∃ k : Nat, k ≤ n ∧ i = .int .i64 k ∧ Hid (∀ m, m < k → gd (caL l) m = 1) ∧ Below w2.heap.size w2 wr) (fun i _ => n - (intOf i).toNat)
    case atStart => exact ⟨0, by omega, rfl, Lib.hid (fun m hm => absurd hm (Nat.not_lt_zero m)), Below.refl _ _⟩
    case round =>
      obtain ⟨k, hk, rfl, hall, hb⟩ := hrel
      by_cases hlt : k < n
      · have hkp : k < P.length := by rw [← HN.out]; exact hlt
        obtain ⟨g, rfl, hc0⟩ := HP.out k hkp
        have hc := X3.below.box_old3 hc0 hb
        have his := (HV.out.at hkp).below hb
        obtain ⟨c1, c2, c3⟩ := cell_ok HQ.out hkp HL.out
        have HG := Lib.hid (caL_gd HQ.out hkp)
        have HI := Lib.hid (caL_in (l := l) (k := k) (by rw [← HC.out]; exact hlt))
        have hsm := hul_sm c3 (cptL_sm HL.out c1)
        have h12 := hul_12 c3 (by rw [cptL_len]; exact c2)
        have htm := FS.below H2.out hb
        obtain ⟨cv, hcv⟩ : ∃ cv, cv = pvl P k := ⟨_, rfl⟩
        obtain ⟨zs, hzs⟩ : ∃ zs, zs = pll P k := ⟨_, rfl⟩
        rw [← hcv] at hc his
        rw [← hzs] at his c1 c2 HG hsm h12
        clear hc0 hcv hzs c3 hkp
        go_wp2_with fail
        refine (cePolygon_any wr B _ _ _ l zs htm his HL.out c1 c2).mono ?_
        rintro e w4 ⟨r4, rfl, hr4, b4⟩
        clear hc
        go_wp2_with fail
        refine (pyArea_any w4 _ _ _ hr4 h12.2 hsm).mono ?_
        rintro e w5 ⟨rfl, b5⟩
        rw [← HG.out]
        have hb' := bel2 hb (bel2 b4 b5)
        obtain ⟨x, hx⟩ : ∃ x, x = gd (caL l) k := ⟨_, rfl⟩
        have HX := Lib.hid hx
        rw [← hx]
        clear hr4 b4 b5 hb his htm hsm h12 c1 c2 HG hx
        by_cases h1 : x = 1
        · subst h1
          have HA := Lib.hid (show ∀ m, m < k + 1 → gd (caL l) m = 1 from fun m hm => by
            rcases Nat.lt_succ_iff_lt_or_eq.1 hm with h | rfl
            · exact hall.out m h
            · exact HX.out.symm)
          go_wp2
          go_roundw
          case rel => exact ⟨k + 1, by omega, by go_num, HA, hb'⟩
          case measure => simp [intOf]; omega
        · have HF := Lib.hid (show smoB l = false from HY.out.trans (by
            rw [Bool.and_eq_false_iff]
            exact .inr (decide_eq_false (fun hall' => h1 (HX.out.trans (hall' _ HI.out))))))
          go_wp2
          go_ret2
          exact ⟨ret_bb HF.out.symm rfl, bel2 HB.out hb'⟩
      · obtain rfl : k = n := by omega
        have HF := Lib.hid (show smoB l = decide (0 < k) from HY.out.trans (by
          rw [← HC.out, decide_eq_true (p := ∀ n ∈ caL l, n = 1) (fun x hx => by
            obtain ⟨m, hm, rfl⟩ := in_caL hx
            exact hall.out m (by rw [HC.out]; exact hm)), Bool.and_true]))
        go_wp2
        go_ret2
        exact ⟨ret_bb (by rw [HF.out, decide_eq_decide] <;> omega) rfl, bel2 HB.out hb⟩
def mxC (zs : List Int) : Nat → Int
  | 0 => gd zs 0
  | k + 1 => max (mxC zs k) (gd zs k)
theorem mxC_1 (zs : List Int) : mxC zs 1 = gd zs 0 := by simp [mxC]
theorem mxC_ge (zs : List Int) : ∀ k m, m < k → gd zs m ≤ mxC zs k
  | k + 1, m, hm => by
    rw [mxC]
    rcases Nat.lt_succ_iff_lt_or_eq.1 hm with h | rfl
    · have := mxC_ge zs k m h; omega
    · omega
theorem mxC_is {zs : List Int} (h0 : 0 < zs.length) : ∀ k, k ≤ zs.length → mxC zs k ∈ zs
  | 0, _ => gd_mem h0
  | k + 1, hk => by
    have ih := mxC_is h0 k (by omega)
    have h2 : gd zs k ∈ zs := gd_mem (by omega)
    rw [mxC]
    rcases Int.le_total (mxC zs k) (gd zs k) with h | h
    · rw [Int.max_eq_right h]; exact h2
    · rw [Int.max_eq_left h]; exact ih
set_option maxHeartbeats 1000000 in
theorem slicesMaxC_any (w : World) (B : Nat) (v : Value) (zs : List Int) (h : IS w B v zs) (h0 : 0 < zs.length) : Calls Try.prog 64 #[v] w fun e w' => e = .returned (.int .i64 (mxC zs zs.length)) ∧ w = w' := by
  obtain ⟨A, cap, rfl, hm, hp⟩ := h.parts
  unfold maxLen at hm
  have HP := Lib.hid hp
  obtain ⟨g, hgA, hc0⟩ := hp 0 h0
  subst hgA
  have hn1 : ¬ (zs.length : Int) < 1 := by omega
  clear hp h
  go_enter Try.func64, Try.ntmps64
  go_wp2
  go_loop [3, 4] (fun m i => ∃ k : Nat, 1 ≤ k ∧ k ≤ zs.length ∧ i = .int .i64 k ∧ m = .int .i64 (mxC zs k)) (fun _ i => zs.length - (intOf i).toNat)
  case atStart => exact ⟨1, by omega, by omega, rfl, by rw [mxC_1]⟩
  case round =>
    obtain ⟨k, hk1, hk, rfl, rfl⟩ := hrel
    by_cases hlt : k < zs.length
    · obtain ⟨g', hg', hc⟩ := HP.out k hlt
      cases hg'
      have HN := Lib.hid (show mxC zs (k + 1) = max (mxC zs k) (gd zs k) from rfl)
      obtain ⟨x, hx⟩ : ∃ x, x = mxC zs k := ⟨_, rfl⟩
      rw [← hx] at HN ⊢
      clear hx
      go_wp2
      all_goals
        go_round
        case rel => exact ⟨k + 1, by omega, by omega, by go_num, by (rw [HN.out]) <;> (first | rfl | (congr 1; omega))⟩
        case measure => simp [intOf]; omega
    · obtain rfl : k = zs.length := by omega
      go_wp2
      go_ret
      exact ⟨rfl, rfl⟩
set_option maxHeartbeats 1000000 in
theorem implIsSmooth_any (w : World) (B : Nat) (v : Value) (l : List Tm) (h : TmS w B v l) : Calls Try.prog 40 #[v] w fun e w' => SaysBB (smoB l) (plB l) w e w' := by
  cases hl : plB l
  · have HL := Lib.hid hl
    have HN := Lib.hid (smoB_no hl)
    clear hl
    go_enter Try.func40, Try.ntmps40
    go_wp2_with fail
    refine (implCellAreas_any _ B _ l h).mono ?_
    rintro e w1 ⟨r, rfl, hr, b1⟩
    rw [HL.out]
    rw [caR_no HL.out] at hr
    obtain ⟨A, cap, rfl, -, -⟩ := hr.parts
    clear hr
    go_wp2
    go_ret2
    exact ⟨ret_bb HN.out.symm rfl, b1⟩
  · have HL := Lib.hid hl
    have HY := Lib.hid (smoB_yes hl)
    clear hl
    go_enter Try.func40, Try.ntmps40
    go_wp2_with fail
    refine (implCellAreas_any _ B _ l h).mono ?_
    rintro e w1 ⟨r, rfl, hr, b1⟩
    rw [HL.out]
    rw [caR_yes HL.out] at hr
    have HR := Lib.hid hr
    obtain ⟨A, cap, rfl, hm, -⟩ := hr.parts
    obtain ⟨n, hn⟩ : ∃ n, n = (caL l).length := ⟨_, rfl⟩
    have HN := Lib.hid hn
    rw [← hn] at hm ⊢
    unfold maxLen at hm
    clear hr hn
    by_cases h0 : n = 0
    · have HF := Lib.hid (show smoB l = false from HY.out.trans (by rw [← HN.out, h0]; rfl))
      subst h0
      go_wp2
      go_ret2
      exact ⟨ret_bb HF.out.symm rfl, b1⟩
    · have hn1 : ¬ ((n : Int) = 0) := by omega
      have h0' : 0 < (caL l).length := by rw [← HN.out]; omega
      have HF := Lib.hid (show smoB l = decide (mxC (caL l) (caL l).length = 1) from HY.out.trans (by
        rw [decide_eq_true h0', Bool.true_and, decide_eq_decide]
        constructor
        · intro hall
          exact hall _ (mxC_is h0' _ (Nat.le_refl _))
        · intro h1 x hx
          have h2 := caL_pos l x hx
          obtain ⟨m, hm, rfl⟩ := in_caL hx
          have := mxC_ge (caL l) _ m hm
          omega))
      go_wp2_with fail
      refine (slicesMaxC_any _ _ _ (caL l) (by rw [HN.out]; exact HR.out) h0').mono ?_
      rintro e w' ⟨rfl, rfl⟩
      obtain ⟨x, hx⟩ : ∃ x, x = mxC (caL l) (caL l).length := ⟨_, rfl⟩
      rw [← hx] at HF ⊢
      clear hx
      go_wp2
      go_ret2
      exact ⟨ret_bb (by rw [HF.out]; first | rfl | (rw [Bool.eq_iff_iff]; simp)) rfl, b1⟩
end Go.Proofs.Ytoecjdpeldcajaa

/-
  Products and moved plane polynomials in the model: what the calls return.
  Condition: the slices read as the lists that are named.
-/
import Derived.Test.YtibdbgeknphljaaPlSpec
namespace Go.Proofs.Ytibdbgeknphljaa
set_option linter.unusedSimpArgs false
set_option linter.unusedVariables false
open Go.ChangeShapes Go.WideShapes Go.ChangeAt Go.RowKit
open Go.Sort (grow)

theorem norm_pr (a b : List Tm) (k j : Nat) (hj : j < b.length) : norm (prT a b k (j + 1)) = putL (norm (prT a b k j)) (pq (td a k) (td b j)) := by
  rw [prT_next a b k j hj, norm_snoc]
def GivesPl (l : List Tm) (w : World) (e : Ending) (w' : World) : Prop := ∃ r, e = .returned r ∧ TmS w' w.heap.size r l ∧ Below w.heap.size w w'
set_option maxHeartbeats 2000000 in
set_option maxRecDepth 100000 in
theorem plProduct_any (w : World) (B B' : Nat) (va vb : Value) (a b : List Tm) (h : TmS w B va a) (h' : TmS w B' vb b) (ha : plB a = true) (hb : plB b = true) : Calls Try.prog 64 #[va, vb] w fun e w' => GivesPl (norm (prA a b)) w e w' := by
  have HA := Lib.hid ha
  have HB := Lib.hid hb
  have hla := (plB_le ha).2
  have hlb := (plB_le hb).2
  obtain ⟨A, cap, rfl, -, hp⟩ := TmS.parts h
  obtain ⟨A', cap', rfl, -, hp'⟩ := TmS.parts h'
  have HP := Lib.hid hp
  have HP' := Lib.hid hp'
  obtain ⟨n, hna⟩ : ∃ n, n = a.length := ⟨_, rfl⟩
  obtain ⟨m, hmb⟩ : ∃ m, m = b.length := ⟨_, rfl⟩
  have HNA := Lib.hid hna
  have HNB := Lib.hid hmb
  rw [← hna] at hla ⊢
  rw [← hmb] at hlb ⊢
  clear ha hb h h' hp hp' hna hmb
  go_enter Try.func64, Try.ntmps64
  go_wp2
  go_loopw [5, 12] (fun o i wr => ∃ k : Nat, k ≤ n ∧ i = .int .i64 k ∧ TmS wr w.heap.size o (norm (prT a b k 0)) ∧ Hid ((norm (prT a b k 0)).length = 0 → o = .slice none 0 0) ∧ Below w.heap.size w wr) (fun _ i _ => n - (intOf i).toNat)
  case atStart => exact ⟨0, by omega, rfl, by rw [prT_0]; exact FS.nil_ _ _ _ _, Lib.hid fun _ => rfl, Below.refl _ _⟩
  case round =>
    obtain ⟨k, hk, rfl, ho, hnil, hb⟩ := hrel
    by_cases hlt : k < n
    · have hka : k < a.length := by rw [← HNA.out]; exact hlt
      obtain ⟨g, rfl, hc0⟩ := HP.out k hka
      obtain ⟨c0, c1, c2⟩ := X3.below hc0 hb
      have hbA := hb.alloc hb.size (.cells #[.int .i64 (td a k).1, .int .i64 (td a k).2.1, .int .i64 (td a k).2.2] 54)
      have hoA := FS.alloc ho (.cells #[.int .i64 (td a k).1, .int .i64 (td a k).2.1, .int .i64 (td a k).2.2] 54)
      have hbx := T3.new wr (td a k) 54
      clear hc0
      go_wp2
      go_loopw [5, 18] (fun o i wq => ∃ W : World, W = wq ∧ ∃ j : Nat, j ≤ m ∧ i = .int .i64 j ∧ TmS wq w.heap.size o (norm (prT a b k j)) ∧ Hid ((norm (prT a b k j)).length = 0 → o = .slice none 0 0) ∧ Hid (T3 wq wr.heap.size (td a k)) ∧ Below w.heap.size w wq) (fun _ i _ => m - (intOf i).toNat)
      case atStart => exact ⟨_, rfl, 0, by omega, rfl, hoA, hnil, Lib.hid hbx, hbA⟩
      case round =>
        obtain ⟨wq, rfl, j, hj, rfl, ho2, hnil2, hbx2, hb2⟩ := hrel
        by_cases hlt2 : j < m
        · have hjb : j < b.length := by rw [← HNB.out]; exact hlt2
          obtain ⟨g2, rfl, hd0⟩ := HP'.out j hjb
          obtain ⟨d0, d1, d2⟩ := X3.below hd0 hb2
          obtain ⟨p0, p1, p2⟩ := hbx2.out
          obtain ⟨q1, q2, q3⟩ := pq_bd (plB_at HA.out hka) (plB_at HB.out hjb)
          have HM := Lib.hid (norm_pr a b k j hjb)
          have hln : (norm (prT a b k j)).length ≤ 1000 := by
            have h0 := norm_len (prT a b k j)
            rw [prT_len a b k j (Nat.le_of_lt hka) (Nat.le_of_lt hjb)] at h0
            have h1 : k * b.length ≤ 12 * 12 := Nat.mul_le_mul (by omega) (by rw [← HNB.out]; exact hlb)
            omega
          have hbB := hb2.alloc hb2.size (.cells #[.int .i64 (td b j).1, .int .i64 (td b j).2.1, .int .i64 (td b j).2.2] 54)
          have hoB := FS.alloc ho2 (.cells #[.int .i64 (td b j).1, .int .i64 (td b j).2.1, .int .i64 (td b j).2.2] 54)
          have hbxB := T3.below hbx2.out ((Below.refl _ _).alloc (Nat.le_refl _) (.cells #[.int .i64 (td b j).1, .int .i64 (td b j).2.1, .int .i64 (td b j).2.2] 54))
          have hq2 : wr.heap.size < wq.heap.size := cell_lt hbx2.out.1
          clear hd0
          go_wp2_with fail
          refine (plPut_all _ _ _ _ (pq (td a k) (td b j)) hoB hln hnil2.out).mono ?_
          rintro e w4 ⟨r, rfl, hr, b4⟩
          rw [← HM.out] at hr
          have hb4 := bel2 hbB b4
          have hbx4 := Lib.hid (T3.below hbxB b4)
          have hp4 := put_pos (norm (prT a b k j)) (pq (td a k) (td b j))
          rw [← HM.out] at hp4
          clear q1 q2 q3
          go_wp2
          go_roundw
          case rel => exact ⟨_, rfl, j + 1, by omega, by go_num, FS.base hr hbB.size, Lib.hid (fun h0 => by omega), hbx4, hb4⟩
          case measure => simp [intOf]; omega
        · obtain rfl : j = m := by omega
          go_wp2
          go_roundw
          case rel => exact ⟨k + 1, by omega, by go_num, by rw [prT_row a b k hka, ← HNB.out]; exact ho2, by rw [prT_row a b k hka, ← HNB.out]; exact hnil2, hb2⟩
          case measure => simp [intOf]; omega
    · obtain rfl : k = n := by omega
      rw [HNA.out, prT_end] at ho
      go_wp2
      go_ret
      exact ⟨_, rfl, ho, hb⟩
theorem specPlaneProduct_any (w : World) (B B' : Nat) (va vb : Value) (a b : List Tm) (h : TmS w B va a) (h' : TmS w B' vb b) : Calls Try.prog 32 #[va, vb] w fun e w' => GivesTmB (ppcB a b) (ppcR a b) w e w' := by
  cases ha : plB a
  · obtain ⟨n1, n2⟩ := ppc_no1 (b := b) ha
    have HA := Lib.hid ha
    have HN1 := Lib.hid n1
    have HN2 := Lib.hid n2
    clear ha n1 n2
    go_enter Try.func32, Try.ntmps32
    go_wp2_with fail
    refine (plGood_any _ B _ a h).mono ?_
    rintro e w1 ⟨rfl, b1⟩
    rw [HA.out]
    go_wp2
    go_ret2
    exact givesTmB_nil HN1.out HN2.out b1
  · cases hb : plB b
    · obtain ⟨n1, n2⟩ := ppc_no2 (a := a) hb
      have HA := Lib.hid ha
      have HB := Lib.hid hb
      have HN1 := Lib.hid n1
      have HN2 := Lib.hid n2
      clear ha hb n1 n2
      go_enter Try.func32, Try.ntmps32
      go_wp2_with fail
      refine (plGood_any _ B _ a h).mono ?_
      rintro e w1 ⟨rfl, b1⟩
      have h1' := FS.below h' b1
      rw [HA.out]
      go_wp2_with fail
      refine (plGood_any _ B' _ b h1').mono ?_
      rintro e w2 ⟨rfl, b2⟩
      rw [HB.out]
      go_wp2
      go_ret2
      exact givesTmB_nil HN1.out HN2.out (bel2 b1 b2)
    · obtain ⟨n1, n2⟩ := ppc_yes ha hb
      have HA := Lib.hid ha
      have HB := Lib.hid hb
      have HN1 := Lib.hid n1
      have HN2 := Lib.hid n2
      clear ha hb n1 n2
      go_enter Try.func32, Try.ntmps32
      go_wp2_with fail
      refine (plGood_any _ B _ a h).mono ?_
      rintro e w1 ⟨rfl, b1⟩
      have h1' := FS.below h' b1
      rw [HA.out]
      go_wp2_with fail
      refine (plGood_any _ B' _ b h1').mono ?_
      rintro e w2 ⟨rfl, b2⟩
      have h2 := FS.below h (bel2 b1 b2)
      have h2' := FS.below h1' b2
      have B2 := bel2 b1 b2
      rw [HB.out]
      go_wp2_with fail
      refine (plProduct_any _ _ _ _ _ a b h2 h2' HA.out HB.out).mono ?_
      rintro e w3 ⟨r, rfl, hr, b3⟩
      have B3 := bel2 B2 b3
      go_wp2_with fail
      refine (plIf_any _ _ _ _ hr).mono ?_
      rintro e w5 ⟨r5, rfl, hr5, b5⟩
      go_wp2
      go_ret2
      exact givesTmB_is HN1.out HN2.out (FS.base hr5 B2.size) (bel2 B3 b5)
theorem mv_next (l : List Tm) (x y : Int) (k : Nat) (hk : k < l.length) : mvL (l.take (k + 1)) x y = mvL (l.take k) x y ++ [mvT x y (td l k)] := by
  rw [take_td l k hk]; simp [mvL]
theorem if_norm {l : List Tm} (h : norm l = l) : plB (norm l) = plB l ∧ npR l = ifL l := by
  constructor
  · rw [h]
  · unfold npR ifL; rw [h]
set_option maxHeartbeats 2000000 in
set_option maxRecDepth 100000 in
theorem specMovePlane_any (w : World) (B : Nat) (v : Value) (l : List Tm) (x y : Int) (h : TmS w B v l) : Calls Try.prog 34 #[v, .int .i64 x, .int .i64 y] w fun e w' => GivesTmB (mvPB l x y) (mvPR l x y) w e w' := by
  cases hl : plB l
  · obtain ⟨n1, n2⟩ := mv_no1 (x := x) (y := y) hl
    have HL := Lib.hid hl
    have HN1 := Lib.hid n1
    have HN2 := Lib.hid n2
    clear hl n1 n2
    go_enter Try.func34, Try.ntmps34
    go_wp2_with fail
    refine (plGood_any _ B _ l h).mono ?_
    rintro e w1 ⟨rfl, b1⟩
    rw [HL.out]
    go_wp2
    go_ret2
    exact givesTmB_nil HN1.out HN2.out b1
  · cases hx : finB x
    · obtain ⟨n1, n2⟩ := mv_no2 (l := l) (y := y) hx
      have HL := Lib.hid hl
      have HX := Lib.hid hx
      have HN1 := Lib.hid n1
      have HN2 := Lib.hid n2
      clear hl hx n1 n2
      go_enter Try.func34, Try.ntmps34
      go_wp2_with fail
      refine (plGood_any _ B _ l h).mono ?_
      rintro e w1 ⟨rfl, b1⟩
      rw [HL.out]
      go_wp2_with fail
      refine (poFinite_any _ _).mono ?_
      rintro e w' ⟨rfl, rfl⟩
      rw [HX.out]
      go_wp2
      go_ret2
      exact givesTmB_nil HN1.out HN2.out b1
    · cases hy : finB y
      · obtain ⟨n1, n2⟩ := mv_no3 (l := l) (x := x) hy
        have HL := Lib.hid hl
        have HX := Lib.hid hx
        have HY := Lib.hid hy
        have HN1 := Lib.hid n1
        have HN2 := Lib.hid n2
        clear hl hx hy n1 n2
        go_enter Try.func34, Try.ntmps34
        go_wp2_with fail
        refine (plGood_any _ B _ l h).mono ?_
        rintro e w1 ⟨rfl, b1⟩
        rw [HL.out]
        go_wp2_with fail
        refine (poFinite_any _ _).mono ?_
        rintro e w' ⟨rfl, rfl⟩
        rw [HX.out]
        go_wp2_with fail
        refine (poFinite_any _ _).mono ?_
        rintro e w' ⟨rfl, rfl⟩
        rw [HY.out]
        go_wp2
        go_ret2
        exact givesTmB_nil HN1.out HN2.out b1
      · obtain ⟨n1, n2⟩ := mv_yes hl hx hy
        obtain ⟨i1, i2⟩ := if_norm (mv_norm hl x y)
        have HL := Lib.hid hl
        have HX := Lib.hid hx
        have HY := Lib.hid hy
        have HN1 := Lib.hid (n1.trans i1)
        have HN2 := Lib.hid (n2.trans i2)
        have H := Lib.hid h
        have hle := (plB_le hl).2
        obtain ⟨A, cap, rfl, -, hp⟩ := TmS.parts h
        have HP := Lib.hid hp
        obtain ⟨n, hn⟩ : ∃ n, n = l.length := ⟨_, rfl⟩
        have HN := Lib.hid hn
        clear hl hx hy n1 n2 i1 i2 h hp
        go_enter Try.func34, Try.ntmps34
        go_wp2_with fail
        refine (plGood_any _ B _ l H.out).mono ?_
        rintro e w1 ⟨rfl, b1⟩
        rw [HL.out]
        go_wp2_with fail
        refine (poFinite_any _ _).mono ?_
        rintro e w' ⟨rfl, rfl⟩
        rw [HX.out]
        go_wp2_with fail
        refine (poFinite_any _ _).mono ?_
        rintro e w' ⟨rfl, rfl⟩
        rw [HY.out]
        rw [← hn] at hle ⊢
        clear hn
        go_wp2
        go_loopw [8, 26] (fun o i wr => ∃ k : Nat, k ≤ n ∧ i = .int .i64 k ∧ TmS wr w.heap.size o (mvL (l.take k) x y) ∧ Hid ((mvL (l.take k) x y).length = 0 → o = .slice none 0 0) ∧ Below w.heap.size w wr) (fun _ i _ => n - (intOf i).toNat)
        case atStart => exact ⟨0, by omega, rfl, (FS.nil_ _ _ _ _ : TmS w1 w.heap.size (.slice none 0 0) []), Lib.hid fun _ => rfl, b1⟩
        case round =>
          obtain ⟨k, hk, rfl, ho, hnil, hb⟩ := hrel
          by_cases hlt : k < n
          · have hkl : k < l.length := by rw [← HN.out]; exact hlt
            obtain ⟨g, rfl, hc0⟩ := HP.out k hkl
            have hc := X3.below hc0 hb
            have hM := mv_next l x y k hkl
            obtain ⟨b1, b2, b3⟩ := tv_bd (plB_at HL.out hkl) ((finB_iff _).1 HX.out) ((finB_iff _).1 HY.out)
            have b4 := (plT_parts (plB_at HL.out hkl)).2.2.2
            have hV : tv (td l k) x y = (td l k).2.2 + (td l k).1 * x + (td l k).2.1 * y := rfl
            unfold mvT at hM
            obtain ⟨X, hX⟩ : ∃ X, X = tv (td l k) x y := ⟨_, rfl⟩
            rw [← hX] at hM b3 hV
            have HM := Lib.hid hM
            clear hM hX
            generalize td l k = t at hc b1 b2 b4 hV HM
            obtain ⟨a, b, c⟩ := t
            dsimp only at hc b1 b2 b4 hV HM
            have q1 : IntKind.i64.wrap (a * x) = a * x := IntWalk.i64_in _ (by omega)
            have q2 : IntKind.i64.wrap (b * y) = b * y := IntWalk.i64_in _ (by omega)
            have q3 : IntKind.i64.wrap (a * x + b * y) = a * x + b * y := IntWalk.i64_in _ (by omega)
            have q4 : IntKind.i64.wrap (c + (a * x + b * y)) = X := by rw [IntWalk.i64_in _ (by omega)]; omega
            have hln : (mvL (l.take k) x y).length ≤ 12 := by rw [mvL_len, List.length_take]; omega
            obtain ⟨c0, c1, c2⟩ := hc
            have hbA := hb.alloc hb.size (.cells #[.int .i64 a, .int .i64 b, .int .i64 X] 54)
            clear hc0 hV b1 b2 b3 b4
            go_wp2_with (at_builtin; refine wpList_append_tm _ rfl _ _ rfl w.heap.size _ (mvL (l.take k) x y).length (flatT (mvL (l.take k) x y)) rfl (FS.alloc (FS.alloc ho _) _) ⟨wr.heap.size + 1, 0, none⟩ _ (a, b, X) rfl (new_tm_at (wr.alloc (.cells #[.int .i64 a, .int .i64 b, .int .i64 X] 54)) (a, b, X) (wr.heap.size + 1) (by rw [World.size_alloc])) (by omega) (by have := hb.size; simp; omega) hnil.out ?_; intro v' w4 hown hgrow hbk)
            have hrow := TmS.snoc hown
            rw [← HM.out] at hrow
            have hb4 : Below w.heap.size w w4 := (hbA.alloc hbA.size _).grown hgrow (by have := hb.size; simp; omega) (fun q hq => (FS.lt ho q hq).1)
            have hnil4 : Hid ((mvL (l.take (k + 1)) x y).length = 0 → v' = .slice none 0 0) := Lib.hid fun h0 => by rw [HM.out] at h0; simp at h0
            clear q1 q2 q3 q4
            go_wp2
            go_roundw
            case rel => exact ⟨k + 1, by omega, by go_num, hrow, hnil4, hb4⟩
            case measure => simp [intOf]; omega
          · obtain rfl : k = n := by omega
            rw [HN.out, List.take_length] at ho
            go_wp2_with fail
            refine (plIf_any _ _ _ _ ho).mono ?_
            rintro e w5 ⟨r5, rfl, hr5, b5⟩
            go_wp2
            go_ret2
            exact givesTmB_is HN1.out HN2.out hr5 (bel2 hb b5)
end Go.Proofs.Ytibdbgeknphljaa

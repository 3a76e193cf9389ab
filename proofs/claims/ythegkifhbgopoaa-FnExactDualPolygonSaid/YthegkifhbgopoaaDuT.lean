/-
  The corners of dual polygons in the model: what the calls return.
  Condition: the slice reads as the list that is named.
-/
import Derived.Test.YthegkifhbgopoaaDuS
namespace Go.Proofs.Ythegkifhbgopoaa
set_option linter.unusedSimpArgs false
set_option linter.unusedVariables false
open Go.ChangeShapes Go.WideShapes Go.ChangeAt Go.RowKit
open Go.Sort (grow)

theorem lessI_min (a b : Int) : lessI a b = min a b := by unfold lessI; split <;> omega
theorem tabP_next (f : Nat → Pt) (n : Nat) : tabP f (n + 1) = tabP f n ++ [f n] := by simp [tabP, List.range_succ]
/-- A corner by the sums of sides. -/
def crF (d : List Pt) (k : Nat) : Pt := (psF Prod.fst d k, psF Prod.snd d k)
/-- The corners of the model, from the first one on. -/
def csF (d : List Pt) (k : Nat) : Pt := (psF Prod.fst d ((fsA (psF Prod.fst d) (psF Prod.snd d) d.length + k) % d.length) - mnA (psF Prod.fst d) d.length, psF Prod.snd d ((fsA (psF Prod.fst d) (psF Prod.snd d) d.length + k) % d.length) - mnA (psF Prod.snd d) d.length)
theorem csF_all (d : List Pt) : tabP (csF d) d.length = corS d := rfl
set_option maxHeartbeats 8000000 in
set_option maxRecDepth 100000 in
theorem stDual_any (w : World) (B : Nat) (v : Value) (l : List Tm) (h : RyS w B v l) (hl : ryB l = true) (h0 : 0 < l.length) : Calls Try.prog 84 #[v] w fun e w' => GivesPt (corS (duS l)) w e w' := by
  have HSM := Lib.hid (show ∀ a ∈ duS l, Sm 400 a from fun a ha => sdL_sm hl a ((duS_perm l).mem_iff.1 ha))
  have HDL0 : (duS l).length = l.length := insA_len _ _ _
  have hle := ryB_le hl
  have HSD := Lib.hid (stSides_any w B v l h hl)
  obtain ⟨D, hD⟩ : ∃ D, D = duS l := ⟨_, rfl⟩
  rw [← hD] at HSM HDL0 HSD ⊢
  obtain ⟨n, hn⟩ : ∃ n, n = D.length := ⟨_, rfl⟩
  have HDL := Lib.hid hn.symm
  have hn0 : 0 < n := by omega
  have hn10 : n ≤ 10 := by omega
  have HBX := Lib.hid (show ∀ k, k ≤ n → (-4000 ≤ psF Prod.fst D k ∧ psF Prod.fst D k ≤ 4000) ∧ (-4000 ≤ psF Prod.snd D k ∧ psF Prod.snd D k ≤ 4000) from fun k hk => by
    have a1 := psF_bd (f := Prod.fst) (l := D) (fun a ha => by have := HSM.out a ha; unfold Sm at this; omega) k (by omega)
    have a2 := psF_bd (f := Prod.snd) (l := D) (fun a ha => by have := HSM.out a ha; unfold Sm at this; omega) k (by omega)
    omega)
  have HMX := Lib.hid (show ∀ k, k ≤ n → -4000 ≤ mnA (psF Prod.fst D) k ∧ mnA (psF Prod.fst D) k ≤ 0 from fun k hk => mnA_bd (by omega) k fun i hi => (HBX.out i (by omega)).1.1)
  have HMY := Lib.hid (show ∀ k, k ≤ n → -4000 ≤ mnA (psF Prod.snd D) k ∧ mnA (psF Prod.snd D) k ≤ 0 from fun k hk => mnA_bd (by omega) k fun i hi => (HBX.out i (by omega)).2.1)
  obtain ⟨i0, hi, hz0, hz1, hz2⟩ := info_parts infoPoint
  clear h hl h0 hle HDL0 hD hn HSM
  go_enter Try.func84, Try.ntmps84
  go_wp2_with fail
  refine HSD.out.mono ?_
  rintro e w1 ⟨r, rfl, hr, b1⟩
  obtain ⟨A, cap, rfl, hm, hp⟩ := PtS.parts hr
  have HP := Lib.hid hp
  rw [HDL.out] at hm ⊢
  unfold maxLen at hm
  have HB1 := Lib.hid b1
  have hw1 := b1.size
  clear hr hp b1
  go_wp2
  go_loopw [3, 4, 5, 6, 7, 19] (fun o x y lx ly i wr => ∃ k : Nat, k ≤ n ∧ i = .int .i64 k ∧ x = .int .i64 (psF Prod.fst D k) ∧ y = .int .i64 (psF Prod.snd D k) ∧ lx = .int .i64 (mnA (psF Prod.fst D) k) ∧ ly = .int .i64 (mnA (psF Prod.snd D) k) ∧ PtS wr w1.heap.size o (tabP (crF D) k) ∧ Below w1.heap.size w1 wr) (fun _ _ _ _ _ i _ => n - (intOf i).toNat)
  case atStart => exact ⟨0, by omega, rfl, rfl, rfl, rfl, rfl, FS.nil_ _ _ _ _, Below.refl _ _⟩
  case round =>
    obtain ⟨k, hk, rfl, rfl, rfl, rfl, rfl, ho, hb⟩ := hrel
    by_cases hlt : k < n
    · obtain ⟨g, rfl, hc0⟩ := HP.out k (by rw [HDL.out]; exact hlt)
      obtain ⟨c0, c1⟩ := X2.below hc0 hb
      have bx := HBX.out k (by omega)
      have bx2 := HBX.out (k + 1) (by omega)
      have e1 := psF_next Prod.fst D k (by rw [HDL.out]; exact hlt)
      have e2 := psF_next Prod.snd D k (by rw [HDL.out]; exact hlt)
      have m1 : mnA (psF Prod.fst D) (k + 1) = lessI (mnA (psF Prod.fst D) k) (psF Prod.fst D (k + 1)) := by rw [lessI_min]; rfl
      have m2 : mnA (psF Prod.snd D) (k + 1) = lessI (mnA (psF Prod.snd D) k) (psF Prod.snd D (k + 1)) := by rw [lessI_min]; rfl
      rw [e1] at m1
      rw [e2] at m2
      rw [e1, e2] at bx2
      have HE := Lib.hid (And.intro e1 (And.intro e2 (And.intro m1 m2)))
      have HT := Lib.hid (show tabP (crF D) (k + 1) = tabP (crF D) k ++ [(psF Prod.fst D k, psF Prod.snd D k)] from tabP_next _ _)
      have hlen : (tabP (crF D) k).length = k := tabP_len _ _
      obtain ⟨qx, qy, hq⟩ : ∃ qx qy, pd D k = (qx, qy) := ⟨_, _, rfl⟩
      rw [hq] at c0 c1 bx2 HE
      dsimp only at c0 c1 bx2
      obtain ⟨X, hX⟩ : ∃ X, X = psF Prod.fst D k := ⟨_, rfl⟩
      obtain ⟨Y, hY⟩ : ∃ Y, Y = psF Prod.snd D k := ⟨_, rfl⟩
      obtain ⟨MX, hMX⟩ : ∃ M, M = mnA (psF Prod.fst D) k := ⟨_, rfl⟩
      obtain ⟨MY, hMY⟩ : ∃ M, M = mnA (psF Prod.snd D) k := ⟨_, rfl⟩
      rw [← hX, ← hMX] at HE
      rw [← hY, ← hMY] at HE
      rw [← hX, ← hY] at HT bx2 bx ⊢
      rw [← hMX, ← hMY]
      have w1' : IntKind.i64.wrap (X + qx) = X + qx := IntWalk.i64_in _ (by omega)
      have w2' : IntKind.i64.wrap (Y + qy) = Y + qy := IntWalk.i64_in _ (by omega)
      have HL := Lib.hid (fun a b W => l1Least_any a b W)
      have hgl : g < wr.heap.size := cell_lt c0
      have hs := hb.size
      have hbA := hb.alloc hb.size (.cells #[.int .i64 qx, .int .i64 qy] 108)
      have ho' : wr.ownsRow w1.heap.size 108 2 u3 k (ints (flatP (tabP (crF D) k))) := by have := ho; unfold PtS FS at this; rwa [hlen] at this
      clear hc0 e1 e2 m1 m2 hq hX hY hMX hMY bx bx2 ho hlen
      go_upto_region 7 with (at_builtin; refine wpList_append_own _ rfl _ _ 66 rfl w1.heap.size 108 i0 (.agg #[.int .i64 0, .int .i64 0]) 2 16 Try.underlying66 hi hz0 hz1 hz2 rfl (by decide) _ k _ rfl ((ho'.alloc _).alloc _) ⟨wr.heap.size + 1, 0, none⟩ 1 1 (ints (encP (X, Y))) rfl rfl (P2.news (litP_new2 wr _ (X, Y))) (onesP _) (by unfold maxLen; omega) (by omega) (by simp; omega) ?_; intro v' w2 hown' hgrow hnil)
      have hb' : Below w1.heap.size w1 w2 := (hbA.alloc hbA.size _).grown hgrow (by simp; omega) (fun g' hg' => (World.ownsRow.lt ho' g' hg').1)
      have hrow := Lib.hid (show PtS w2 w1.heap.size v' (tabP (crF D) (k + 1)) from by
        unfold PtS
        rw [HT.out, flatP_snoc, List.length_append, tabP_len]
        exact FS.snoc hown')
      have hbx : P2 w2 wr.heap.size (qx, qy) := by
        have h1 := (P2.new wr (qx, qy) 108).alloc (.cells #[.int .i64 X, .int .i64 Y] 108)
        exact ⟨hgrow.cell h1.1 (fun e => by have := (World.ownsRow.lt ho' _ e.symm).2; simp at this), hgrow.cell h1.2 (fun e => by have := (World.ownsRow.lt ho' _ e.symm).2; simp at this)⟩
      obtain ⟨y0, y1⟩ := hbx
      dsimp only at y0 y1
      have hyl := cell_lt y0
      have hbL := Lib.hid hb'
      clear hown' hgrow ho' c0 c1 hbA hb' hnil
      generalize w2 = W2 at y0 y1 hyl hrow hbL ⊢
      go_wp2_with fail
      refine (HL.out _ _ _).mono ?_
      rintro e w' ⟨rfl, rfl⟩
      go_wp2_with fail
      refine (HL.out _ _ _).mono ?_
      rintro e w' ⟨rfl, rfl⟩
      go_wp2
      go_roundw
      case rel => exact ⟨k + 1, by omega, by go_num, by rw [HE.out.1], by rw [HE.out.2.1], by rw [HE.out.2.2.1], by rw [HE.out.2.2.2], hrow.out, hbL.out⟩
      case measure => simp [intOf]; omega
    · obtain rfl : k = n := by omega
      have hlen : (tabP (crF D) k).length = k := tabP_len _ _
      obtain ⟨A3, cap3, rfl, hm3, hp3⟩ := PtS.parts ho
      rw [hlen] at hm3 ⊢
      have HC := Lib.hid (fun j (hj : j < k) => show ∃ g, A3 = some ⟨g, 0, none⟩ ∧ X2 wr g (j * 2) (psF Prod.fst D j, psF Prod.snd D j) from by
        obtain ⟨g, e, hx⟩ := hp3 j (by rw [hlen]; exact hj)
        rw [tabP_pd _ hj] at hx
        exact ⟨g, e, hx⟩)
      have HB2 := Lib.hid (bel2 HB1.out hb)
      have hs2 := hb.size
      obtain ⟨LX, hLX⟩ : ∃ M, M = mnA (psF Prod.fst D) k := ⟨_, rfl⟩
      obtain ⟨LY, hLY⟩ : ∃ M, M = mnA (psF Prod.snd D) k := ⟨_, rfl⟩
      have HLX := Lib.hid hLX
      have HLY := Lib.hid hLY
      have HLB := Lib.hid (And.intro (HMX.out k (Nat.le_refl _)) (HMY.out k (Nat.le_refl _)))
      rw [← hLX, ← hLY] at HLB
      rw [← hLX, ← hLY]
      unfold maxLen at hm3
      obtain ⟨W3, hW3⟩ : ∃ W, W = wr := ⟨_, rfl⟩
      rw [← hW3] at HC HB2 ⊢
      clear ho hp3 hlen hb hs2 hLX hLY hW3 hlt
      go_wp2
      go_loopw [10, 46] (fun f i wr => ∃ j : Nat, j ≤ k ∧ i = .int .i64 j ∧ f = .int .i64 (fsA (psF Prod.fst D) (psF Prod.snd D) j) ∧ Below W3.heap.size W3 wr) (fun _ i _ => k - (intOf i).toNat)
      case atStart => exact ⟨0, by omega, rfl, rfl, Below.refl _ _⟩
      case round =>
        obtain ⟨j, hj, rfl, rfl, hb⟩ := hrel
        by_cases hlt : j < k
        · obtain ⟨m, hm⟩ : ∃ m, m = fsA (psF Prod.fst D) (psF Prod.snd D) j := ⟨_, rfl⟩
          have hmk : m < k := by
            rcases Nat.eq_zero_or_pos j with h | h
            · rw [hm, h]; show 0 < k; omega
            · have := fsA_lt (f := psF Prod.fst D) (g := psF Prod.snd D) j h; omega
          obtain ⟨g, rfl, hx0⟩ := HC.out j hlt
          obtain ⟨g', hg', hm0⟩ := HC.out m hmk
          cases hg'
          have HF := Lib.hid (show fsA (psF Prod.fst D) (psF Prod.snd D) (j + 1) = if psF Prod.fst D j < psF Prod.fst D m ∨ (psF Prod.fst D j = psF Prod.fst D m ∧ psF Prod.snd D j < psF Prod.snd D m) then j else m by rw [hm]; rfl)
          rw [← hm]
          have hx1 := X2.below hx0 hb
          have hm1 := X2.below hm0 hb
          generalize psF Prod.fst D j = a at hx1 HF
          generalize psF Prod.snd D j = b at hx1 HF
          generalize psF Prod.fst D m = c at hm1 HF
          generalize psF Prod.snd D m = d at hm1 HF
          have hbox := P2.new wr (a, b) 108
          have hbA := hb.alloc hb.size (.cells #[.int .i64 a, .int .i64 b] 108)
          have hx2 := X2.below hx1 ((Below.refl _ _).alloc (Nat.le_refl _) (.cells #[.int .i64 a, .int .i64 b] 108))
          have hm2 := X2.below hm1 ((Below.refl _ _).alloc (Nat.le_refl _) (.cells #[.int .i64 a, .int .i64 b] 108))
          obtain ⟨c0, c1⟩ := hx1
          dsimp only at c0 c1
          have hgl := cell_lt c0
          have z1 : ((m : Nat) : Int) < (k : Int) := by omega
          have z2 : (0 : Int) ≤ ((m : Nat) : Int) := by omega
          clear hx0 hm0 hm hm1
          go_upto_region 16 with fail
          generalize wr.alloc (.cells #[.int .i64 a, .int .i64 b] 108) = W0 at hbox hbA hx2 hm2 ⊢
          clear c0 c1 hgl hb
          obtain ⟨e0, e1⟩ := hbox
          obtain ⟨d0, d1⟩ := hm2
          dsimp only at e0 e1 d0 d1
          have hl0 := cell_lt e0
          have hl1 := cell_lt d0
          by_cases h1 : a < c
          · have HE := Lib.hid (HF.out.trans (if_pos (.inl h1)))
            go_wp2
            go_quiet (fail)
            go_wp2
            go_roundw
            case rel => exact ⟨j + 1, by omega, by go_num, by rw [HE.out], belN hbA _⟩
            case measure => simp [intOf]; omega
          · have g1 : decide (a < c) = false := decide_eq_false h1
            by_cases h2 : a = c
            · subst h2
              have g2 : (a == a) = true := by simp
              by_cases h3 : b < d
              · have HE := Lib.hid (HF.out.trans (if_pos (.inr ⟨rfl, h3⟩)))
                clear h1
                go_wp2
                go_quiet (fail)
                go_wp2
                go_roundw
                case rel => exact ⟨j + 1, by omega, by go_num, by rw [HE.out], belN hbA _⟩
                case measure => simp [intOf]; omega
              · have HE := Lib.hid (HF.out.trans (if_neg (by omega)))
                have g3 : decide (b < d) = false := decide_eq_false h3
                clear h1 h3
                go_wp2
                go_quiet (fail)
                go_wp2
                go_roundw
                case rel => exact ⟨j + 1, by omega, by go_num, by rw [HE.out], belN hbA _⟩
                case measure => simp [intOf]; omega
            · have h2' : (a == c) = false := by simpa using h2
              have g2 : decide (a = c) = false := decide_eq_false h2
              have HE := Lib.hid (HF.out.trans (if_neg (by omega)))
              clear h1 h2
              go_wp2
              go_quiet (fail)
              go_wp2
              go_roundw
              case rel => exact ⟨j + 1, by omega, by go_num, by rw [HE.out], belN hbA _⟩
              case measure => simp [intOf]; omega
        · obtain rfl : j = k := by omega
          obtain ⟨F, hF⟩ : ∃ F, F = fsA (psF Prod.fst D) (psF Prod.snd D) j := ⟨_, rfl⟩
          have hFj : F < j := by rw [hF]; exact fsA_lt j hn0
          have HFE := Lib.hid hF
          have HB4 := Lib.hid (bel2 HB2.out hb)
          have hb4s := hb.size
          have HBW := Lib.hid hb
          rw [← hF]
          clear hF hlt hb
          obtain ⟨W4, hW4⟩ : ∃ W, W = wr := ⟨_, rfl⟩
          rw [← hW4] at HB4 HBW hb4s ⊢
          clear hW4
          go_wp2
          go_loopw [13, 83] (fun o i wr => ∃ q : Nat, q ≤ j ∧ i = .int .i64 q ∧ PtS wr W4.heap.size o (tabP (csF D) q) ∧ Below W4.heap.size W4 wr) (fun _ i _ => j - (intOf i).toNat)
          case atStart => exact ⟨0, by omega, rfl, FS.nil_ _ _ _ _, Below.refl _ _⟩
          case round =>
            obtain ⟨q, hq, rfl, ho, hb⟩ := hrel
            by_cases hlt : q < j
            · obtain ⟨R, hR⟩ : ∃ R, R = (F + q) % j := ⟨_, rfl⟩
              have hRj : R < j := by rw [hR]; exact Nat.mod_lt _ (by omega)
              obtain ⟨g, rfl, hx0⟩ := HC.out R hRj
              have hx1 := X2.below (X2.below hx0 HBW.out) hb
              have HT := Lib.hid (show tabP (csF D) (q + 1) = tabP (csF D) q ++ [(psF Prod.fst D R - LX, psF Prod.snd D R - LY)] by
                rw [tabP_next]
                unfold csF
                rw [HDL.out, ← HFE.out, ← hR, ← HLX.out, ← HLY.out])
              have bx := HBX.out R (by omega)
              have q1 : IntKind.i64.wrap ((F : Int) + (q : Int)) = ((F + q : Nat) : Int) := by rw [IntWalk.i64_in _ (by omega)]; omega
              have q2 : ((F + q : Nat) : Int).tmod (j : Int) = ((R : Nat) : Int) := by rw [hR]; rfl
              have q3 : ((j : Int) == 0) = false := by simp; omega
              have q4 : ¬ (j : Int) = 0 := by omega
              have q5 : IntKind.i64.wrap ((R : Nat) : Int) = ((R : Nat) : Int) := IntWalk.i64_in _ (by omega)
              have q6 : ¬ j = 0 := by omega
              have q7 : (F + q) % j = R := hR.symm
              have q8 : ((F : Int) + (q : Int)) % (j : Int) = (R : Int) := by rw [hR]; rfl
              have z1 : ((R : Nat) : Int) < (j : Int) := by omega
              have z2 : (0 : Int) ≤ ((R : Nat) : Int) := by omega
              obtain ⟨X, hX⟩ : ∃ X, X = psF Prod.fst D R := ⟨_, rfl⟩
              obtain ⟨Y, hY⟩ : ∃ Y, Y = psF Prod.snd D R := ⟨_, rfl⟩
              rw [← hX, ← hY] at hx1 HT bx
              have w1' : IntKind.i64.wrap (X - LX) = X - LX := IntWalk.i64_in _ (by have := HLB.out; omega)
              have w2' : IntKind.i64.wrap (Y - LY) = Y - LY := IntWalk.i64_in _ (by have := HLB.out; omega)
              obtain ⟨c0, c1⟩ := hx1
              dsimp only at c0 c1
              have hgl := cell_lt c0
              have hs := hb.size
              have hbA := hb.alloc hb.size (.cells #[.int .i64 X, .int .i64 Y] 108)
              have ho' : wr.ownsRow W4.heap.size 108 2 u13 q (ints (flatP (tabP (csF D) q))) := by have := ho; unfold PtS FS at this; rwa [tabP_len] at this
              clear hx0 hR hX hY bx ho
              go_wp2_with (at_builtin; refine wpList_append_own _ rfl _ _ 66 rfl W4.heap.size 108 i0 (.agg #[.int .i64 0, .int .i64 0]) 2 16 Try.underlying66 hi hz0 hz1 hz2 rfl (by decide) _ q _ rfl ((ho'.alloc _).alloc _) ⟨wr.heap.size + 1, 0, none⟩ 1 1 (ints (encP (X - LX, Y - LY))) rfl rfl (P2.news (litP_new2 wr _ (X - LX, Y - LY))) (onesP _) (by unfold maxLen; omega) (by omega) (by simp; omega) ?_; intro v' w5 hown' hgrow hnil)
              have hb' : Below W4.heap.size W4 w5 := (hbA.alloc hbA.size _).grown hgrow (by simp; omega) (fun g' hg' => (World.ownsRow.lt ho' g' hg').1)
              have hrow := Lib.hid (show PtS w5 W4.heap.size v' (tabP (csF D) (q + 1)) from by
                unfold PtS
                rw [HT.out, flatP_snoc, List.length_append, tabP_len]
                exact FS.snoc hown')
              clear hown' hgrow ho' q1 q2 q3 q5 w1' w2'
              go_wp2
              go_roundw
              case rel => exact ⟨q + 1, by omega, by go_num, hrow.out, hb'⟩
              case measure => simp [intOf]; omega
            · obtain rfl : q = j := by omega
              have e : tabP (csF D) q = corS D := by rw [← csF_all, HDL.out]
              rw [e] at ho
              go_wp2
              go_ret
              exact ⟨_, rfl, FS.base ho HB4.out.size, bel2 HB4.out hb⟩
end Go.Proofs.Ythegkifhbgopoaa

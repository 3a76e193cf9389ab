/-
  For all drawn numbers: what is told of products, quotients, powers, sums and texts holds.
  No condition but that the tables and the sentinels of the program and of Go's library hold what the program's text lays there (the card ties them).
-/
import Derived.Test.YtmeabhfhjnabdaaDoorRows
import Derived.WalkKit
import Derived.ProofKit
import Derived.OpenShut
import Derived.ShutString
import Derived.ChangeOld
import Derived.Below
import Derived.Test.YtmeabhfhjnabdaaDoorLawA
import Derived.Deep.DeepCutAuto
import Derived.LaidMore
import Derived.Stop.Joined
import Derived.OpenVars
import Derived.Lib.LaidTab
import Derived.MakeChecks
namespace Go.Proofs.YtmeabhfhjnabdaaDoor.fnNumbers
open Go.ChangeShapes Go.WideShapes Go.ChangeAt Go.RowKit
open Go.ChangeMaps (open_string shut_string)
set_option linter.unusedVariables false



/-- What the condition gives: the tables' cells, the two sentinels. -/
theorem laid_of {W : World} (h : laidMetH Tryd.prog Rows.fnNumbersRow.laid W) : Tabs W := by
  rw [MakeChecks.laidMetH_plain _ _ _ (by kernel_rfl)] at h
  have h2 := laidMet.tail (laidMet.tail h)
  have h3 := laidMet.tail h2
  have h4 := laidMet.tail h3
  have h5 := laidMet.tail h4
  exact ⟨neut_of_head h5, names_of_laid (laidMet.tail h5), pows_of_laid h2, syntax_of_laid h4, range_of_laid h3⟩
theorem text_size {a : Int} (h : numB a = true) : (ByteArray.mk (ntL a).toArray).size ≤ 1000000000 := by
  have := numText_len h
  rw [show ntL a = numText a from if_pos h]
  omega
theorem pways (n k : Int) : tPowB n k = false ∨ (tPowB n k = true ∧ k ≤ 0) ∨ (tPowB n k = true ∧ 0 < k ∧ k ≤ 20 ∧ tPowB n (k - 1) = true ∧ tProdB (tPow n (k - 1)) n = true ∧ tProd (tPow n (k - 1)) n = tPow n k) := by
  cases h : tPowB n k
  · exact .inl rfl
  · by_cases hk : 0 < k
    · have hp := pow_less h hk
      have hb : k ≤ 20 := by unfold tPowB at h; simp at h; exact ((inB_iff _ _ _).1 h.2.1).2
      exact .inr (.inr ⟨rfl, hk, hb, hp.1, hp.2.1, hp.2.2⟩)
    · exact .inr (.inl ⟨rfl, by omega⟩)
/-- The ways that two drawn numbers part into. -/
theorem ways (a b : Int) :
    (numB a = false ∧ tProdB a b = false) ∨ (numB a = true ∧ numB b = false ∧ tProdB a b = false) ∨
    (numB a = true ∧ numB b = true ∧ tProdB a b = false ∧ tSum a b = a ∧ a ≤ b) ∨ (numB a = true ∧ numB b = true ∧ tProdB a b = false ∧ tSum a b = b ∧ (b != a) = true ∧ b < a) ∨
    (numB a = true ∧ numB b = true ∧ tProdB a b = true ∧ tProdB b a = true ∧ tProd b a = tProd a b ∧ numB (tProd a b) = true ∧ (b != 1000000000) = false ∧ tSum a b = a ∧ a ≤ b) ∨
    (numB a = true ∧ numB b = true ∧ tProdB a b = true ∧ tProdB b a = true ∧ tProd b a = tProd a b ∧ numB (tProd a b) = true ∧ (b != 1000000000) = false ∧ tSum a b = b ∧ (b != a) = true ∧ b < a) ∨
    (numB a = true ∧ numB b = true ∧ tProdB a b = true ∧ tProdB b a = true ∧ tProd b a = tProd a b ∧ numB (tProd a b) = true ∧ (b != 1000000000) = true ∧ tQuoB (tProd a b) b = true ∧ tQuo (tProd a b) b = a ∧ tSum a b = a ∧ a ≤ b) ∨
    (numB a = true ∧ numB b = true ∧ tProdB a b = true ∧ tProdB b a = true ∧ tProd b a = tProd a b ∧ numB (tProd a b) = true ∧ (b != 1000000000) = true ∧ tQuoB (tProd a b) b = true ∧ tQuo (tProd a b) b = a ∧ tSum a b = b ∧ (b != a) = true ∧ b < a) := by
  cases hA : numB a
  · exact .inl ⟨rfl, by simp [tProdB, hA]⟩
  · cases hB : numB b
    · exact .inr (.inl ⟨rfl, rfl, by simp [tProdB, hB]⟩)
    · have hs : (tSum a b = a ∧ a ≤ b) ∨ (tSum a b = b ∧ (b != a) = true ∧ b < a) := by
        have ht : tSum a b = lessI a b := if_pos ⟨hA, hB⟩
        rw [ht]
        unfold lessI
        by_cases h : a ≤ b
        · left
          split <;> omega
        · right
          rw [if_neg (by omega)]
          exact ⟨rfl, by simp; omega, by omega⟩
      cases hP : tProdB a b
      · rcases hs with ⟨h1, h2⟩ | ⟨h1, h2, h3⟩
        · exact .inr (.inr (.inl ⟨rfl, rfl, rfl, h1, h2⟩))
        · exact .inr (.inr (.inr (.inl ⟨rfl, rfl, rfl, h1, h2, h3⟩)))
      · have hc1 : tProdB b a = true := by rw [prodB_comm]; exact hP
        have hp := prodB_parts hP
        have hn : numB (tProd a b) = true := by rw [hp.2.2.2]; exact hp.2.2.1
        cases hi : b == 1000000000
        · have hq := quo_undo hP hi
          have hne : (b != 1000000000) = true := by simp [bne, hi]
          rcases hs with ⟨h1, h2⟩ | ⟨h1, h2, h3⟩
          · exact .inr (.inr (.inr (.inr (.inr (.inr (.inl ⟨rfl, rfl, rfl, hc1, prod_comm a b, hn, hne, hq.1, hq.2, h1, h2⟩))))))
          · exact .inr (.inr (.inr (.inr (.inr (.inr (.inr ⟨rfl, rfl, rfl, hc1, prod_comm a b, hn, hne, hq.1, hq.2, h1, h2, h3⟩))))))
        · have hne : (b != 1000000000) = false := by simp [bne, hi]
          rcases hs with ⟨h1, h2⟩ | ⟨h1, h2, h3⟩
          · exact .inr (.inr (.inr (.inr (.inl ⟨rfl, rfl, rfl, hc1, prod_comm a b, hn, hne, h1, h2⟩))))
          · exact .inr (.inr (.inr (.inr (.inr (.inl ⟨rfl, rfl, rfl, hc1, prod_comm a b, hn, hne, h1, h2, h3⟩)))))
set_option maxRecDepth 100000
set_option maxHeartbeats 4000000 in

theorem walk (a0 : Option Addr) (len0 cap0 : Nat) (z0 : List Int) (a1 : Option Addr) (len1 cap1 : Nat) (z1 : List Int) (w : World) (w0 : IsRow .u8 w a0 len0 cap0 z0) (w1 : IsRow .u8 w a1 len1 cap1 z1) (hN : Tabs w) :
    Calls Tryd.prog 3 #[.slice a0 len0 cap0, .slice a1 len1 cap1] w fun e w' => e = .returned (.bool true) ∧ Below w.heap.size w w' := by
  have hl0 : len0 ≤ 9223372036854775807 := by
    rcases w0 with ⟨_, h, _⟩ | ⟨x, _, h1, h2, _⟩
    · omega
    · unfold maxLen at h2; omega
  have hl1 : len1 ≤ 9223372036854775807 := by
    rcases w1 with ⟨_, h, _⟩ | ⟨x, _, h1, h2, _⟩
    · omega
    · unfold maxLen at h2; omega
  have hR := Lib.hid (RB.of_row w0)
  have hR' := Lib.hid (RB.of_row w1)
  have HN := Lib.hid hN
  clear hN w0 w1
  by_cases hbig : 1048576 < len0 + len1
  · go_enter Tryd.func3, Tryd.ntmps3
    go_wp2_with fail
    refine (big_any _ _ _ _ _ _ hl0 hl1 _).mono ?_
    rintro e w' ⟨rfl, rfl⟩
    rw [decide_eq_true hbig]
    go_wp2_with fail
    go_ret
    exact ⟨rfl, Below.refl _ _⟩
  · have hb0 : len0 ≤ 1048576 := by omega
    have hb1 : len1 ≤ 1048576 := by omega
    go_enter Tryd.func3, Tryd.ntmps3
    go_wp2_with fail
    refine (big_any _ _ _ _ _ _ hl0 hl1 _).mono ?_
    rintro e w' ⟨rfl, rfl⟩
    rw [decide_eq_false hbig]
    clear hbig
    go_wp2_with fail
    refine (drawTropProduct_any _ _ _ _ hR.out hb0).mono ?_
    rintro e v1 ⟨a, b, rfl, b1⟩
    go_upto_region 10 with (first | (go_at_call 7; refine (implTropProduct_any _ _ _).mono ?_; rintro e w' ⟨rfl, rfl⟩) | (go_at_call 8; refine (specTropProduct_any _ _ _).mono ?_; rintro e w' ⟨rfl, rfl⟩) | (go_at_call 9; refine (implTropSum_any _ _ _).mono ?_; rintro e w' ⟨rfl, rfl⟩) | (go_at_call 10; refine (specTropSum_any _ _ _).mono ?_; rintro e w' ⟨rfl, rfl⟩) | (go_at_call 11; refine (implTropQuotient_any _ _ _).mono ?_; rintro e w' ⟨rfl, rfl⟩) | (go_at_call 12; refine (specTropQuotient_any _ _ _).mono ?_; rintro e w' ⟨rfl, rfl⟩) | (go_at_call 13; refine (isNumber_any _ _).mono ?_; rintro e w' ⟨rfl, rfl⟩))
    go_cut [8, 10, 11, 12, 13, 14, 132] (fun s8 s10 s11 s12 s13 s14 c wx => s8 = .bool (tProdB a b) ∧ s10 = .bool (tProdB a b) ∧ s11 = .int .i64 (tSum a b) ∧ s12 = .bool (numB a && numB b) ∧ s13 = .int .i64 (tSum a b) ∧ s14 = .bool (numB a && numB b) ∧ c = .bool false ∧ wx = v1)
    case first =>
      rcases ways a b with ⟨hA, hP⟩ | ⟨hA, hB, hP⟩ | ⟨hA, hB, hP, hs, hlt⟩ | ⟨hA, hB, hP, hs, hne, hlt⟩ | ⟨hA, hB, hP, c1, c2, c3, hi, hs, hlt⟩ | ⟨hA, hB, hP, c1, c2, c3, hi, hs, hne, hlt⟩ | ⟨hA, hB, hP, c1, c2, c3, hi, q1, q2, hs, hlt⟩ | ⟨hA, hB, hP, c1, c2, c3, hi, q1, q2, hs, hne, hlt⟩
      all_goals
        as_aux_lemma =>
          go_wp2_with (first | (go_at_call 7; refine (implTropProduct_any _ _ _).mono ?_; rintro e w' ⟨rfl, rfl⟩) | (go_at_call 8; refine (specTropProduct_any _ _ _).mono ?_; rintro e w' ⟨rfl, rfl⟩) | (go_at_call 9; refine (implTropSum_any _ _ _).mono ?_; rintro e w' ⟨rfl, rfl⟩) | (go_at_call 10; refine (specTropSum_any _ _ _).mono ?_; rintro e w' ⟨rfl, rfl⟩) | (go_at_call 11; refine (implTropQuotient_any _ _ _).mono ?_; rintro e w' ⟨rfl, rfl⟩) | (go_at_call 12; refine (specTropQuotient_any _ _ _).mono ?_; rintro e w' ⟨rfl, rfl⟩) | (go_at_call 13; refine (isNumber_any _ _).mono ?_; rintro e w' ⟨rfl, rfl⟩))
          all_goals
            go_meet
            exact ⟨by simp [*], by simp [*], by simp [*], by simp [*], by simp [*], by simp [*], rfl, rfl⟩
    case rest =>
    obtain ⟨rfl, rfl, rfl, rfl, rfl, rfl, rfl, rfl⟩ := hcut
    go_upto_if 133 with fail
    go_cut [8, 10, 11, 12, 13, 14, 19, 20, 21, 22] (fun s8 s10 s11 s12 s13 s14 _ _ _ _ wx => s8 = .bool (tProdB a b) ∧ s10 = .bool (tProdB a b) ∧ s11 = .int .i64 (tSum a b) ∧ s12 = .bool (numB a && numB b) ∧ s13 = .int .i64 (tSum a b) ∧ s14 = .bool (numB a && numB b) ∧ wx = wc)
    case first =>
      rcases ways a b with ⟨hA, hP⟩ | ⟨hA, hB, hP⟩ | ⟨hA, hB, hP, hs, hlt⟩ | ⟨hA, hB, hP, hs, hne, hlt⟩ | ⟨hA, hB, hP, c1, c2, c3, hi, hs, hlt⟩ | ⟨hA, hB, hP, c1, c2, c3, hi, hs, hne, hlt⟩ | ⟨hA, hB, hP, c1, c2, c3, hi, q1, q2, hs, hlt⟩ | ⟨hA, hB, hP, c1, c2, c3, hi, q1, q2, hs, hne, hlt⟩
      all_goals
        as_aux_lemma =>
          rw [hP]
          go_wp2_with (first | (go_at_call 7; refine (implTropProduct_any _ _ _).mono ?_; rintro e w' ⟨rfl, rfl⟩) | (go_at_call 8; refine (specTropProduct_any _ _ _).mono ?_; rintro e w' ⟨rfl, rfl⟩) | (go_at_call 9; refine (implTropSum_any _ _ _).mono ?_; rintro e w' ⟨rfl, rfl⟩) | (go_at_call 10; refine (specTropSum_any _ _ _).mono ?_; rintro e w' ⟨rfl, rfl⟩) | (go_at_call 11; refine (implTropQuotient_any _ _ _).mono ?_; rintro e w' ⟨rfl, rfl⟩) | (go_at_call 12; refine (specTropQuotient_any _ _ _).mono ?_; rintro e w' ⟨rfl, rfl⟩) | (go_at_call 13; refine (isNumber_any _ _).mono ?_; rintro e w' ⟨rfl, rfl⟩))
          all_goals
            go_meet
            exact ⟨by simp [*], by simp [*], by simp [*], by simp [*], by simp [*], by simp [*], rfl⟩
    case rest =>
    obtain ⟨rfl, rfl, rfl, rfl, rfl, rfl, rfl⟩ := hcut
    go_upto_region 20 with fail
    go_cut [8, 10, 11, 12, 13, 14, 187] (fun s8 s10 s11 s12 s13 s14 c wx => s8 = .bool (tProdB a b) ∧ s10 = .bool (tProdB a b) ∧ s11 = .int .i64 (tSum a b) ∧ s12 = .bool (numB a && numB b) ∧ s13 = .int .i64 (tSum a b) ∧ s14 = .bool (numB a && numB b) ∧ c = .bool false ∧ wx = wc)
    case first =>
      rcases ways a b with ⟨hA, hP⟩ | ⟨hA, hB, hP⟩ | ⟨hA, hB, hP, hs, hlt⟩ | ⟨hA, hB, hP, hs, hne, hlt⟩ | ⟨hA, hB, hP, c1, c2, c3, hi, hs, hlt⟩ | ⟨hA, hB, hP, c1, c2, c3, hi, hs, hne, hlt⟩ | ⟨hA, hB, hP, c1, c2, c3, hi, q1, q2, hs, hlt⟩ | ⟨hA, hB, hP, c1, c2, c3, hi, q1, q2, hs, hne, hlt⟩
      all_goals
        as_aux_lemma =>
          go_wp2_with fail
          all_goals
            go_meet
            exact ⟨by simp [*], by simp [*], by simp [*], by simp [*], by simp [*], by simp [*], (by first | rfl | (simp; omega)), rfl⟩
    case rest =>
    obtain ⟨rfl, rfl, rfl, rfl, rfl, rfl, rfl, rfl⟩ := hcut
    go_wp2_with fail
    refine (drawTropPower_any _ _ _ _ (hR'.out.below b1) hb1).mono ?_
    rintro e v2 ⟨n, k, rfl, b2⟩
    have B2 := bel2 b1 b2
    have T2 := Lib.hid (HN.out.below B2)
    have hN2 := T2.out.1
    rcases pways n k with hF | ⟨hF, hk⟩ | ⟨hF, hk, hk20, g1, g2, g3⟩
    all_goals
      as_aux_lemma =>
        go_wp2_with (first | (go_at_call 15; refine (implTropPower_any _ _ _ hN2).mono ?_; rintro e w' ⟨rfl, rfl⟩) | (go_at_call 16; refine (specTropPower_any _ _ _).mono ?_; rintro e w' ⟨rfl, rfl⟩) | (go_at_call 7; refine (implTropProduct_any _ _ _).mono ?_; rintro e w' ⟨rfl, rfl⟩))
        all_goals
          refine (implNumberText_any _ _ T2.out.1 T2.out.2.1 T2.out.2.2.1).mono ?_
          rintro e v3 ⟨rfl, b3⟩
          go_wp2_with fail
          refine (specNumberText_any _ _).mono ?_
          rintro e v4 ⟨rfl, b4⟩
          have B4 := bel2 (bel2 B2 b3) b4
          go_wp2_with fail
          refine (drawParseNumber_any _ _ _ _ (hR'.out.below B4) hb1).mono ?_
          rintro e v5 ⟨u, rfl, hu, b5⟩
          have B5 := bel2 B4 b5
          have T5 := Lib.hid (HN.out.below B5)
          go_wp2_with fail
          refine (implParseNumber_any _ _ (by omega) T5.out.1 T5.out.2.1 T5.out.2.2.1 T5.out.2.2.2).mono ?_
          rintro e v6 ⟨rfl, b6⟩
          go_wp2_with fail
          refine (specParseNumber_any _ _ (by omega)).mono ?_
          rintro e v7 ⟨rfl, b7⟩
          have B7 := bel2 (bel2 B5 b6) b7
          have T7 := Lib.hid (HN.out.below B7)
          cases ha : numB a
          · go_wp2_with fail
            go_ret
            exact ⟨rfl, B7⟩
          · have HA := Lib.hid ha
            have hr := read_text ha
            obtain ⟨r1, r2⟩ := hr
            have R1 := Lib.hid r1
            have R2 := Lib.hid r2
            clear r1 r2
            go_wp2_with fail
            refine (implParseNumber_any _ _ (text_size HA.out) T7.out.1 T7.out.2.1 T7.out.2.2.1 T7.out.2.2.2).mono ?_
            rintro e v8 ⟨rfl, b8⟩
            rw [show (ByteArray.mk (ntL a).toArray).data.toList = ntL a by simp, R1.out, R2.out]
            go_wp2_with fail
            go_ret
            exact ⟨rfl, bel2 B7 b8⟩
end Go.Proofs.YtmeabhfhjnabdaaDoor.fnNumbers

/-
  The model's draw of a line's text: what the call returns.
  Condition: the bytes can be read; they are at most 1048576.
-/
import Derived.Test.YtakamboflfkchaaGreatDoorDrawL
import Derived.Test.YtakamboflfkchaaGreatDoorLnU
namespace Go.Proofs.YtakamboflfkchaaGreatDoor
set_option linter.unusedSimpArgs false
set_option linter.unusedVariables false
open Go.ChangeShapes Go.WideShapes Go.ChangeAt Go.RowKit

theorem smallT_ln {t : Tm} (h : smallT t) : lnB t = true := by
  unfold smallT at h
  unfold lnB
  simp only [Bool.and_eq_true]
  exact ⟨(finB_iff _).2 (by omega), (finB_iff _).2 (by omega), (finB_iff _).2 (by omega)⟩
theorem lnX_len {t : Tm} (h : lnB t = true) : (ByteArray.mk (lnX t).toArray).size ≤ 40 := by
  obtain ⟨h1, h2, h3⟩ := lnB_parts h
  have e : (ByteArray.mk (lnX t).toArray).size = (lnX t).length := by show (lnX t).toArray.size = _; simp
  have l1 := itoa_sh t.1 (by omega)
  have l2 := itoa_sh t.2.1 (by omega)
  have l3 := itoa_sh t.2.2 (by omega)
  rw [e]
  unfold lnX
  simp only [List.length_append, List.length_cons, List.length_nil]
  omega
/-- The texts that are nearly right. -/
def spoilsL : List ByteArray := [⟨#[]⟩, ⟨#[49, 32, 50]⟩, ⟨#[49, 32, 50, 32, 51, 32, 52]⟩, ⟨#[105, 110, 102, 32, 48, 32, 48]⟩, ⟨#[45, 48, 32, 49, 32, 50]⟩, ⟨#[48, 49, 32, 50, 32, 51]⟩, ⟨#[49, 48, 48, 48, 48, 48, 48, 32, 45, 49, 48, 48, 48, 48, 48, 48, 32, 48]⟩, ⟨#[49, 48, 48, 48, 48, 48, 49, 32, 48, 32, 48]⟩]
theorem spoilsL_len {s : ByteArray} (h : s ∈ spoilsL) : s.size ≤ 1000 := by
  have : ∀ x ∈ spoilsL, x.size ≤ 1000 := by decide
  exact this s h
set_option maxHeartbeats 1000000 in
set_option maxRecDepth 100000 in
theorem drawParseLine_any (w : World) (A : Option Addr) (n cap : Nat) (h : RB w w.heap.size A n) (hn : n ≤ 1048576) : Calls Tryz.prog 17 #[.slice A n cap] w fun e w' => DrawsS w e w' := by
  have hc := cur_new (cap := cap) h hn
  go_enter Tryz.func17, Tryz.ntmps17
  go_wp2_with fail
  refine (line_any _ _ 0 hc (by omega)).mono ?_
  rintro e v1 ⟨t, rfl, ht, hc1, hg1⟩
  have HB := Lib.hid (smallT_ln ht)
  clear ht
  go_wp2_with fail
  refine (lnText_any t HB.out _).mono ?_
  rintro e v2 ⟨rfl, b2⟩
  have HL := Lib.hid (lnX_len HB.out)
  have hc2 := hc1.below b2
  have hl1 := hc1.lt
  have hg2 : (w.alloc (.cells #[.slice A n cap, .int .i64 0, .int .u64 0] 46)).grownBy v2 (some w.heap.size) := Lib.grownBy_below hg1 b2
  obtain ⟨T, hT⟩ : ∃ T, T = (ByteArray.mk (lnX t).toArray) := ⟨_, rfl⟩
  rw [← hT] at HL ⊢
  clear hT hc hc1 hg1 b2
  go_wp2_with fail
  refine (pick_any 4 (by omega) _ _ _ hc2 (by omega)).mono ?_
  rintro e v3 ⟨r, rfl, -, hc3, hg3⟩
  cases e0 : r == 0
  · cases e1 : r == 1
    · go_wp2
      go_ret
      exact ⟨T, rfl, by have := HL.out; omega, bel_cur (grown_trans hg2 hg3)⟩
    · have l3 := hc3.lt
      go_wp2_with fail
      refine (of_any _ _ _ v3.heap.size _ spoilsL (QS.lit v3 spoilsL (by decide)) (lit_away l3) (by decide) (hc3.alloc _) (by omega)).mono ?_
      rintro e v4 ⟨s, rfl, hs, hc4, hg4⟩
      have HS := Lib.hid (spoilsL_len hs)
      clear hs
      go_wp2
      go_ret
      exact ⟨s, rfl, HS.out, bel_cur (grown_trans (grown_alloc (grown_trans hg2 hg3) _) hg4)⟩
  · go_wp2_with fail
    refine (spoilt_any T _ 40 HL.out (by omega) (by decide) _ _ _ hc3 (by omega)).mono ?_
    rintro e v4 ⟨s, rfl, hs, hc4, hg4⟩
    go_wp2
    go_ret
    exact ⟨s, rfl, by omega, bel_cur (grown_trans (grown_trans hg2 hg3) hg4)⟩
end Go.Proofs.YtakamboflfkchaaGreatDoor

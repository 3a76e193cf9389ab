/-
  What the laws on drawn numbers ask of plain numbers.
  No condition: plain arithmetic; and the test on the length of the drawn bytes.
-/
import Derived.Test.YtmeabhfhjnabdaaDoorDraw
import Derived.Test.YtmeabhfhjnabdaaDoorParse
namespace Go.Proofs.YtmeabhfhjnabdaaDoor
open Go.ChangeShapes Go.WideShapes Go.ChangeAt Go.RowKit

/-- All tables and sentinels. -/
def Tabs (w : World) : Prop := Neut w ∧ Names w ∧ Pows w ∧ Sents w
theorem Tabs.below {w w' : World} (h : Tabs w) (hb : Below w.heap.size w w') : Tabs w' := ⟨h.1.below hb, h.2.1.below hb, h.2.2.1.below hb, h.2.2.2.below hb⟩
theorem big_any (A A' : Option Addr) (n n' c c' : Nat) (hn : n ≤ 9223372036854775807) (hn' : n' ≤ 9223372036854775807) (w : World) : Calls Tryd.prog 5 #[.slice A n c, .slice A' n' c'] w fun e w' => e = .returned (.bool (decide (1048576 < n + n'))) ∧ w = w' := by
  by_cases h : 1048576 < n
  · go_enter Tryd.func5, Tryd.ntmps5
    go_wp2
    go_ret
    exact ⟨ret_bool (by symm; simp; omega), rfl⟩
  · by_cases h' : 1048576 - (n : Int) < n'
    · go_enter Tryd.func5, Tryd.ntmps5
      go_wp2
      go_ret
      exact ⟨ret_bool (by symm; simp; omega), rfl⟩
    · go_enter Tryd.func5, Tryd.ntmps5
      go_wp2
      go_ret
      exact ⟨ret_bool (by symm; simp; omega), rfl⟩
theorem plus_comm (a b : Int) : plusI b a = plusI a b := by unfold plusI; split <;> split <;> omega
theorem prod_comm (a b : Int) : tProd b a = tProd a b := by unfold tProd; rw [plus_comm]; split <;> split <;> simp_all
theorem prodB_comm (a b : Int) : tProdB b a = tProdB a b := by
  unfold tProdB; rw [plus_comm]
  cases numB a <;> cases numB b <;> rfl
theorem prodB_parts {a b : Int} (h : tProdB a b = true) : numB a = true ∧ numB b = true ∧ numB (plusI a b) = true ∧ tProd a b = plusI a b := by
  unfold tProdB at h
  simp at h
  refine ⟨h.1, h.2.1, h.2.2, ?_⟩
  unfold tProd
  rw [if_pos ⟨h.1, h.2.1⟩, orZ_of h.2.2]
theorem quo_undo {a b : Int} (h : tProdB a b = true) (hb : (b == 1000000000) = false) : tQuoB (tProd a b) b = true ∧ tQuo (tProd a b) b = a := by
  obtain ⟨h1, h2, h3, h4⟩ := prodB_parts h
  have hf := fin_num h2 hb
  have hfb := (finB_iff b).1 hf
  rw [h4]
  have hp : plusI (plusI a b) (-b) = a := by
    rcases numB_cases h1 with rfl | ha
    · have e : plusI 1000000000 b = 1000000000 := by simp [plusI]
      rw [e]
      simp [plusI]
    · have e : plusI a b = a + b := by unfold plusI; rw [if_neg (by omega)]
      rw [e]
      unfold plusI
      rw [if_neg (by omega)]
      omega
  unfold tQuoB tQuo
  rw [hp, h3, hf, h1]
  exact ⟨rfl, by rw [if_pos ⟨rfl, rfl⟩, orZ_of h1]⟩
theorem pow_less {n k : Int} (h : tPowB n k = true) (hk : 0 < k) : tPowB n (k - 1) = true ∧ tProdB (tPow n (k - 1)) n = true ∧ tProd (tPow n (k - 1)) n = tPow n k := by
  have hp : numB n = true ∧ inB k 0 20 = true ∧ numB (powR n k) = true := by unfold tPowB at h; simpa using h
  obtain ⟨h1, h2, h3⟩ := hp
  have hkb := (inB_iff _ _ _).1 h2
  have h4 : inB (k - 1) 0 20 = true := (inB_iff _ _ _).2 (by omega)
  have hv : tPow n k = powR n k := if_pos h
  have key : numB (powR n (k - 1)) = true ∧ plusI (powR n (k - 1)) n = powR n k := by
    rcases numB_cases h1 with rfl | hn
    · unfold powR plusI
      rw [if_neg (show ¬ k = 0 by omega), if_pos rfl]
      split <;> simp <;> rfl
    · have hne : n ≠ 1000000000 := by omega
      have hr : powR n k = k * n := by unfold powR; rw [if_neg (by omega), if_neg hne]
      have hr' : powR n (k - 1) = (k - 1) * n := by
        unfold powR
        split
        · next h0 => rw [h0]; simp
        · first | rfl | rw [if_neg hne]
      have hm : (k - 1) * n = k * n - n := by rw [Int.sub_mul, Int.one_mul]
      rw [hr] at h3
      have hb3 := mul_bd hn (k := k) (by omega)
      have hb4 := mul_bd hn (k := k - 1) (by omega)
      have hc3 := numB_cases h3
      rw [hr, hr', hm]
      have hs : -1000000 ≤ k * n - n ∧ k * n - n ≤ 1000000 := by
        have hk1 : 0 ≤ (k - 1) := by omega
        rcases Int.le_total 0 n with hn0 | hn0
        · have := Int.mul_nonneg hk1 hn0
          omega
        · have := Int.mul_nonneg hk1 (show 0 ≤ -n by omega)
          rw [Int.mul_neg] at this
          omega
      refine ⟨numB_of (.inr hs), ?_⟩
      unfold plusI
      rw [if_neg (by omega)]
      omega
  have hb' : tPowB n (k - 1) = true := by unfold tPowB; rw [h1, h4, key.1]; rfl
  have hv' : tPow n (k - 1) = powR n (k - 1) := if_pos hb'
  refine ⟨hb', ?_, ?_⟩
  · rw [hv']; unfold tProdB; rw [key.1, h1, key.2, h3]; rfl
  · rw [hv', hv]; unfold tProd; rw [if_pos ⟨key.1, h1⟩, key.2, orZ_of h3]
theorem read_text {a : Int} (h : numB a = true) : okP (ntL a) = true ∧ pnV (ntL a) = a := okP_of h (by rw [show ntL a = numText a from if_pos h])
end Go.Proofs.YtmeabhfhjnabdaaDoor

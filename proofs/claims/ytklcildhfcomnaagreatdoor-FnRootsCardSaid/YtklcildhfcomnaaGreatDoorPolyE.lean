/-
  Powers, sums, moved and mirrored polynomials and their end terms, of the program and of the model: what each call returns.
  Condition: the slices read as the lists that are named.
-/
import Derived.Test.YtklcildhfcomnaaGreatDoorPolyD
namespace Go.Proofs.YtklcildhfcomnaaGreatDoor
set_option linter.unusedSimpArgs false
set_option linter.unusedVariables false
open Go.ChangeShapes Go.WideShapes Go.ChangeAt Go.RowKit

/-- Can a polynomial be raised to a power; and the power. -/
def pwOk (p : List Int) (k : Int) : Bool := poB p && (inB k 0 12 && pwB p k.toNat)
def pwR (p : List Int) (k : Int) : List Int := if pwOk p k = true then pwL p k.toNat else []
theorem pwR_no {p : List Int} {k : Int} (h : pwOk p k = false) : pwR p k = [] := if_neg (by simp [h])
theorem pwR_yes {p : List Int} {k : Int} (h : pwOk p k = true) : pwR p k = pwL p k.toNat := if_pos h
theorem pwR_le (p : List Int) (k : Int) : (pwR p k).length ≤ 13 := by
  unfold pwR; split
  · rename_i h
    simp only [pwOk, Bool.and_eq_true] at h
    exact (po_parts (pw_po h.2.2)).2.2.1
  · simp
theorem pw_next {p : List Int} {j : Nat} (hj : pwB p j = true) (h : poB (prL (pwL p j) p) = true) : pwB p (j + 1) = true := by
  simp only [pwB, Bool.and_eq_true]; exact ⟨hj, h⟩
/-- The sum of two polynomials. -/
def smB (p q : List Int) : Bool := poB p && poB q
def smR (p q : List Int) : List Int := if smB p q = true then sumL p q else []
theorem smR_no {p q : List Int} (h : smB p q = false) : smR p q = [] := if_neg (by simp [h])
theorem smR_yes {p q : List Int} (h : smB p q = true) : smR p q = sumL p q := if_pos h
theorem smR_le (p q : List Int) : (smR p q).length ≤ 13 := by
  unfold smR; split
  · rename_i h
    simp only [smB, Bool.and_eq_true] at h
    exact (po_parts (sum_po h.1 h.2)).2.2.1
  · simp
theorem l1MostP_any (a b : Nat) (w : World) : Calls Tryz.prog 100 #[.int .i64 (a : Int), .int .i64 (b : Int)] w fun e w' => e = .returned (.int .i64 (most a b : Nat)) ∧ w = w' := by
  by_cases h : b < a
  · have HM := Lib.hid (show most a b = a by unfold most; split <;> omega)
    go_enter Tryz.func100, Tryz.ntmps100
    go_wp2
    go_ret
    exact ⟨ret_i64 (by rw [HM.out]), rfl⟩
  · have HM := Lib.hid (show most a b = b by unfold most; split <;> omega)
    go_enter Tryz.func100, Tryz.ntmps100
    go_wp2
    go_ret
    exact ⟨ret_i64 (by rw [HM.out]), rfl⟩
/-- The moved polynomial. -/
def mvB (zs : List Int) (x : Int) : Bool := poB zs && (finB x && (tms zs x).all numB)
def mvR (zs : List Int) (x : Int) : List Int := if mvB zs x = true then tms zs x else []
theorem mvR_no {zs : List Int} {x : Int} (h : mvB zs x = false) : mvR zs x = [] := if_neg (by simp [h])
theorem mvR_yes {zs : List Int} {x : Int} (h : mvB zs x = true) : mvR zs x = tms zs x := if_pos h
theorem mvR_le (zs : List Int) (x : Int) : (mvR zs x).length ≤ 13 := by
  unfold mvR; split
  · rename_i h
    simp only [mvB, Bool.and_eq_true] at h
    rw [tms_len]
    exact (po_parts h.1).2.2.1
  · simp
/-- What EndTerms gives. -/
def loV (zs : List Int) : Int := if poB zs = true then (lowN zs : Int) else 0
def hiV (zs : List Int) : Int := if poB zs = true then (zs.length : Int) - 1 else 0
def GivesE (zs : List Int) (w : World) (e : Ending) (w' : World) : Prop := e = .returned (.tuple #[.int .i64 (loV zs), .int .i64 (hiV zs), .bool (poB zs)]) ∧ w = w'
theorem givesE_no {zs : List Int} {w : World} (h : poB zs = false) : GivesE zs w (.returned (.tuple #[.int .i64 0, .int .i64 0, .bool false])) w :=
  ⟨ret_iib (by simp [loV, h]) (by simp [hiV, h]) h.symm, rfl⟩
theorem givesE_yes {zs : List Int} {w : World} (h : poB zs = true) : GivesE zs w (.returned (.tuple #[.int .i64 (lowN zs : Int), .int .i64 ((zs.length : Int) - 1), .bool true])) w :=
  ⟨ret_iib (by simp [loV, h]) (by simp [hiV, h]) h.symm, rfl⟩
set_option maxHeartbeats 400000 in
theorem implEndTerms_any (w : World) (B : Nat) (v : Value) (zs : List Int) (h : IS w B v zs) : Calls Tryz.prog 43 #[v] w fun e w' => GivesE zs w e w' := by
  have h0 := Lib.hid h
  obtain ⟨A, cap, rfl, -, hp⟩ := h.parts
  cases hz : poB zs
  · clear hp h
    go_enter Tryz.func43, Tryz.ntmps43
    go_wp2_with (first | (go_at_call 25; refine (isPoly_any _ B _ zs h0.out).mono ?_; rintro e w' ⟨rfl, rfl⟩))
    go_ret3
    exact givesE_no hz
  · have hl := (po_parts hz).2.2.1
    obtain ⟨l1, l2, l3⟩ := low_lt hz
    have HP := Lib.hid hp
    have HL2 := Lib.hid l2
    have HL3 := Lib.hid l3
    have HZ := Lib.hid hz
    clear hp h l2 l3
    go_enter Tryz.func43, Tryz.ntmps43
    go_wp2_with (first | (go_at_call 25; refine (isPoly_any _ B _ zs h0.out).mono ?_; rintro e w' ⟨rfl, rfl⟩))
    clear hz
    go_loop [5] (fun i => ∃ k : Nat, k ≤ lowN zs ∧ i = .int .i64 k) (fun i => lowN zs - (intOf i).toNat)
    case atStart => exact ⟨0, by omega, rfl⟩
    case round =>
      obtain ⟨k, hk, rfl⟩ := hrel
      obtain ⟨g, rfl, hc⟩ := HP.out k (by omega)
      by_cases hlt : k < lowN zs
      · have hi := HL3.out k hlt
        rw [hi] at hc
        clear hi
        go_wp2
        go_round
        case rel => exact ⟨k + 1, by omega, by go_num⟩
        case measure => simp [intOf]; omega
      · obtain rfl : k = lowN zs := by omega
        have hne : (gd zs (lowN zs) == 1000000000) = false := by simpa using HL2.out
        go_wp2
        go_ret3
        exact givesE_yes HZ.out
def mrR (zs : List Int) : List Int := if poB zs = true then mrL zs else []
theorem mrR_no {zs : List Int} (h : poB zs = false) : mrR zs = [] := if_neg (by simp [h])
theorem mrR_yes {zs : List Int} (h : poB zs = true) : mrR zs = mrL zs := if_pos h
theorem mrR_le (zs : List Int) : (mrR zs).length ≤ 13 := by
  unfold mrR; split
  · rename_i h
    exact (po_parts (mr_po h)).2.2.1
  · simp
end Go.Proofs.YtklcildhfcomnaaGreatDoor

/-
  Powers, sums, moved and mirrored polynomials and their end terms, of the program and of the model: what each call returns.
  Condition: the slices read as the lists that are named.
-/
import Derived.Test.YtbhmlfidideemaaDoorPolyD
namespace Go.Proofs.YtbhmlfidideemaaDoor
set_option linter.unusedSimpArgs false
set_option linter.unusedVariables false
open Go.ChangeShapes Go.WideShapes Go.ChangeAt Go.RowKit

/-- Can a polynomial be raised to a power; and the power. -/
def pwOk (p : List Int) (k : Int) : Bool := poB p && (inB k 0 12 && pwB p k.toNat)
def pwR (p : List Int) (k : Int) : List Int := if pwOk p k = true then pwL p k.toNat else []
theorem pwR_no {p : List Int} {k : Int} (h : pwOk p k = false) : pwR p k = [] := if_neg (by simp [h])
theorem pwR_yes {p : List Int} {k : Int} (h : pwOk p k = true) : pwR p k = pwL p k.toNat := if_pos h
theorem pwR_le (p : List Int) (k : Int) : (pwR p k).length ≤ 13 := by
  unfold pwR; split
  · rename_i h
    simp only [pwOk, Bool.and_eq_true] at h
    exact (po_parts (pw_po h.2.2)).2.2.1
  · simp
theorem pw_next {p : List Int} {j : Nat} (hj : pwB p j = true) (h : poB (prL (pwL p j) p) = true) : pwB p (j + 1) = true := by
  simp only [pwB, Bool.and_eq_true]; exact ⟨hj, h⟩
set_option maxHeartbeats 800000 in
set_option maxRecDepth 100000 in
theorem specPolyPower_any (w : World) (B : Nat) (v : Value) (p : List Int) (k : Int) (h : IS w B v p) : Calls Tryd.prog 22 #[v, .int .i64 k] w fun e w' => GivesIB (pwOk p k) (pwR p k) w e w' := by
  cases hp : poB p
  · have HD := Lib.hid (show pwOk p k = false by simp [pwOk, hp])
    go_enter Tryd.func22, Tryd.ntmps22
    go_wp2_with (first | (go_at_call 37; refine (poGood_any _ B _ p h).mono ?_; rintro e w' ⟨rfl, rfl⟩))
    go_ret2
    exact givesIB_nil HD.out (pwR_no HD.out) (Below.refl _ _)
  · cases hk : inB k 0 12
    · have HD := Lib.hid (show pwOk p k = false by simp [pwOk, hk])
      go_enter Tryd.func22, Tryd.ntmps22
      go_wp2_with (first | (go_at_call 37; refine (poGood_any _ B _ p h).mono ?_; rintro e w' ⟨rfl, rfl⟩) | (go_at_call 44; refine (l1In_any _ _ _ _).mono ?_; rintro e w' ⟨rfl, rfl⟩))
      go_ret2
      exact givesIB_nil HD.out (pwR_no HD.out) (Below.refl _ _)
    · have hkb := (inB_iff _ _ _).1 hk
      obtain ⟨n, rfl⟩ := Int.eq_ofNat_of_zero_le hkb.1
      have hn : n ≤ 12 := by omega
      have HD := Lib.hid (show pwOk p (n : Int) = pwB p n by simp [pwOk, hp, hk])
      have HR := Lib.hid (show (n : Int).toNat = n by simp)
      have HP := Lib.hid hp
      have H := Lib.hid h
      clear hp hkb h
      go_enter Tryd.func22, Tryd.ntmps22
      go_wp2_with (first | (go_at_call 37; refine (poGood_any _ B _ p H.out).mono ?_; rintro e w' ⟨rfl, rfl⟩) | (go_at_call 44; refine (l1In_any _ _ _ _).mono ?_; rintro e w' ⟨rfl, rfl⟩))
      clear hk
      go_loopw [1, 6] (fun i o wr => ∃ r j : Nat, r + j = n ∧ i = .int .i64 r ∧ IS wr w.heap.size o (pwL p j) ∧ Below w.heap.size w wr ∧ Hid (pwB p j = true)) (fun i _ _ => (intOf i).toNat)
      case atStart => exact ⟨n, 0, rfl, rfl, IS.lit _ _, (Below.refl _ _).alloc (Nat.le_refl _) _, Lib.hid rfl⟩
      case round =>
        obtain ⟨r, j, hrj, rfl, ho, hb, hj⟩ := hrel
        by_cases hr : 0 < r
        · have HPW := Lib.hid (pw_po hj.out)
          go_wp2_with fail
          refine (poProduct_any _ _ B _ _ _ p ho (H.out.below hb) HPW.out HP.out).mono ?_
          rintro e w1 ⟨s, rfl, hs, b1⟩
          have b2 := bel2 hb b1
          have hs2 := hs.base hb.size
          clear hs b1
          cases hq : poB (prL (pwL p j) p)
          · have HNO := Lib.hid (show pwOk p (n : Int) = false by rw [HD.out]; exact pwB_no (j := j) (by omega) hq)
            go_wp2
            go_ret2
            exact givesIB_nil HNO.out (pwR_no HNO.out) b2
          · have HYES := Lib.hid (pw_next hj.out hq)
            rw [okL_yes hq] at hs2
            obtain ⟨r', rfl⟩ : ∃ r', r = r' + 1 := ⟨r - 1, by omega⟩
            go_wp2
            go_roundw
            case rel => exact ⟨r', j + 1, by omega, by go_num, hs2, b2, HYES⟩
            case measure => simp [intOf]
        · obtain rfl : r = 0 := by omega
          obtain rfl : j = n := by omega
          have HYES := Lib.hid (show pwOk p (j : Int) = true by rw [HD.out]; exact hj.out)
          go_wp2
          go_ret2
          exact givesIB_yes HYES.out (by rw [pwR_yes HYES.out, HR.out]; exact ho) hb
theorem pd_pw {p : List Int} {j : Nat} (hj : pwB p j = true) (hp : poB p = true) : pdB (pwL p j) p = poB (prL (pwL p j) p) ∧ pdR (pwL p j) p = okL (prL (pwL p j) p) := ⟨pd_of (pw_po hj) hp, pdR_of (pw_po hj) hp⟩
set_option maxHeartbeats 800000 in
set_option maxRecDepth 100000 in
theorem implPolyPower_any (w : World) (hN : Neut w) (B : Nat) (v : Value) (p : List Int) (k : Int) (h : IS w B v p) : Calls Tryd.prog 23 #[v, .int .i64 k] w fun e w' => GivesIB (pwOk p k) (pwR p k) w e w' := by
  cases hp : poB p
  · have HD := Lib.hid (show pwOk p k = false by simp [pwOk, hp])
    go_enter Tryd.func23, Tryd.ntmps23
    go_wp2_with (first | (go_at_call 31; refine (isPoly_any _ B _ p h).mono ?_; rintro e w' ⟨rfl, rfl⟩))
    go_ret2
    exact givesIB_nil HD.out (pwR_no HD.out) (Below.refl _ _)
  · by_cases hk0 : k < 0
    · have HD := Lib.hid (show pwOk p k = false by simp [pwOk, inB]; omega)
      go_enter Tryd.func23, Tryd.ntmps23
      go_wp2_with (first | (go_at_call 31; refine (isPoly_any _ B _ p h).mono ?_; rintro e w' ⟨rfl, rfl⟩))
      go_ret2
      exact givesIB_nil HD.out (pwR_no HD.out) (Below.refl _ _)
    · by_cases hk12 : 12 < k
      · have HD := Lib.hid (show pwOk p k = false by simp [pwOk, inB]; omega)
        go_enter Tryd.func23, Tryd.ntmps23
        go_wp2_with (first | (go_at_call 31; refine (isPoly_any _ B _ p h).mono ?_; rintro e w' ⟨rfl, rfl⟩))
        go_ret2
        exact givesIB_nil HD.out (pwR_no HD.out) (Below.refl _ _)
      · obtain ⟨n, rfl⟩ := Int.eq_ofNat_of_zero_le (show 0 ≤ k by omega)
        have hn : n ≤ 12 := by omega
        have hk : inB (n : Int) 0 12 = true := (inB_iff _ _ _).2 (by omega)
        have HD := Lib.hid (show pwOk p (n : Int) = pwB p n by simp [pwOk, hp, hk])
        have HR := Lib.hid (show (n : Int).toNat = n by simp)
        have HP := Lib.hid hp
        have H := Lib.hid h
        have HN := Lib.hid hN
        have hN1 := hN.2
        clear hp hk hk0 hk12 h hN
        go_enter Tryd.func23, Tryd.ntmps23
        go_wp2_with (first | (go_at_call 31; refine (isPoly_any _ B _ p H.out).mono ?_; rintro e w' ⟨rfl, he⟩; rw [HP.out, ← he]; clear he))
        clear hN1
        go_loopw [6, 24] (fun o i wr => ∃ j : Nat, j ≤ n ∧ i = .int .i64 j ∧ IS wr w.heap.size o (pwL p j) ∧ Below w.heap.size w wr ∧ Hid (pwB p j = true)) (fun _ i _ => n - (intOf i).toNat)
        case atStart => exact ⟨0, by omega, rfl, IS.lit _ _, (Below.refl _ _).alloc (Nat.le_refl _) _, Lib.hid rfl⟩
        case round =>
          obtain ⟨j, hjn, rfl, ho, hb, hj⟩ := hrel
          by_cases hr : j < n
          · have HPD := Lib.hid (pd_pw hj.out HP.out)
            go_wp2_with fail
            refine (implPolyProduct_any _ (HN.out.below hb) _ B _ _ _ p ho (H.out.below hb)).mono ?_
            rintro e w1 ⟨s, rfl, hs, b1⟩
            have b2 := bel2 hb b1
            have hs2 := hs.base hb.size
            rw [HPD.out.1]
            rw [HPD.out.2] at hs2
            clear hs b1
            cases hq : poB (prL (pwL p j) p)
            · have HNO := Lib.hid (show pwOk p (n : Int) = false by rw [HD.out]; exact pwB_no (j := j) (by omega) hq)
              go_wp2
              go_ret2
              exact givesIB_nil HNO.out (pwR_no HNO.out) b2
            · have HYES := Lib.hid (pw_next hj.out hq)
              rw [okL_yes hq] at hs2
              go_wp2
              go_roundw
              case rel => exact ⟨j + 1, by omega, by go_num, hs2, b2, HYES⟩
              case measure => simp [intOf]; omega
          · obtain rfl : j = n := by omega
            have HYES := Lib.hid (show pwOk p (j : Int) = true by rw [HD.out]; exact hj.out)
            go_wp2
            go_ret2
            exact givesIB_yes HYES.out (by rw [pwR_yes HYES.out, HR.out]; exact ho) hb
/-- The sum of two polynomials. -/
def smB (p q : List Int) : Bool := poB p && poB q
def smR (p q : List Int) : List Int := if smB p q = true then sumL p q else []
theorem smR_no {p q : List Int} (h : smB p q = false) : smR p q = [] := if_neg (by simp [h])
theorem smR_yes {p q : List Int} (h : smB p q = true) : smR p q = sumL p q := if_pos h
theorem smR_le (p q : List Int) : (smR p q).length ≤ 13 := by
  unfold smR; split
  · rename_i h
    simp only [smB, Bool.and_eq_true] at h
    exact (po_parts (sum_po h.1 h.2)).2.2.1
  · simp
end Go.Proofs.YtbhmlfidideemaaDoor

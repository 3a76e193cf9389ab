/-
  Texts of fractions, of the program and of the model: what each call returns.
  Condition: the library's table of powers of ten reads as the library's text lays it.
-/
import Derived.Test.YtklcildhfcomnaaGreatDoorFrac
import Derived.Test.YtklcildhfcomnaaGreatDoorParse
import Derived.Deep.RegionHeld3
import Derived.Deep.DeepCutAuto
namespace Go.Proofs.YtklcildhfcomnaaGreatDoor
set_option linter.unusedSimpArgs false
set_option linter.unusedVariables false
open Go.ChangeShapes Go.WideShapes Go.ChangeAt Go.RowKit

/-- A fraction's text, up to the sign between its two numbers. -/
def frP (n : Int) : List UInt8 := Lib.itoa n ++ [47]
/-- A fraction's text. -/
def frL (n d : Int) : List UInt8 := if d = 1 then Lib.itoa n else frP n ++ Lib.decDigits d.toNat
/-- What FracText gives. -/
def ftL (n d : Int) : List UInt8 := if frB n d = true then frL n d else []
def GivesFT (n d : Int) (w : World) (e : Ending) (w' : World) : Prop := e = .returned (.tuple #[.string ⟨(ftL n d).toArray⟩, .bool (frB n d)]) ∧ Below w.heap.size w w'
theorem givesFT_no {n d : Int} {w w' : World} (h : frB n d = false) (hb : Below w.heap.size w w') : GivesFT n d w (.returned (.tuple #[.string ⟨#[]⟩, .bool false])) w' := by
  refine ⟨?_, hb⟩
  rw [h, show ftL n d = [] from if_neg (by simp [h])]
theorem givesFT_yes {n d : Int} {l : List UInt8} {w w' : World} (h : frB n d = true) (hl : l = frL n d) (hb : Below w.heap.size w w') : GivesFT n d w (.returned (.tuple #[.string ⟨l.toArray⟩, .bool true])) w' := by
  refine ⟨?_, hb⟩
  rw [h, show ftL n d = frL n d from if_pos h, hl]
theorem dec_short (u : Nat) (h : u ≤ 1000000000) : (Lib.decDigits u).length ≤ 10 := dec_len 9 u (by omega)
theorem itoa_short (n : Int) (h : Lim n) : (Lib.itoa n).length ≤ 11 := by
  obtain ⟨h0, h1⟩ := h
  by_cases hn : n < 0
  · obtain ⟨u, hu⟩ : ∃ u : Nat, -n = u := ⟨n.natAbs, by omega⟩
    have := Lib.itoa_neg u (by omega)
    rw [show -(u : Int) = n by omega] at this
    rw [this, List.length_cons]
    have := dec_short u (by omega)
    omega
  · obtain ⟨u, rfl⟩ : ∃ u : Nat, n = u := ⟨n.toNat, by omega⟩
    rw [Lib.itoa_nonneg u]
    have := dec_short u (by omega)
    omega
theorem add_texts (a b : List UInt8) (h : a.length + b.length ≤ 1000) (w : World) : (Op.stringOp .add ⟨a.toArray⟩ ⟨b.toArray⟩).run Tryz.prog w = .ok (.string ⟨(a ++ b).toArray⟩) w := by
  rw [run_string_add_sum w _ _ (by
    have h0 : (ByteArray.mk a.toArray).size = a.length := by show a.toArray.size = _; simp
    have h1 : (ByteArray.mk b.toArray).size = b.length := by show b.toArray.size = _; simp
    rw [h0, h1]; omega)]
  congr 2
  try (apply ByteArray.ext; rw [ByteArray.data_append]; simp)
theorem add_mid (n : Int) (h : Lim n) (w : World) : (Op.stringOp .add ⟨(Lib.itoa n).toArray⟩ ⟨#[47]⟩).run Tryz.prog w = .ok (.string ⟨(frP n).toArray⟩) w :=
  add_texts _ [47] (by have := itoa_short n h; simp; omega) w
theorem frP_short (n : Int) (h : Lim n) : (frP n).length ≤ 12 := by
  have := itoa_short n h
  unfold frP; simp; omega
theorem add_end (n d : Int) (u : Nat) (hu : d = u) (h : Lim n) (hd : d ≠ 1) (hl : u ≤ 1000000000) (w : World) : (Op.stringOp .add ⟨(frP n).toArray⟩ ⟨(Lib.decDigits u).toArray⟩).run Tryz.prog w = .ok (.string ⟨(frL n d).toArray⟩) w := by
  have := add_texts (frP n) (Lib.decDigits u) (by have := frP_short n h; have := dec_short u hl; omega) w
  rw [this, frL, if_neg hd, show d.toNat = u by omega]
set_option maxRecDepth 100000 in
theorem frText_any (n d : Int) (w : World) (h : frB n d = true) : Calls Tryz.prog 32 #[fracV n d] w fun e w' => Says (frL n d) w e w' := by
  obtain ⟨hn, hd, -⟩ := frB_bd h
  obtain ⟨hn1, hn2⟩ := hn
  obtain ⟨hd1, hd2⟩ := hd
  have hL : Lim n := ⟨hn1, hn2⟩
  clear h
  by_cases h1 : d = 1
  · subst h1
    go_enter Tryz.func32, Tryz.ntmps32
    go_wp2_with fail
    refine (l1Int_any n (by omega) _).mono ?_
    rintro e w1 ⟨rfl, b1⟩
    go_wp2_with fail
    go_ret
    exact ⟨rfl, bel2 (by go_grown) b1⟩
  · obtain ⟨u, rfl⟩ : ∃ u : Nat, d = u := ⟨d.toNat, by omega⟩
    have hm := add_mid n hL
    have he := add_end n u u rfl hL h1 (by omega)
    go_enter Tryz.func32, Tryz.ntmps32
    go_wp2_with fail
    go_region_held3 (fun w' => w'.cell? ⟨w.heap.size, 0, none⟩ = some (.int .i64 n) ∧ w'.cell? ⟨w.heap.size, 1, none⟩ = some (.int .i64 u)) (repeat' (first | with_reducible exact S2.new _ _ _ _ | with_reducible assumption | with_reducible refine S2.below ?_ (by assumption) | with_reducible refine S2.drew ?_ | with_reducible refine S2.alloc ?_ _)) (first | (go_at_call 69; refine (l1Int_any n (by omega) _).mono ?_; rintro e w1 ⟨rfl, b1⟩) | (go_at_call 33; refine (l1Num_any u (by omega) _).mono ?_; rintro e w2 ⟨rfl, b2⟩))
    go_wp2_with fail
    go_ret
    exact ⟨rfl, bel2 (bel2 (by go_grown) b1) b2⟩
theorem itoa_b (n : Int) (h : Lim n) (w : World) (hP : Pows w) : Calls Tryz.prog 30 #[.int .i64 n] w fun e w' => Says (Lib.itoa n) w e w' :=
  (Tryz.strconv_Itoa n (by have := h.1; omega) (by have := h.2; omega) w hP).mono fun e w' ⟨h1, k, os, h2⟩ => ⟨h1, by subst h2; exact Lib.below_grow _ _ (Nat.le_refl _) _ _⟩
theorem itoa_nat (u : Nat) (h : u ≤ 1000000000) (w : World) (hP : Pows w) : Calls Tryz.prog 30 #[.int .i64 (u : Int)] w fun e w' => Says (Lib.decDigits u) w e w' :=
  (itoa_b u ⟨by omega, by omega⟩ w hP).mono fun _ _ hs => hs.of (Lib.itoa_nonneg u)
set_option maxRecDepth 100000 in
theorem implFracText_any (n d : Int) (w : World) (hP : Pows w) : Calls Tryz.prog 28 #[fracV n d] w fun e w' => GivesFT n d w e w' := by
  cases h : frB n d
  · go_enter Tryz.func28, Tryz.ntmps28
    go_wp2_with fail
    refine (isFrac_any _ _ _).mono ?_
    rw [h]
    rintro e w1 ⟨rfl, b1⟩
    go_wp2_with fail
    go_ret2
    exact givesFT_no h (bel2 (by go_grown) b1)
  · have H := Lib.hid h
    obtain ⟨hn, hd, -⟩ := frB_bd h
    have hL : Lim n := hn
    obtain ⟨hd1, hd2⟩ := hd
    clear h hn
    by_cases h1 : d = 1
    · subst h1
      go_enter Tryz.func28, Tryz.ntmps28
      go_wp2_with fail
      refine (isFrac_any _ _ _).mono ?_
      rw [H.out]
      rintro e w1 ⟨rfl, b1⟩
      have k1 := cellAt b1
      have hP1 := Lib.hid (hP.below (bel2 (by go_grown) b1))
      go_wp2_with fail
      refine (itoa_b n hL _ hP1.out).mono ?_
      rintro e w2 ⟨rfl, b2⟩
      go_wp2_with fail
      go_ret2
      exact givesFT_yes H.out (if_pos rfl).symm (bel2 (bel2 (by go_grown) b1) b2)
    · obtain ⟨u, rfl⟩ : ∃ u : Nat, d = u := ⟨d.toNat, by omega⟩
      have hm := add_mid n hL
      have he := add_end n u u rfl hL h1 (by omega)
      have S0 := S2.new w n u 35
      have hu : u ≤ 1000000000 := by omega
      go_enter Tryz.func28, Tryz.ntmps28
      go_wp2_with fail
      refine (isFrac_any _ _ _).mono ?_
      rw [H.out]
      rintro e w1 ⟨rfl, b1⟩
      have S1 := S0.below b1
      obtain ⟨k1, k2⟩ := S1
      have hP1 := Lib.hid (hP.below (bel2 (by go_grown) b1))
      go_wp2_with fail
      go_region_held3 (fun w' => w'.cell? ⟨w.heap.size, 0, none⟩ = some (.int .i64 n) ∧ w'.cell? ⟨w.heap.size, 1, none⟩ = some (.int .i64 u)) (repeat' (first | with_reducible exact S2.below (S2.drew ⟨k1, k2⟩) (by assumption) | with_reducible exact S2.drew ⟨k1, k2⟩ | with_reducible assumption | with_reducible refine S2.below ?_ (by assumption) | with_reducible refine S2.drew ?_ | with_reducible refine S2.alloc ?_ _)) (first | (go_at_call 30; refine (itoa_b n hL _ ?_).mono ?_; exact hP1.out; rintro e w2 ⟨rfl, b2⟩) | (go_at_call 30; refine (itoa_nat u hu _ ?_).mono ?_; exact hP1.out.below (bel_drew b2); rintro e w3 ⟨rfl, b3⟩))
      go_wp2_with fail
      go_ret2
      exact givesFT_yes H.out rfl (bel2 (bel2 (bel2 (by go_grown) b1) (bel_drew b2)) b3)
end Go.Proofs.YtklcildhfcomnaaGreatDoor

/-
  Texts of stars, of the model: what each call returns.
  Conditions: the slice reads as the list that is named.
-/
import Derived.Test.YthegkifhbgopoaaDoorStT
import Derived.Test.YthegkifhbgopoaaDoorSTerm
namespace Go.Proofs.YthegkifhbgopoaaDoor
set_option linter.unusedSimpArgs false
set_option linter.unusedVariables false
open Go.ChangeShapes Go.WideShapes Go.ChangeAt Go.RowKit

abbrev C4 (w : World) (g : Nat) (a b c : Int) (x : World) : Prop := w.cell? ⟨g, 0, none⟩ = some (.int .i64 a) ∧ w.cell? ⟨g, 1, none⟩ = some (.int .i64 b) ∧ w.cell? ⟨g, 2, none⟩ = some (.int .i64 c) ∧ Below x.heap.size x w
section
variable {w w' x : World} {g : Nat} {a b c : Int}
theorem C4.new (h : T3 w g (a, b, c)) (hb : Below x.heap.size x w) : C4 w g a b c x := ⟨h.1, h.2.1, h.2.2, hb⟩
theorem C4.below (h : C4 w g a b c x) (hb : Below w.heap.size w w') : C4 w' g a b c x :=
  ⟨(hb.cell (p := ⟨g, 0, none⟩) (cell_lt h.1)).trans h.1, (hb.cell (p := ⟨g, 1, none⟩) (cell_lt h.2.1)).trans h.2.1, (hb.cell (p := ⟨g, 2, none⟩) (cell_lt h.2.2.1)).trans h.2.2.1, bel2 h.2.2.2 hb⟩
theorem C4.bel (h : C4 w g a b c x) : Below x.heap.size x w := h.2.2.2
theorem C4.drew (h : C4 w g a b c x) : C4 w.drew g a b c x := ⟨h.1, h.2.1, h.2.2.1, h.2.2.2.drew⟩
theorem C4.drewN (h : C4 w g a b c x) (n : Nat) : C4 (w.drewN n) g a b c x := ⟨h.1, h.2.1, h.2.2.1, belN h.2.2.2 n⟩
end
set_option maxHeartbeats 8000000 in
set_option maxRecDepth 100000 in
theorem stText_any (w : World) (B : Nat) (v : Value) (l : List Tm) (h : RyS w B v l) (hL : l.length ≤ 10) (hok : ∀ t ∈ l, ryT t = true) : Calls Tryd.prog 15 #[v] w fun e w' => Says (txT l l.length) w e w' := by
  obtain ⟨A, cap, rfl, hm, hp⟩ := RyS.parts h
  have HP := Lib.hid hp
  have HL := Lib.hid hL
  have HOK := Lib.hid hok
  obtain ⟨n, hn⟩ : ∃ n, n = l.length := ⟨_, rfl⟩
  have HN := Lib.hid hn
  rw [← hn] at hm hL ⊢
  unfold maxLen at hm
  clear hp h hn hok
  go_enter Tryd.func15, Tryd.ntmps15
  go_wp2
  go_loopw [3, 8] (fun s i wr => ∃ k : Nat, k ≤ n ∧ i = .int .i64 k ∧ s = .string ⟨(txT l k).toArray⟩ ∧ Below w.heap.size w wr) (fun _ i _ => n - (intOf i).toNat)
  case atStart => exact ⟨0, by omega, rfl, rfl, Below.refl _ _⟩
  case round =>
    obtain ⟨k, hk, rfl, rfl, hb⟩ := hrel
    by_cases hlt : k < n
    · obtain ⟨g, rfl, hc0⟩ := HP.out k (by rw [← HN.out]; exact hlt)
      obtain ⟨c0, c1, c2⟩ := X3.below hc0 hb
      have hg := cell_lt c0
      clear hc0
      have hro := HOK.out _ (td_mem (l := l) (k := k) (by rw [← HN.out]; exact hlt))
      have hnx := txT_next (l := l) (k := k) (by rw [← HN.out]; exact hlt)
      have hln := txT_len HOK.out k (by rw [← HN.out]; omega)
      obtain ⟨I, J, C, hrd⟩ : ∃ I J C, td l k = (I, J, C) := ⟨_, _, _, rfl⟩
      rw [hrd] at c0 c1 c2 hro hnx
      have hxl := tmE_len hro
      obtain ⟨p1, p2, p3, p4, -, p6, p7⟩ := ryT_parts hro
      simp only at p1 p2 p3 p4 p6 p7 c0 c1 c2
      obtain ⟨c, rfl⟩ : ∃ t : Nat, C = t := ⟨C.toNat, by omega⟩
      rw [tmE_eq] at hxl hnx
      simp only [List.length_append, List.length_cons, List.length_nil] at hxl
      obtain ⟨G1, hG1⟩ : ∃ G : ByteArray, G = ⟨(Lib.decDigits c ++ [42]).toArray⟩ := ⟨_, rfl⟩
      obtain ⟨G2, hG2⟩ : ∃ G : ByteArray, G = ⟨(Lib.decDigits c ++ [42] ++ Lib.itoa I).toArray⟩ := ⟨_, rfl⟩
      obtain ⟨G3, hG3⟩ : ∃ G : ByteArray, G = ⟨(Lib.decDigits c ++ [42] ++ Lib.itoa I ++ [44]).toArray⟩ := ⟨_, rfl⟩
      obtain ⟨G4, hG4⟩ : ∃ G : ByteArray, G = ⟨(Lib.decDigits c ++ [42] ++ Lib.itoa I ++ [44] ++ Lib.itoa J).toArray⟩ := ⟨_, rfl⟩
      obtain ⟨G5, hG5⟩ : ∃ G : ByteArray, G = ⟨(Lib.decDigits c ++ [42] ++ Lib.itoa I ++ [44] ++ Lib.itoa J ++ [59]).toArray⟩ := ⟨_, rfl⟩
      obtain ⟨G6, hG6⟩ : ∃ G : ByteArray, G = ⟨(txT l (k + 1)).toArray⟩ := ⟨_, rfl⟩
      obtain ⟨G0, hG0⟩ : ∃ G : ByteArray, G = ⟨(txT l k).toArray⟩ := ⟨_, rfl⟩
      have s1 : ∀ w, (Op.stringOp .add ⟨(Lib.decDigits c).toArray⟩ ⟨#[42]⟩).run Tryd.prog w = .ok (.string G1) w := fun w => add_tm (Lib.decDigits c) [42] (by simp; omega) w _ _ _ rfl rfl hG1
      have s2 : ∀ w, (Op.stringOp .add G1 ⟨(Lib.itoa I).toArray⟩).run Tryd.prog w = .ok (.string G2) w := fun w => add_tm (Lib.decDigits c ++ [42]) (Lib.itoa I) (by simp; omega) w _ _ _ hG1 rfl hG2
      have s3 : ∀ w, (Op.stringOp .add G2 ⟨#[44]⟩).run Tryd.prog w = .ok (.string G3) w := fun w => add_tm (Lib.decDigits c ++ [42] ++ Lib.itoa I) [44] (by simp; omega) w _ _ _ hG2 rfl hG3
      have s4 : ∀ w, (Op.stringOp .add G3 ⟨(Lib.itoa J).toArray⟩).run Tryd.prog w = .ok (.string G4) w := fun w => add_tm (Lib.decDigits c ++ [42] ++ Lib.itoa I ++ [44]) (Lib.itoa J) (by simp; omega) w _ _ _ hG3 rfl hG4
      have s5 : ∀ w, (Op.stringOp .add G4 ⟨#[59]⟩).run Tryd.prog w = .ok (.string G5) w := fun w => add_tm (Lib.decDigits c ++ [42] ++ Lib.itoa I ++ [44] ++ Lib.itoa J) [59] (by simp; omega) w _ _ _ hG4 rfl hG5
      have s6 : ∀ w, (Op.stringOp .add G0 G5).run Tryd.prog w = .ok (.string G6) w := fun w => add_tm (txT l k) (Lib.decDigits c ++ [42] ++ Lib.itoa I ++ [44] ++ Lib.itoa J ++ [59]) (by simp; omega) w _ _ _ hG0 hG5 (by rw [hG6, hnx])
      rw [← hG0]
      have HG6 := Lib.hid hG6
      have hS := T3.new wr (I, J, (c : Int)) 37
      clear hro hrd hnx hln hxl hG0 hG1 hG2 hG3 hG4 hG5 hG6
      go_wp2_with fail
      have hbS := hb.alloc hb.size (.cells #[.int .i64 I, .int .i64 J, .int .i64 (c : Int)] 37)
      go_region_held3 (fun w' => w'.cell? ⟨wr.heap.size, 0, none⟩ = some (.int .i64 I) ∧ w'.cell? ⟨wr.heap.size, 1, none⟩ = some (.int .i64 J) ∧ w'.cell? ⟨wr.heap.size, 2, none⟩ = some (.int .i64 (c : Int)) ∧ Below w.heap.size w w') (repeat' (first | with_reducible exact C4.new hS hbS | with_reducible assumption | with_reducible refine C4.below ?_ (by assumption) | with_reducible refine C4.drew ?_ | with_reducible refine C4.drewN ?_ _)) (first | (go_at_call 31; refine (l1Int_any _ (by omega) _).mono ?_; rintro e w2 ⟨rfl, b2⟩) | (go_at_call 30; refine (l1Num_any _ (by omega) _).mono ?_; rintro e w2 ⟨rfl, b2⟩))
      go_wp2
      go_roundw
      case rel => exact ⟨k + 1, by omega, by go_num, by rw [HG6.out], C4.bel (g := wr.heap.size) (a := I) (b := J) (c := (c : Int)) (by assumption)⟩
      case measure => simp [intOf]; omega
    · obtain rfl : n = k := by omega
      go_wp2
      go_ret
      exact ⟨rfl, hb⟩
set_option maxHeartbeats 1000000 in
theorem specStarText_any (w : World) (B : Nat) (v : Value) (l : List Tm) (h : RyS w B v l) : Calls Tryd.prog 6 #[v] w fun e w' => GivesSX l w e w' := by
  cases hz : ryB l
  · have HQ := Lib.hid hz
    go_enter Tryd.func6, Tryd.ntmps6
    go_wp2_with fail
    refine (stGood_any _ B _ l h).mono ?_
    rintro e w1 ⟨rfl, b1⟩
    rw [HQ.out]
    go_wp2
    go_ret2
    exact givesSX_no HQ.out b1
  · have HQ := Lib.hid hz
    have HB := Lib.hid ((ryB_iff l).1 hz)
    go_enter Tryd.func6, Tryd.ntmps6
    go_wp2_with fail
    refine (stGood_any _ B _ l h).mono ?_
    rintro e w1 ⟨rfl, b1⟩
    rw [HQ.out]
    go_wp2_with fail
    refine (stText_any _ B _ l (h.below b1) HB.out.1 HB.out.2.1).mono ?_
    rintro e w2 ⟨rfl, b2⟩
    go_wp2
    go_ret2
    exact givesSX_yes HQ.out (sxTR_yes HQ.out).symm (bel2 b1 b2)
end Go.Proofs.YthegkifhbgopoaaDoor

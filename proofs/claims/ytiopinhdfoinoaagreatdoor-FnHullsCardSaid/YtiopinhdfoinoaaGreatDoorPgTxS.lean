/-
  Texts of lists of points, of the model: what each call returns.
  Conditions: the slice reads as the list that is named.
-/
import Derived.Test.YtiopinhdfoinoaaGreatDoorPgTM
import Derived.Test.YtiopinhdfoinoaaGreatDoorText
namespace Go.Proofs.YtiopinhdfoinoaaGreatDoor
set_option linter.unusedSimpArgs false
set_option linter.unusedVariables false
open Go.ChangeShapes Go.WideShapes Go.ChangeAt Go.RowKit

abbrev C2 (w : World) (g : Nat) (a b : Int) (x : World) : Prop := w.cell? ⟨g, 0, none⟩ = some (.int .i64 a) ∧ w.cell? ⟨g, 1, none⟩ = some (.int .i64 b) ∧ Below x.heap.size x w
section
variable {w w' x : World} {g : Nat} {a b : Int}
theorem C2.new (h : P2 w g (a, b)) (hb : Below x.heap.size x w) : C2 w g a b x := ⟨h.1, h.2, hb⟩
theorem C2.below (h : C2 w g a b x) (hb : Below w.heap.size w w') : C2 w' g a b x :=
  ⟨(hb.cell (p := ⟨g, 0, none⟩) (cell_lt h.1)).trans h.1, (hb.cell (p := ⟨g, 1, none⟩) (cell_lt h.2.1)).trans h.2.1, bel2 h.2.2 hb⟩
theorem C2.bel (h : C2 w g a b x) : Below x.heap.size x w := h.2.2
theorem C2.drew (h : C2 w g a b x) : C2 w.drew g a b x := ⟨h.1, h.2.1, h.2.2.drew⟩
theorem C2.drewN (h : C2 w g a b x) (n : Nat) : C2 (w.drewN n) g a b x := ⟨h.1, h.2.1, belN h.2.2 n⟩
end
set_option maxHeartbeats 8000000 in
set_option maxRecDepth 100000 in
theorem pyText_any (w : World) (B : Nat) (v : Value) (l : List Pt) (h : PtS w B v l) (hL : l.length ≤ 1000) (hok : ∀ t ∈ l, Sm 1000000000 t) : Calls Tryz.prog 36 #[v] w fun e w' => Says (pyA l) w e w' := by
  obtain ⟨A, cap, rfl, hm, hp⟩ := PtS.parts h
  have HP := Lib.hid hp
  have HL := Lib.hid hL
  have HOK := Lib.hid hok
  have HA := Lib.hid (show pyA l = pyT l l.length from rfl)
  obtain ⟨n, hn⟩ : ∃ n, n = l.length := ⟨_, rfl⟩
  have HN := Lib.hid hn
  rw [← hn] at hm hL ⊢
  unfold maxLen at hm
  clear hp h hn hok
  go_enter Tryz.func36, Tryz.ntmps36
  go_wp2
  go_loopw [3, 8] (fun s i wr => ∃ k : Nat, k ≤ n ∧ i = .int .i64 k ∧ s = .string ⟨(pyT l k).toArray⟩ ∧ Below w.heap.size w wr) (fun _ i _ => n - (intOf i).toNat)
  case atStart => exact ⟨0, by omega, rfl, rfl, Below.refl _ _⟩
  case round =>
    obtain ⟨k, hk, rfl, rfl, hb⟩ := hrel
    by_cases hlt : k < n
    · obtain ⟨g, rfl, hc0⟩ := HP.out k (by rw [← HN.out]; exact hlt)
      obtain ⟨c0, c1⟩ := X2.below hc0 hb
      have hg := cell_lt c0
      clear hc0
      have hro := HOK.out _ (pd_mem (l := l) (k := k) (by rw [← HN.out]; exact hlt))
      have hnx := pyT_next (l := l) (k := k) (by rw [← HN.out]; exact hlt)
      have hln := pyT_len HOK.out k (by rw [← HN.out]; omega)
      obtain ⟨I, J, hrd⟩ : ∃ I J, pd l k = (I, J) := ⟨_, _, rfl⟩
      rw [hrd] at c0 c1 hro hnx
      have hxl := pyE_len hro
      unfold Sm at hro
      simp only at hro c0 c1
      unfold pyE pyx at hxl hnx
      simp only at hxl hnx
      simp only [List.length_append, List.length_cons, List.length_nil] at hxl
      obtain ⟨G1, hG1⟩ : ∃ G : ByteArray, G = ⟨(Lib.itoa I ++ [44]).toArray⟩ := ⟨_, rfl⟩
      obtain ⟨G2, hG2⟩ : ∃ G : ByteArray, G = ⟨(Lib.itoa I ++ [44] ++ Lib.itoa J).toArray⟩ := ⟨_, rfl⟩
      obtain ⟨G5, hG5⟩ : ∃ G : ByteArray, G = ⟨(Lib.itoa I ++ [44] ++ Lib.itoa J ++ [59]).toArray⟩ := ⟨_, rfl⟩
      obtain ⟨G6, hG6⟩ : ∃ G : ByteArray, G = ⟨(pyT l (k + 1)).toArray⟩ := ⟨_, rfl⟩
      obtain ⟨G0, hG0⟩ : ∃ G : ByteArray, G = ⟨(pyT l k).toArray⟩ := ⟨_, rfl⟩
      have s1 : ∀ w, (Op.stringOp .add ⟨(Lib.itoa I).toArray⟩ ⟨#[44]⟩).run Tryz.prog w = .ok (.string G1) w := fun w => add_tm (Lib.itoa I) [44] (by simp; omega) w _ _ _ rfl rfl hG1
      have s2 : ∀ w, (Op.stringOp .add G1 ⟨(Lib.itoa J).toArray⟩).run Tryz.prog w = .ok (.string G2) w := fun w => add_tm (Lib.itoa I ++ [44]) (Lib.itoa J) (by simp; omega) w _ _ _ hG1 rfl hG2
      have s5 : ∀ w, (Op.stringOp .add G2 ⟨#[59]⟩).run Tryz.prog w = .ok (.string G5) w := fun w => add_tm (Lib.itoa I ++ [44] ++ Lib.itoa J) [59] (by simp; omega) w _ _ _ hG2 rfl hG5
      have s6 : ∀ w, (Op.stringOp .add G0 G5).run Tryz.prog w = .ok (.string G6) w := fun w => add_big (pyT l k) (Lib.itoa I ++ [44] ++ Lib.itoa J ++ [59]) (by simp; omega) w _ _ _ hG0 hG5 (by rw [hG6, hnx])
      rw [← hG0]
      have HG6 := Lib.hid hG6
      have hS := P2.new wr (I, J) 30
      clear hrd hnx hln hxl hG0 hG1 hG2 hG5 hG6
      go_wp2_with fail
      have hbS := hb.alloc hb.size (.cells #[.int .i64 I, .int .i64 J] 30)
      go_region_held3 (fun w' => w'.cell? ⟨wr.heap.size, 0, none⟩ = some (.int .i64 I) ∧ w'.cell? ⟨wr.heap.size, 1, none⟩ = some (.int .i64 J) ∧ Below w.heap.size w w') (repeat' (first | with_reducible exact C2.new hS hbS | with_reducible assumption | with_reducible refine C2.below ?_ (by assumption) | with_reducible refine C2.drew ?_ | with_reducible refine C2.drewN ?_ _)) (first | (go_at_call 65; refine (l1Int_any _ (by omega) _).mono ?_; rintro e w2 ⟨rfl, b2⟩) | (fail))
      go_wp2
      go_roundw
      case rel => exact ⟨k + 1, by omega, by go_num, by rw [HG6.out], C2.bel (g := wr.heap.size) (a := I) (b := J) (by assumption)⟩
      case measure => simp [intOf]; omega
    · obtain rfl : n = k := by omega
      go_wp2
      go_ret
      exact ⟨by rw [HA.out, show l.length = n from HN.out.symm]; rfl, hb⟩
set_option maxHeartbeats 1000000 in
theorem specPolygonText_any (w : World) (B : Nat) (v : Value) (l : List Pt) (h : PtS w B v l) : Calls Tryz.prog 14 #[v] w fun e w' => GivesPyX l w e w' := by
  cases hz : pgB l
  · have HQ := Lib.hid hz
    go_enter Tryz.func14, Tryz.ntmps14
    go_wp2_with fail
    refine (pyGood_any _ B _ l h).mono ?_
    rintro e w1 ⟨rfl, b1⟩
    rw [HQ.out]
    go_wp2
    go_ret2
    exact givesPyX_no HQ.out b1
  · have HQ := Lib.hid hz
    have HB := Lib.hid (pg_pts hz)
    go_enter Tryz.func14, Tryz.ntmps14
    go_wp2_with fail
    refine (pyGood_any _ B _ l h).mono ?_
    rintro e w1 ⟨rfl, b1⟩
    rw [HQ.out]
    go_wp2_with fail
    refine (pyText_any _ B _ l (FS.below h b1) (by have := HB.out.2.1; omega) (fun t ht => (HB.out.2.2 t ht).mono (by omega))).mono ?_
    rintro e w2 ⟨rfl, b2⟩
    go_wp2
    go_ret2
    exact givesPyX_yes HQ.out (pyR_yes HQ.out).symm (bel2 b1 b2)
end Go.Proofs.YtiopinhdfoinoaaGreatDoor

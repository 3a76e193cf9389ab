/-
  The model's draws of chapter 1: what each call returns.
  Condition: the bytes can be read; they are at most 1048576.
-/
import Derived.Test.YtmeabhfhjnabdaaDoorCur
import Derived.Test.YtmeabhfhjnabdaaDoorText
namespace Go.Proofs.YtmeabhfhjnabdaaDoor
open Go.ChangeShapes Go.WideShapes Go.ChangeAt Go.RowKit

theorem cur_new {w : World} {A : Option Addr} {n cap : Nat} (h : RB w w.heap.size A n) (hn : n ≤ 1048576) : Cur (w.alloc (.cells #[.slice A n cap, .int .i64 0, .int .u64 0] 55)) w.heap.size 0 := by
  refine ⟨A, n, cap, 0, 0, heap_alloc_new w _, Nat.le_refl _, hn, ⟨by omega, by omega⟩, fun k hk => ?_⟩
  obtain ⟨ad, c, h1, h2, h3, h4⟩ := h k hk
  refine ⟨ad, c, h1, h2, ?_, h4⟩
  have : (ad.add k).block = ad.block := by unfold Addr.add; split <;> rfl
  rw [World.cell?_alloc_lt w _ (ad.add k) (by omega)]
  exact h3
theorem bel_cur {w w' : World} {o : Obj} (h : (w.alloc o).grownBy w' (some w.heap.size)) : Below w.heap.size w w' :=
  ((Below.refl _ _).alloc (Nat.le_refl _) _).grown h (by simp) (fun k hk => by injection hk with hk; omega)
/-- The bytes that came in. -/
theorem RB.of_row {w : World} {A : Option Addr} {len cap : Nat} {zs : List Int} (h : IsRow .u8 w A len cap zs) : RB w w.heap.size A len := by
  rcases h with ⟨rfl, rfl, rfl, rfl⟩ | ⟨x, rfl, h1, h2, h3, h4, h5⟩
  · exact fun k hk => by omega
  · intro k hk
    have hl : k < zs.length := by omega
    have hc := h4 k hl
    have hx : x.block < w.heap.size := by
      have := cell_lt hc
      unfold Addr.add at this
      split at this <;> simpa using this
    have hm : zs.getD k 0 ∈ zs := by
      rw [List.getD_eq_getElem?_getD, List.getElem?_eq_getElem hl]; exact List.getElem_mem hl
    have hw := h5 _ hm
    have hb : 0 ≤ zs.getD k 0 ∧ zs.getD k 0 ≤ 255 := by simpa [Lit.wf, IntKind.min, IntKind.max, IntKind.bits, IntKind.signed] using hw
    obtain ⟨c, hcc⟩ : ∃ c : Nat, zs.getD k 0 = c := ⟨(zs.getD k 0).toNat, by omega⟩
    rw [hcc] at hc hb
    exact ⟨x, c, rfl, hx, hc, by omega⟩
theorem RB.below {w w' : World} {A : Option Addr} {n : Nat} (h : RB w w.heap.size A n) (hb : Below w.heap.size w w') : RB w' w'.heap.size A n := fun k hk => by
  obtain ⟨ad, c, h1, h2, h3, h4⟩ := h k hk
  have : (ad.add k).block = ad.block := by unfold Addr.add; split <;> rfl
  have hs := hb.size
  exact ⟨ad, c, h1, by omega, (hb.cell (p := ad.add k) (by omega)).trans h3, h4⟩
/-- Two numbers are drawn. -/
def Draws2 (w : World) (e : Ending) (w' : World) : Prop := ∃ a b : Int, e = .returned (.tuple #[.int .i64 a, .int .i64 b]) ∧ Below w.heap.size w w'
/-- A text is drawn. -/
def DrawsS (w : World) (e : Ending) (w' : World) : Prop := ∃ s : ByteArray, e = .returned (.string s) ∧ s.size ≤ 1000 ∧ Below w.heap.size w w'
theorem drawTropSum_any (w : World) (A : Option Addr) (n cap : Nat) (h : RB w w.heap.size A n) (hn : n ≤ 1048576) : Calls Tryd.prog 40 #[.slice A n cap] w fun e w' => Draws2 w e w' := by
  have hc := cur_new (cap := cap) h hn
  go_enter Tryd.func40, Tryd.ntmps40
  go_wp2_with fail
  refine (anyNum_any _ _ 0 hc (by omega)).mono ?_
  rintro e v1 ⟨a, rfl, -, hc1, hg1⟩
  go_wp2_with fail
  refine (anyNum_any _ _ _ hc1 (by omega)).mono ?_
  rintro e v2 ⟨c, rfl, -, hc2, hg2⟩
  go_wp2_with fail
  go_ret2
  exact ⟨_, _, rfl, bel_cur (grown_trans hg1 hg2)⟩
theorem drawTropProduct_any (w : World) (A : Option Addr) (n cap : Nat) (h : RB w w.heap.size A n) (hn : n ≤ 1048576) : Calls Tryd.prog 6 #[.slice A n cap] w fun e w' => Draws2 w e w' := by
  go_enter Tryd.func6, Tryd.ntmps6
  go_wp2_with fail
  refine (drawTropSum_any _ A n cap h hn).mono ?_
  rintro e v1 ⟨a, c, rfl, hb⟩
  go_wp2_with fail
  go_ret2
  exact ⟨_, _, rfl, hb⟩
set_option maxHeartbeats 1000000 in
theorem drawTropPower_any (w : World) (A : Option Addr) (n cap : Nat) (h : RB w w.heap.size A n) (hn : n ≤ 1048576) : Calls Tryd.prog 14 #[.slice A n cap] w fun e w' => Draws2 w e w' := by
  have hc := cur_new (cap := cap) h hn
  go_enter Tryd.func14, Tryd.ntmps14
  go_wp2_with fail
  refine (anyNum_any _ _ 0 hc (by omega)).mono ?_
  rintro e v1 ⟨a, rfl, -, hc1, hg1⟩
  go_wp2_with fail
  refine (anyNum_any _ _ _ hc1 (by omega)).mono ?_
  rintro e v2 ⟨c, rfl, -, hc2, hg2⟩
  have l2 := hc2.lt
  go_wp2_with fail
  refine (among_any _ _ _ v2.heap.size _ [a, c, 50000, -50001] (IS.lit v2 [a, c, 50000, -50001] (by simp)) (lit_away l2) (by simp) (hc2.alloc _) (by omega)).mono ?_
  rintro e v3 ⟨x, rfl, -, hc3, hg3⟩
  have l3 := hc3.lt
  go_wp2_with fail
  refine (among_any _ _ _ v3.heap.size _ [5, -1, 21] (IS.lit v3 [5, -1, 21] (by simp)) (lit_away l3) (by simp) (hc3.alloc _) (by omega)).mono ?_
  rintro e v4 ⟨y, rfl, -, hc4, hg4⟩
  have l4 := hc4.lt
  go_wp2_with fail
  refine (among_any _ _ _ v4.heap.size _ [0, 1, 2, 3, 20, y] (IS.lit v4 [0, 1, 2, 3, 20, y] (by simp)) (lit_away l4) (by simp) (hc4.alloc _) (by omega)).mono ?_
  rintro e v5 ⟨z, rfl, -, hc5, hg5⟩
  go_wp2_with fail
  go_ret2
  exact ⟨_, _, rfl, bel_cur (grown_trans (grown_alloc (grown_trans (grown_alloc (grown_trans (grown_alloc (grown_trans hg1 hg2) _) hg3) _) hg4) _) hg5)⟩
theorem numText_len {n : Int} (h : numB n = true) : (ByteArray.mk (numText n).toArray).size ≤ 30 := by
  have h0 : (ByteArray.mk (numText n).toArray).size = (numText n).length := by show (numText n).toArray.size = _; simp
  rw [h0]
  have hb := numB_bd h
  unfold numText
  split
  · simp
  · unfold Lib.itoa
    split
    · have := Lib.nDigits_le20 n.natAbs (by omega)
      rw [List.length_cons, Lib.decDigits_length]
      omega
    · have := Lib.nDigits_le20 n.toNat (by omega)
      rw [Lib.decDigits_length]
      omega
/-- The texts that are nearly right. -/
def spoils : List ByteArray := [⟨#[]⟩, ⟨#[105, 110, 102]⟩, ⟨#[45, 105, 110, 102]⟩, ⟨#[45, 48]⟩, ⟨#[48, 49]⟩, ⟨#[49, 48, 48, 48, 48, 48, 48]⟩, ⟨#[49, 48, 48, 48, 48, 48, 49]⟩, ⟨#[45, 49, 48, 48, 48, 48, 48, 48]⟩, ⟨#[49, 48, 48, 48, 48, 48, 48, 48, 48, 48]⟩, ⟨#[43, 49]⟩, ⟨#[45]⟩, ⟨#[73, 110, 102]⟩]
theorem spoils_len {s : ByteArray} (h : s ∈ spoils) : s.size ≤ 1000 := by
  have : ∀ x ∈ spoils, x.size ≤ 1000 := by decide
  exact this s h
set_option maxHeartbeats 1000000 in
theorem drawParseNumber_any (w : World) (A : Option Addr) (n cap : Nat) (h : RB w w.heap.size A n) (hn : n ≤ 1048576) : Calls Tryd.prog 19 #[.slice A n cap] w fun e w' => DrawsS w e w' := by
  have hc := cur_new (cap := cap) h hn
  go_enter Tryd.func19, Tryd.ntmps19
  go_wp2_with fail
  refine (num_any _ _ 0 hc (by omega)).mono ?_
  rintro e v1 ⟨a, rfl, ha, hc1, hg1⟩
  have HA := Lib.hid ha
  clear ha
  go_wp2_with fail
  refine (nuText_any a HA.out _).mono ?_
  rintro e v2 ⟨rfl, b2⟩
  have HL := Lib.hid (numText_len HA.out)
  have hc2 := hc1.below b2
  have hl1 := hc1.lt
  have hg2 : (w.alloc (.cells #[.slice A n cap, .int .i64 0, .int .u64 0] 55)).grownBy v2 (some w.heap.size) := Lib.grownBy_below hg1 b2
  generalize hT : (ByteArray.mk (numText a).toArray) = T at *
  clear hT
  go_wp2_with fail
  refine (pick_any 4 (by omega) _ _ _ hc2 (by omega)).mono ?_
  rintro e v3 ⟨r, rfl, -, hc3, hg3⟩
  cases e0 : r == 0
  · cases e1 : r == 1
    · go_wp2
      go_ret
      exact ⟨T, rfl, by have := HL.out; omega, bel_cur (grown_trans hg2 hg3)⟩
    · have l3 := hc3.lt
      go_wp2_with fail
      refine (of_any _ _ _ v3.heap.size _ spoils (SS.lit v3 spoils (by decide)) (lit_away l3) (by decide) (hc3.alloc _) (by omega)).mono ?_
      rintro e v4 ⟨s, rfl, hs, hc4, hg4⟩
      have HS := Lib.hid (spoils_len hs)
      clear hs
      go_wp2
      go_ret
      exact ⟨s, rfl, HS.out, bel_cur (grown_trans (grown_alloc (grown_trans hg2 hg3) _) hg4)⟩
  · go_wp2_with fail
    refine (spoilt_any T _ 30 HL.out (by omega) (by decide) _ _ _ hc3 (by omega)).mono ?_
    rintro e v4 ⟨s, rfl, hs, hc4, hg4⟩
    go_wp2
    go_ret
    exact ⟨s, rfl, by omega, bel_cur (grown_trans (grown_trans hg2 hg3) hg4)⟩
end Go.Proofs.YtmeabhfhjnabdaaDoor

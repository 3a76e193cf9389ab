/-
  Texts of stars, of the program: what each call returns.
  Conditions: the slice reads as the list that is named; the program's two tables and the library's table of powers read as their text lays them.
-/
import Derived.Test.YthegkifhbgopoaaDoorRy
import Derived.Test.YthegkifhbgopoaaDoorParse
import Derived.Test.YthegkifhbgopoaaDoorBuild
import Derived.Test.YthegkifhbgopoaaDoorTx
namespace Go.Proofs.YthegkifhbgopoaaDoor
set_option linter.unusedSimpArgs false
set_option linter.unusedVariables false
open Go.ChangeShapes Go.WideShapes Go.ChangeAt Go.RowKit

/-- A ray's text but for its end; and with it. -/
def tmx (t : Tm) : List UInt8 := Lib.itoa t.2.2 ++ [42] ++ Lib.itoa t.1 ++ [44] ++ Lib.itoa t.2.1
def tmE (t : Tm) : List UInt8 := tmx t ++ [59]
def txT (l : List Tm) (k : Nat) : List UInt8 := (l.take k).flatMap tmE
theorem txT_next {l : List Tm} {k : Nat} (hk : k < l.length) : txT l (k + 1) = txT l k ++ tmE (td l k) := by
  unfold txT
  rw [take_td l k hk, List.flatMap_append]
  simp
theorem tmE_len {t : Tm} (h : ryT t = true) : (tmE t).length ≤ 36 := by
  obtain ⟨h1, h2, h3, h4, -, h6, h7⟩ := ryT_parts h
  have a := itoa_sh t.1 (by omega)
  have b := itoa_sh t.2.1 (by omega)
  have c := itoa_sh t.2.2 (by omega)
  unfold tmE tmx
  simp only [List.length_append, List.length_cons, List.length_nil]
  omega
theorem txT_len {l : List Tm} (h : ∀ t ∈ l, ryT t = true) : ∀ k, k ≤ l.length → (txT l k).length ≤ 36 * k
  | 0, _ => by simp [txT]
  | k + 1, hk => by
    have ih := txT_len h k (by omega)
    have := tmE_len (h _ (td_mem (l := l) (k := k) (by omega)))
    rw [txT_next (by omega), List.length_append]; omega
def sxTR (l : List Tm) : List UInt8 := if ryB l = true then txT l l.length else []
theorem sxTR_yes {l : List Tm} (h : ryB l = true) : sxTR l = txT l l.length := if_pos h
theorem sxTR_no {l : List Tm} (h : ryB l = false) : sxTR l = [] := if_neg (by simp [h])
def GivesSX (zs : List Tm) (w : World) (e : Ending) (w' : World) : Prop := e = .returned (.tuple #[.string ⟨(sxTR zs).toArray⟩, .bool (ryB zs)]) ∧ Below w.heap.size w w'
theorem givesSX_no {zs : List Tm} {w w' : World} (h : ryB zs = false) (hb : Below w.heap.size w w') : GivesSX zs w (.returned (.tuple #[.string ⟨#[]⟩, .bool false])) w' := by
  refine ⟨?_, hb⟩
  rw [h, sxTR_no h]
theorem givesSX_yes {zs : List Tm} {l : List UInt8} {w w' : World} (h : ryB zs = true) (hl : l = sxTR zs) (hb : Below w.heap.size w w') : GivesSX zs w (.returned (.tuple #[.string ⟨l.toArray⟩, .bool true])) w' := by
  refine ⟨?_, hb⟩
  rw [h, hl]
theorem T3.drew {w : World} {g : Nat} {t : Tm} (h : T3 w g t) : T3 w.drew g t := h
theorem T3.drewN {w : World} {g : Nat} {t : Tm} (h : T3 w g t) (n : Nat) : T3 (w.drewN n) g t := h
/-- The pieces of a ray's text. -/
theorem tmE_eq (I J : Int) (c : Nat) : tmE (I, J, (c : Int)) = Lib.decDigits c ++ [42] ++ Lib.itoa I ++ [44] ++ Lib.itoa J ++ [59] := by
  show Lib.itoa (c : Int) ++ [42] ++ Lib.itoa I ++ [44] ++ Lib.itoa J ++ [59] = _
  rw [Lib.itoa_nonneg c]
set_option maxHeartbeats 1000000 in
set_option maxRecDepth 100000 in
theorem implStarText_any (w : World) (hN : Neut w) (hS : Names w) (hP : Pows w) (B : Nat) (v : Value) (l : List Tm) (h : RyS w B v l) : Calls Tryd.prog 8 #[v] w fun e w' => GivesSX l w e w' := by
  have HPW := Lib.hid (And.intro hN (And.intro hS hP))
  clear hN hS hP
  cases hz : ryB l
  · have HQ := Lib.hid hz
    go_enter Tryd.func8, Tryd.ntmps8
    go_wp2_with fail
    refine (isStar_any _ B _ l h).mono ?_
    rintro e w1 ⟨rfl, b1⟩
    rw [HQ.out]
    go_wp2
    go_ret2
    exact givesSX_no HQ.out b1
  · have HQ := Lib.hid hz
    have HB := Lib.hid ((ryB_iff l).1 hz)
    have HIS := isStar_any w B v l h
    obtain ⟨A, cap, rfl, hm, hp⟩ := RyS.parts h
    have HP := Lib.hid hp
    have HX := Lib.hid (show txT l l.length = sxTR l by rw [sxTR_yes HQ.out])
    obtain ⟨n, hn⟩ : ∃ n, n = l.length := ⟨_, rfl⟩
    have HN := Lib.hid hn
    have hL : n ≤ 10 := by rw [hn]; exact HB.out.1
    rw [← hn] at hm HIS ⊢
    unfold maxLen at hm
    have HI := Lib.hid HIS
    clear hp h hn hz HIS
    go_enter Tryd.func8, Tryd.ntmps8
    go_wp2_with fail
    refine HI.out.mono ?_
    rintro e w1 ⟨rfl, b1⟩
    rw [HQ.out]
    have HB1 := Lib.hid b1
    have HFB := Lib.hid (Lib.fresh_isBuilder 43 5 w1)
    clear b1
    go_wp2
    go_loopw [18] (fun i wr => ∃ k : Nat, k ≤ n ∧ i = .int .i64 k ∧ Bd wr w1.heap.size w1.heap.size (Lib.byteCells (txT l k)) ∧ Below w1.heap.size w1 wr) (fun i _ => n - (intOf i).toNat)
    case atStart => exact ⟨0, by omega, rfl, HFB.out, (Below.refl _ _).alloc (Nat.le_refl _) _⟩
    case round =>
      obtain ⟨k, hk, rfl, hbd, hb⟩ := hrel
      have HBD := Lib.hid hbd
      have hs1 := hb.size
      clear hbd
      by_cases hlt : k < n
      · obtain ⟨g, rfl, hc0⟩ := HP.out k (by rw [← HN.out]; exact hlt)
        obtain ⟨c0, c1, c2⟩ := X3.below (X3.below hc0 HB1.out) hb
        have hg := cell_lt c0
        clear hc0
        have hro := HB.out.2.1 _ (td_mem (l := l) (k := k) (by rw [← HN.out]; exact hlt))
        have hnx := txT_next (l := l) (k := k) (by rw [← HN.out]; exact hlt)
        have hln := txT_len HB.out.2.1 k (by rw [← HN.out]; omega)
        obtain ⟨i, j, C, hrd⟩ : ∃ I J C, td l k = (I, J, C) := ⟨_, _, _, rfl⟩
        rw [hrd] at c0 c1 c2 hro hnx
        have hxl := tmE_len hro
        obtain ⟨p1, p2, p3, p4, -, p6, p7⟩ := ryT_parts hro
        simp only at p1 p2 p3 p4 p6 p7 c0 c1 c2
        have HT := Lib.hid (And.intro (ntL_small (n := i) (by omega)) (And.intro (ntL_small (n := j) (by omega)) (ntL_small (n := C) (by omega))))
        unfold tmE tmx at hxl hnx
        simp only at hxl hnx
        have hxl2 := hxl
        simp only [List.length_append, List.length_cons, List.length_nil] at hxl
        obtain ⟨G1, hG1⟩ : ∃ G : ByteArray, G = ⟨(Lib.itoa C ++ [42]).toArray⟩ := ⟨_, rfl⟩
        obtain ⟨G2, hG2⟩ : ∃ G : ByteArray, G = ⟨(Lib.itoa C ++ [42] ++ Lib.itoa i).toArray⟩ := ⟨_, rfl⟩
        obtain ⟨G3, hG3⟩ : ∃ G : ByteArray, G = ⟨(Lib.itoa C ++ [42] ++ Lib.itoa i ++ [44]).toArray⟩ := ⟨_, rfl⟩
        obtain ⟨G4, hG4⟩ : ∃ G : ByteArray, G = ⟨(Lib.itoa C ++ [42] ++ Lib.itoa i ++ [44] ++ Lib.itoa j).toArray⟩ := ⟨_, rfl⟩
        obtain ⟨G5, hG5⟩ : ∃ G : ByteArray, G = ⟨(Lib.itoa C ++ [42] ++ Lib.itoa i ++ [44] ++ Lib.itoa j ++ [59]).toArray⟩ := ⟨_, rfl⟩
        have s1 : ∀ w, (Op.stringOp .add ⟨(Lib.itoa C).toArray⟩ ⟨#[42]⟩).run Tryd.prog w = .ok (.string G1) w := fun w => add_tm (Lib.itoa C) [42] (by simp; omega) w _ _ _ rfl rfl hG1
        have s2 : ∀ w, (Op.stringOp .add G1 ⟨(Lib.itoa i).toArray⟩).run Tryd.prog w = .ok (.string G2) w := fun w => add_tm (Lib.itoa C ++ [42]) (Lib.itoa i) (by simp; omega) w _ _ _ hG1 rfl hG2
        have s3 : ∀ w, (Op.stringOp .add G2 ⟨#[44]⟩).run Tryd.prog w = .ok (.string G3) w := fun w => add_tm (Lib.itoa C ++ [42] ++ Lib.itoa i) [44] (by simp; omega) w _ _ _ hG2 rfl hG3
        have s4 : ∀ w, (Op.stringOp .add G3 ⟨(Lib.itoa j).toArray⟩).run Tryd.prog w = .ok (.string G4) w := fun w => add_tm (Lib.itoa C ++ [42] ++ Lib.itoa i ++ [44]) (Lib.itoa j) (by simp; omega) w _ _ _ hG3 rfl hG4
        have s5 : ∀ w, (Op.stringOp .add G4 ⟨#[59]⟩).run Tryd.prog w = .ok (.string G5) w := fun w => add_tm (Lib.itoa C ++ [42] ++ Lib.itoa i ++ [44] ++ Lib.itoa j) [59] (by simp; omega) w _ _ _ hG4 rfl hG5
        have HCELLS := Lib.hid (show Lib.byteCells (txT l k) ++ Lib.strCells G5 = Lib.byteCells (txT l (k + 1)) by rw [hnx, hG5, Lib.byteCells_append]; rfl)
        have HSZ := Lib.hid (show (Lib.byteCells (txT l k)).length + G5.size ≤ 100000000 by
          have hs : G5.size = (Lib.itoa C ++ [42] ++ Lib.itoa i ++ [44] ++ Lib.itoa j ++ [59]).length := by rw [hG5]; show (List.toArray _).size = _; simp
          rw [Lib.byteCells_length, hs]; omega)
        have hS := T3.new wr (i, j, C) 37
        have hbx := (Below.refl wr.heap.size wr).alloc (Nat.le_refl _) (.cells #[.int .i64 i, .int .i64 j, .int .i64 C] 37)
        have HBX := Lib.hid hbx
        have HW1 := Lib.hid (show ∀ W, Below wr.heap.size wr W → Neut W ∧ Names W ∧ Pows W from fun W hW => ⟨((HPW.out.1.below HB1.out).below hb).below hW, ((HPW.out.2.1.below HB1.out).below hb).below hW, ((HPW.out.2.2.below HB1.out).below hb).below hW⟩)
        clear hro hrd hnx hln hxl hxl2 hG1 hG2 hG3 hG4 hG5 hbx
        go_wp2_with fail
        refine (implNumberText_any C _ (HW1.out _ HBX.out).1 (HW1.out _ HBX.out).2.1 (HW1.out _ HBX.out).2.2).mono ?_
        rintro e w2 ⟨rfl, b2⟩
        rw [HT.out.2.2]
        have hS2 := hS.below b2
        have HS2 := Lib.hid hS2
        obtain ⟨d0, d1, d2⟩ := hS2
        have hg2 := cell_lt d0
        have HB2 := Lib.hid (bel2 HBX.out b2)
        clear hS b2
        go_wp2_with fail
        refine (implNumberText_any i _ (HW1.out _ HB2.out).1 (HW1.out _ HB2.out).2.1 (HW1.out _ HB2.out).2.2).mono ?_
        rintro e w3 ⟨rfl, b3⟩
        rw [HT.out.1]
        have hS3 := HS2.out.below b3
        obtain ⟨f0, f1, f2⟩ := hS3
        have hg3 := cell_lt f0
        have HB3 := Lib.hid (bel2 HB2.out b3)
        clear b3
        go_wp2_with fail
        refine (implNumberText_any j _ (HW1.out _ HB3.out).1 (HW1.out _ HB3.out).2.1 (HW1.out _ HB3.out).2.2).mono ?_
        rintro e w4 ⟨rfl, b4⟩
        rw [HT.out.2.1]
        have HB4 := Lib.hid (bel2 HB3.out b4)
        have HBD4 := Lib.hid (HBD.out.below HB4.out)
        have HW4 := Lib.hid (bel2 hb HB4.out)
        have hs4 := HW4.out.size
        clear b4
        go_wp2_with fail
        refine (writeString_any _ _ _ _ _ HBD4.out HSZ.out hs4).mono ?_
        rintro e w5 ⟨rfl, hbd5, b5⟩
        rw [HCELLS.out] at hbd5
        go_wp2
        go_roundw
        case rel => exact ⟨k + 1, by omega, by go_num, .inr hbd5, HW4.out.trans b5⟩
        case measure => simp [intOf]; omega
      · obtain rfl : n = k := by omega
        go_wp2_with fail
        refine (Tryd.Builder_String_any _ _ _ _ HBD.out hs1).mono ?_
        rintro e w4 ⟨rfl, b4⟩
        go_wp2
        go_ret2
        exact givesSX_yes HQ.out (by rw [HN.out]; exact HX.out) (bel2 HB1.out (hb.trans b4))
end Go.Proofs.YthegkifhbgopoaaDoor

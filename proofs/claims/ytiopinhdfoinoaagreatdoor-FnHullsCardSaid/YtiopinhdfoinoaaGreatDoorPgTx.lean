/-
  PolygonText of the program: what the call returns.
  Conditions: the slice reads as the list that is named; the program's two tables and the library's table of powers read as their text lays them.
-/
import Derived.Test.YtiopinhdfoinoaaGreatDoorPgTM
import Derived.Test.YtiopinhdfoinoaaGreatDoorBuild
namespace Go.Proofs.YtiopinhdfoinoaaGreatDoor
set_option linter.unusedSimpArgs false
set_option linter.unusedVariables false
open Go.ChangeShapes Go.WideShapes Go.ChangeAt Go.RowKit

set_option maxHeartbeats 1000000 in
set_option maxRecDepth 100000 in
theorem implPolygonText_any (w : World) (hN : Neut w) (hS : Names w) (hP : Pows w) (B : Nat) (v : Value) (l : List Pt) (h : PtS w B v l) : Calls Tryz.prog 13 #[v] w fun e w' => GivesPyX l w e w' := by
  have HPW := Lib.hid (And.intro hN (And.intro hS hP))
  clear hN hS hP
  cases hz : pgB l
  · have HQ := Lib.hid hz
    go_enter Tryz.func13, Tryz.ntmps13
    go_wp2_with fail
    refine (implIsPolygon_any _ B _ l h).mono ?_
    rintro e w1 ⟨rfl, b1⟩
    rw [HQ.out]
    go_wp2
    go_ret2
    exact givesPyX_no HQ.out b1
  · have HQ := Lib.hid hz
    have HB := Lib.hid (pg_pts hz)
    have HIS := implIsPolygon_any w B v l h
    obtain ⟨A, cap, rfl, hm, hp⟩ := PtS.parts h
    have HP := Lib.hid hp
    have HX := Lib.hid (show pyT l l.length = pyR l by rw [pyR_yes HQ.out]; rfl)
    obtain ⟨n, hn⟩ : ∃ n, n = l.length := ⟨_, rfl⟩
    have HN := Lib.hid hn
    have hL : n ≤ 40 := by rw [hn]; exact HB.out.2.1
    rw [← hn] at hm HIS ⊢
    unfold maxLen at hm
    have HI := Lib.hid HIS
    clear hp h hn hz HIS
    go_enter Tryz.func13, Tryz.ntmps13
    go_wp2_with fail
    refine HI.out.mono ?_
    rintro e w1 ⟨rfl, b1⟩
    rw [HQ.out]
    have HB1 := Lib.hid b1
    have HFB := Lib.hid (Lib.fresh_isBuilder 50 5 w1)
    clear b1
    go_wp2
    go_loopw [16] (fun i wr => ∃ k : Nat, k ≤ n ∧ i = .int .i64 k ∧ Bd wr w1.heap.size w1.heap.size (Lib.byteCells (pyT l k)) ∧ Below w1.heap.size w1 wr) (fun i _ => n - (intOf i).toNat)
    case atStart => exact ⟨0, by omega, rfl, HFB.out, (Below.refl _ _).alloc (Nat.le_refl _) _⟩
    case round =>
      obtain ⟨k, hk, rfl, hbd, hb⟩ := hrel
      have HBD := Lib.hid hbd
      have hs1 := hb.size
      clear hbd
      by_cases hlt : k < n
      · obtain ⟨g, rfl, hc0⟩ := HP.out k (by rw [← HN.out]; exact hlt)
        obtain ⟨c0, c1⟩ := X2.below (X2.below hc0 HB1.out) hb
        have hg := cell_lt c0
        clear hc0
        have hro := HB.out.2.2 _ (pd_mem (l := l) (k := k) (by rw [← HN.out]; exact hlt))
        have hnx := pyT_next (l := l) (k := k) (by rw [← HN.out]; exact hlt)
        have hln := pyT_len (l := l) (fun t ht => (HB.out.2.2 t ht).mono (by omega)) k (by rw [← HN.out]; omega)
        obtain ⟨i, j, hrd⟩ : ∃ I J, pd l k = (I, J) := ⟨_, _, rfl⟩
        rw [hrd] at c0 c1 hro hnx
        have hxl := pyE_len (hro.mono (show 100 ≤ 1000000000 by omega))
        unfold Sm at hro
        simp only at hro c0 c1
        have HT := Lib.hid (And.intro (ntL_small (n := i) (by omega)) (ntL_small (n := j) (by omega)))
        unfold pyE pyx at hxl hnx
        simp only at hxl hnx
        simp only [List.length_append, List.length_cons, List.length_nil] at hxl
        obtain ⟨G1, hG1⟩ : ∃ G : ByteArray, G = ⟨(Lib.itoa i ++ [44]).toArray⟩ := ⟨_, rfl⟩
        obtain ⟨G2, hG2⟩ : ∃ G : ByteArray, G = ⟨(Lib.itoa i ++ [44] ++ Lib.itoa j).toArray⟩ := ⟨_, rfl⟩
        obtain ⟨G5, hG5⟩ : ∃ G : ByteArray, G = ⟨(Lib.itoa i ++ [44] ++ Lib.itoa j ++ [59]).toArray⟩ := ⟨_, rfl⟩
        have s1 : ∀ w, (Op.stringOp .add ⟨(Lib.itoa i).toArray⟩ ⟨#[44]⟩).run Tryz.prog w = .ok (.string G1) w := fun w => add_tm (Lib.itoa i) [44] (by simp; omega) w _ _ _ rfl rfl hG1
        have s2 : ∀ w, (Op.stringOp .add G1 ⟨(Lib.itoa j).toArray⟩).run Tryz.prog w = .ok (.string G2) w := fun w => add_tm (Lib.itoa i ++ [44]) (Lib.itoa j) (by simp; omega) w _ _ _ hG1 rfl hG2
        have s5 : ∀ w, (Op.stringOp .add G2 ⟨#[59]⟩).run Tryz.prog w = .ok (.string G5) w := fun w => add_tm (Lib.itoa i ++ [44] ++ Lib.itoa j) [59] (by simp; omega) w _ _ _ hG2 rfl hG5
        have HCELLS := Lib.hid (show Lib.byteCells (pyT l k) ++ Lib.strCells G5 = Lib.byteCells (pyT l (k + 1)) by rw [hnx, hG5, Lib.byteCells_append]; rfl)
        have HSZ := Lib.hid (show (Lib.byteCells (pyT l k)).length + G5.size ≤ 100000000 by
          have hs : G5.size = (Lib.itoa i ++ [44] ++ Lib.itoa j ++ [59]).length := by rw [hG5]; show (List.toArray _).size = _; simp
          rw [Lib.byteCells_length, hs]; simp only [List.length_append, List.length_cons, List.length_nil]; omega)
        have hS := P2.new wr (i, j) 30
        have hbx := (Below.refl wr.heap.size wr).alloc (Nat.le_refl _) (.cells #[.int .i64 i, .int .i64 j] 30)
        have HBX := Lib.hid hbx
        have HW1 := Lib.hid (show ∀ W, Below wr.heap.size wr W → Neut W ∧ Names W ∧ Pows W from fun W hW => ⟨((HPW.out.1.below HB1.out).below hb).below hW, ((HPW.out.2.1.below HB1.out).below hb).below hW, ((HPW.out.2.2.below HB1.out).below hb).below hW⟩)
        clear hro hrd hnx hln hxl hG1 hG2 hG5 hbx
        go_wp2_with fail
        refine (implNumberText_any i _ (HW1.out _ HBX.out).1 (HW1.out _ HBX.out).2.1 (HW1.out _ HBX.out).2.2).mono ?_
        rintro e w2 ⟨rfl, b2⟩
        rw [HT.out.1]
        have hS2 := P2.below hS b2
        obtain ⟨d0, d1⟩ := hS2
        have hg2 := cell_lt d0
        have HB2 := Lib.hid (bel2 HBX.out b2)
        clear hS b2
        go_wp2_with fail
        refine (implNumberText_any j _ (HW1.out _ HB2.out).1 (HW1.out _ HB2.out).2.1 (HW1.out _ HB2.out).2.2).mono ?_
        rintro e w3 ⟨rfl, b3⟩
        rw [HT.out.2]
        have HB4 := Lib.hid (bel2 HB2.out b3)
        have HBD4 := Lib.hid (HBD.out.below HB4.out)
        have HW4 := Lib.hid (bel2 hb HB4.out)
        have hs4 := HW4.out.size
        clear b3
        go_wp2_with fail
        refine (writeString_any _ _ _ _ _ HBD4.out HSZ.out hs4).mono ?_
        rintro e w5 ⟨rfl, hbd5, b5⟩
        rw [HCELLS.out] at hbd5
        go_wp2
        go_roundw
        case rel => exact ⟨k + 1, by omega, by go_num, .inr hbd5, HW4.out.trans b5⟩
        case measure => simp [intOf]; omega
      · obtain rfl : n = k := by omega
        go_wp2_with fail
        refine (Tryz.Builder_String_any _ _ _ _ HBD.out hs1).mono ?_
        rintro e w4 ⟨rfl, b4⟩
        go_wp2
        go_ret2
        exact givesPyX_yes HQ.out (by rw [HN.out]; exact HX.out) (bel2 HB1.out (hb.trans b4))
end Go.Proofs.YtiopinhdfoinoaaGreatDoor

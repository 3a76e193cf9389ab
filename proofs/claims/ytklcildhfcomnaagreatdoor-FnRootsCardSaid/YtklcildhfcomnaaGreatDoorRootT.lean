/-
  Texts of roots, of the program and of the model: what each call returns.
  Conditions: the slice reads as the list that is named; the library's table of powers reads as its text lays it.
-/
import Derived.Test.YtklcildhfcomnaaGreatDoorRoots
import Derived.Test.YtklcildhfcomnaaGreatDoorFracE
import Derived.Test.YtklcildhfcomnaaGreatDoorBuild
namespace Go.Proofs.YtklcildhfcomnaaGreatDoor
set_option linter.unusedSimpArgs false
set_option linter.unusedVariables false
open Go.ChangeShapes Go.WideShapes Go.ChangeAt Go.RowKit

/-- A root's text. -/
def rtx (r : Rt) : List UInt8 := frL r.1 r.2.1 ++ [42] ++ Lib.itoa r.2.2 ++ [59]
def rtT (rs : List Rt) (k : Nat) : List UInt8 := (rs.take k).flatMap rtx
theorem frL_short {n d : Int} (h : frB n d = true) : (frL n d).length ≤ 22 := by
  obtain ⟨hn, hd, -⟩ := frB_bd h
  unfold frL
  split
  · have := itoa_short n hn; omega
  · have h1 := frP_short n hn
    have h2 := dec_short d.toNat (by omega)
    rw [List.length_append]; omega
theorem rtx_len {r : Rt} (h : RtOk r) : (rtx r).length ≤ 35 := by
  have h1 := frL_short h.fr
  have h2 := itoa_short r.2.2 ⟨by have := h.times; omega, by have := h.times; omega⟩
  unfold rtx
  simp only [List.length_append, List.length_cons, List.length_nil]
  omega
theorem rtT_next {rs : List Rt} {k : Nat} (hk : k < rs.length) : rtT rs (k + 1) = rtT rs k ++ rtx (rd rs k) := by
  unfold rtT
  rw [List.take_succ_eq_append_getElem hk, List.flatMap_append, rd_eq rs k hk]
  simp
theorem rtT_len {rs : List Rt} (h : ∀ r ∈ rs, RtOk r) : ∀ k, k ≤ rs.length → (rtT rs k).length ≤ 35 * k
  | 0, _ => by simp [rtT]
  | k + 1, hk => by
    have ih := rtT_len h k (by omega)
    have := rtx_len (h _ (rd_mem (rs := rs) (k := k) (by omega)))
    rw [rtT_next (by omega), List.length_append]; omega
def rxR (zs : List Int) : List UInt8 := if poB zs = true then rtT (rootsL zs) (rootsL zs).length else []
theorem rxR_yes {zs : List Int} (h : poB zs = true) : rxR zs = rtT (rootsL zs) (rootsL zs).length := if_pos h
theorem rxR_no {zs : List Int} (h : poB zs = false) : rxR zs = [] := if_neg (by simp [h])
def GivesRX (zs : List Int) (w : World) (e : Ending) (w' : World) : Prop := e = .returned (.tuple #[.string ⟨(rxR zs).toArray⟩, .bool (poB zs)]) ∧ Below w.heap.size w w'
theorem givesRX_no {zs : List Int} {w w' : World} (h : poB zs = false) (hb : Below w.heap.size w w') : GivesRX zs w (.returned (.tuple #[.string ⟨#[]⟩, .bool false])) w' := by
  refine ⟨?_, hb⟩
  rw [h, rxR_no h]
theorem givesRX_yes {zs : List Int} {l : List UInt8} {w w' : World} (h : poB zs = true) (hl : l = rxR zs) (hb : Below w.heap.size w w') : GivesRX zs w (.returned (.tuple #[.string ⟨l.toArray⟩, .bool true])) w' := by
  refine ⟨?_, hb⟩
  rw [h, hl]
/-- A struct's three cells. -/
abbrev C3 (w : World) (g : Nat) (a b c : Int) : Prop := w.cell? ⟨g, 0, none⟩ = some (.int .i64 a) ∧ w.cell? ⟨g, 1, none⟩ = some (.int .i64 b) ∧ w.cell? ⟨g, 2, none⟩ = some (.int .i64 c)
section
variable {w w' : World} {g : Nat} {a b c : Int}
theorem C3.new (w : World) (a b c : Int) (T : TypeId) : C3 (w.alloc (.cells #[.int .i64 a, .int .i64 b, .int .i64 c] T)) w.heap.size a b c := by
  have h := R3.new w a b c T
  exact ⟨h.1, h.2.1, h.2.2.1⟩
theorem C3.below (h : C3 w g a b c) (hb : Below w.heap.size w w') : C3 w' g a b c :=
  ⟨(hb.cell (p := ⟨g, 0, none⟩) (cell_lt h.1)).trans h.1, (hb.cell (p := ⟨g, 1, none⟩) (cell_lt h.2.1)).trans h.2.1, (hb.cell (p := ⟨g, 2, none⟩) (cell_lt h.2.2)).trans h.2.2⟩
theorem C3.drew (h : C3 w g a b c) : C3 w.drew g a b c := h
theorem C3.drewN (h : C3 w g a b c) (n : Nat) : C3 (w.drewN n) g a b c := h
end
theorem add_rt (a b : List UInt8) (h : a.length + b.length ≤ 1000) (w : World) (A B C : ByteArray) (hA : A = ⟨a.toArray⟩) (hB : B = ⟨b.toArray⟩) (hC : C = ⟨(a ++ b).toArray⟩) : (Op.stringOp .add A B).run Tryz.prog w = .ok (.string C) w := by
  subst hA; subst hB; subst hC; exact add_texts a b h w
set_option maxHeartbeats 1000000 in
set_option maxRecDepth 100000 in
theorem specRootsText_any (w : World) (B : Nat) (v : Value) (zs : List Int) (h : IS w B v zs) : Calls Tryz.prog 10 #[v] w fun e w' => GivesRX zs w e w' := by
  cases hz : poB zs
  · have HQ := Lib.hid hz
    go_enter Tryz.func10, Tryz.ntmps10
    go_wp2_with fail
    refine (poGood_any _ B _ zs h).mono ?_
    rintro e w' ⟨rfl, rfl⟩
    rw [HQ.out]
    go_wp2
    go_ret2
    exact givesRX_no HQ.out (Below.refl _ _)
  · have HQ := Lib.hid hz
    go_enter Tryz.func10, Tryz.ntmps10
    go_wp2_with fail
    refine (poGood_any _ B _ zs h).mono ?_
    rintro e w' ⟨rfl, rfl⟩
    rw [HQ.out]
    go_wp2_with fail
    refine (rtRoots_any _ B _ zs h HQ.out).mono ?_
    rintro e w1 ⟨r, rfl, hr, b1⟩
    obtain ⟨A, cap, rfl, hm, hp⟩ := RS.parts hr
    have HP := Lib.hid hp
    have hok := roots_ok HQ.out
    obtain ⟨rs, hrs⟩ : ∃ rs, rs = rootsL zs := ⟨_, rfl⟩
    have HL := Lib.hid (show rs.length ≤ 12 by rw [hrs]; exact rootsL_len HQ.out)
    rw [← hrs] at HP hm hok
    have HOK := Lib.hid hok
    have HX := Lib.hid (show rtT rs rs.length = rxR zs by rw [rxR_yes HQ.out, hrs])
    rw [← hrs]
    obtain ⟨n, hn⟩ : ∃ n, n = rs.length := ⟨_, rfl⟩
    have HN := Lib.hid hn
    rw [← hn] at hm ⊢
    unfold maxLen at hm
    have HB1 := Lib.hid b1
    clear hp hn hrs hr hok b1 h
    go_wp2
    go_loopw [4, 13] (fun s i wr => ∃ k : Nat, k ≤ n ∧ i = .int .i64 k ∧ s = .string ⟨(rtT rs k).toArray⟩ ∧ Below w1.heap.size w1 wr) (fun _ i _ => n - (intOf i).toNat)
    case atStart => exact ⟨0, by omega, rfl, rfl, Below.refl _ _⟩
    case round =>
      obtain ⟨k, hk, rfl, rfl, hb⟩ := hrel
      by_cases hlt : k < n
      · obtain ⟨g, rfl, a0, a1, a2⟩ := HP.out k (by rw [← HN.out]; exact hlt)
        have c0 := (hb.cell (cell_lt a0)).trans a0
        have c1 := (hb.cell (cell_lt a1)).trans a1
        have c2 := (hb.cell (cell_lt a2)).trans a2
        have hg := cell_lt c0
        clear a0 a1 a2
        have hro := HOK.out _ (rd_mem (rs := rs) (k := k) (by rw [← HN.out]; exact hlt))
        have hnx := rtT_next (rs := rs) (k := k) (by rw [← HN.out]; exact hlt)
        have hln := rtT_len HOK.out k (by rw [← HN.out]; omega)
        have hll := HL.out
        rw [← HN.out] at hll
        obtain ⟨N, D, T, hrd⟩ : ∃ N D T, rd rs k = (N, D, T) := ⟨_, _, _, rfl⟩
        rw [hrd] at c0 c1 c2 hro hnx
        have hxl := rtx_len hro
        have HFR := Lib.hid hro.fr
        obtain ⟨t, rfl⟩ : ∃ t : Nat, T = t := ⟨T.toNat, by have := hro.times; simp at this; omega⟩
        have ht : t ≤ 12 := by have := hro.times; simp at this; omega
        have e3 : rtx (N, D, (t : Int)) = frL N D ++ [42] ++ Lib.decDigits t ++ [59] := by show frL N D ++ [42] ++ Lib.itoa (t : Int) ++ [59] = _; rw [Lib.itoa_nonneg t]
        rw [e3] at hxl hnx
        simp only [List.length_append, List.length_cons, List.length_nil] at hxl
        obtain ⟨G1, hG1⟩ : ∃ G : ByteArray, G = ⟨(frL N D ++ [42]).toArray⟩ := ⟨_, rfl⟩
        obtain ⟨G2, hG2⟩ : ∃ G : ByteArray, G = ⟨(frL N D ++ [42] ++ Lib.decDigits t).toArray⟩ := ⟨_, rfl⟩
        obtain ⟨G3, hG3⟩ : ∃ G : ByteArray, G = ⟨(frL N D ++ [42] ++ Lib.decDigits t ++ [59]).toArray⟩ := ⟨_, rfl⟩
        obtain ⟨G4, hG4⟩ : ∃ G : ByteArray, G = ⟨(rtT rs (k + 1)).toArray⟩ := ⟨_, rfl⟩
        obtain ⟨G0, hG0⟩ : ∃ G : ByteArray, G = ⟨(rtT rs k).toArray⟩ := ⟨_, rfl⟩
        have s1 : ∀ w, (Op.stringOp .add ⟨(frL N D).toArray⟩ ⟨#[42]⟩).run Tryz.prog w = .ok (.string G1) w := fun w => add_rt (frL N D) [42] (by simp; omega) w _ _ _ rfl rfl hG1
        have s2 : ∀ w, (Op.stringOp .add G1 ⟨(Lib.decDigits t).toArray⟩).run Tryz.prog w = .ok (.string G2) w := fun w => add_rt (frL N D ++ [42]) (Lib.decDigits t) (by simp; omega) w _ _ _ hG1 rfl hG2
        have s3 : ∀ w, (Op.stringOp .add G2 ⟨#[59]⟩).run Tryz.prog w = .ok (.string G3) w := fun w => add_rt (frL N D ++ [42] ++ Lib.decDigits t) [59] (by simp; omega) w _ _ _ hG2 rfl hG3
        have s4 : ∀ w, (Op.stringOp .add G0 G3).run Tryz.prog w = .ok (.string G4) w := fun w => add_rt (rtT rs k) (frL N D ++ [42] ++ Lib.decDigits t ++ [59]) (by simp; omega) w _ _ _ hG0 hG3 (by rw [hG4, hnx])
        rw [← hG0]
        have HG4 := Lib.hid hG4
        have hS := C3.new wr N D t 37
        clear hro hrd hnx hln hxl e3 hG0 hG1 hG2 hG3 hG4
        go_wp2_with fail
        go_region_held3 (fun w' => w'.cell? ⟨wr.heap.size, 0, none⟩ = some (.int .i64 N) ∧ w'.cell? ⟨wr.heap.size, 1, none⟩ = some (.int .i64 D) ∧ w'.cell? ⟨wr.heap.size, 2, none⟩ = some (.int .i64 t)) (repeat' (first | with_reducible exact C3.new _ _ _ _ _ | with_reducible assumption | with_reducible refine C3.below ?_ (by assumption) | with_reducible refine C3.drew ?_ | with_reducible refine C3.drewN ?_ _)) (first | (go_at_call 32; refine (frText_any N D _ HFR.out).mono ?_; rintro e w2 ⟨rfl, b2⟩) | (go_at_call 33; refine (l1Num_any t (by omega) _).mono ?_; rintro e w3 ⟨rfl, b3⟩))
        go_wp2
        go_roundw
        case rel => exact ⟨k + 1, by omega, by go_num, by rw [HG4.out], by first | exact bel2 (bel2 (hb.alloc hb.size _).drew b2).drew b3 | exact bel2 (bel2 (hb.alloc hb.size _).drew b2) b3⟩
        case measure => simp [intOf]; omega
      · obtain rfl : n = k := by omega
        go_wp2
        go_ret2
        exact givesRX_yes HQ.out (by rw [HN.out]; exact HX.out) (bel2 HB1.out hb)
set_option maxHeartbeats 1000000 in
set_option maxRecDepth 100000 in
theorem implRootsText_any (w : World) (hP : Pows w) (B : Nat) (v : Value) (zs : List Int) (h : IS w B v zs) : Calls Tryz.prog 9 #[v] w fun e w' => GivesRX zs w e w' := by
  have HPW := Lib.hid hP
  clear hP
  cases hz : poB zs
  · have HQ := Lib.hid hz
    go_enter Tryz.func9, Tryz.ntmps9
    go_wp2_with fail
    refine (implRootsOf_any _ B _ zs h).mono ?_
    rintro e w1 ⟨r, rfl, -, b1⟩
    rw [HQ.out]
    go_wp2
    go_ret2
    exact givesRX_no HQ.out b1
  · have HQ := Lib.hid hz
    go_enter Tryz.func9, Tryz.ntmps9
    go_wp2_with fail
    refine (implRootsOf_any _ B _ zs h).mono ?_
    rintro e w1 ⟨r, rfl, hr, b1⟩
    rw [rootsR_yes HQ.out] at hr
    rw [HQ.out]
    obtain ⟨A, cap, rfl, hm, hp⟩ := RS.parts hr
    have HP := Lib.hid hp
    have hok := roots_ok HQ.out
    obtain ⟨rs, hrs⟩ : ∃ rs, rs = rootsL zs := ⟨_, rfl⟩
    have HL := Lib.hid (show rs.length ≤ 12 by rw [hrs]; exact rootsL_len HQ.out)
    rw [← hrs] at HP hm hok
    have HOK := Lib.hid hok
    have HX := Lib.hid (show rtT rs rs.length = rxR zs by rw [rxR_yes HQ.out, hrs])
    rw [← hrs]
    obtain ⟨n, hn⟩ : ∃ n, n = rs.length := ⟨_, rfl⟩
    have HN := Lib.hid hn
    rw [← hn] at hm ⊢
    unfold maxLen at hm
    have HB1 := Lib.hid b1
    have HFB := Lib.hid (Lib.fresh_isBuilder 55 5 w1)
    clear hp hn hrs hr hok b1 h
    go_wp2
    go_loopw [20] (fun i wr => ∃ k : Nat, k ≤ n ∧ i = .int .i64 k ∧ Bd wr w1.heap.size w1.heap.size (Lib.byteCells (rtT rs k)) ∧ Below w1.heap.size w1 wr) (fun i _ => n - (intOf i).toNat)
    case atStart => exact ⟨0, by omega, rfl, HFB.out, (Below.refl _ _).alloc (Nat.le_refl _) _⟩
    case round =>
      obtain ⟨k, hk, rfl, hbd, hb⟩ := hrel
      have HBD := Lib.hid hbd
      have hs1 := hb.size
      clear hbd
      by_cases hlt : k < n
      · obtain ⟨g, rfl, a0, a1, a2⟩ := HP.out k (by rw [← HN.out]; exact hlt)
        have c0 := (hb.cell (cell_lt a0)).trans a0
        have c1 := (hb.cell (cell_lt a1)).trans a1
        have c2 := (hb.cell (cell_lt a2)).trans a2
        have hg := cell_lt c0
        clear a0 a1 a2
        have hro := HOK.out _ (rd_mem (rs := rs) (k := k) (by rw [← HN.out]; exact hlt))
        have hnx := rtT_next (rs := rs) (k := k) (by rw [← HN.out]; exact hlt)
        have hln := rtT_len HOK.out k (by rw [← HN.out]; omega)
        have hll := HL.out
        rw [← HN.out] at hll
        obtain ⟨N, D, T, hrd⟩ : ∃ N D T, rd rs k = (N, D, T) := ⟨_, _, _, rfl⟩
        rw [hrd] at c0 c1 c2 hro hnx
        have hxl := rtx_len hro
        have HFR := Lib.hid hro.fr
        have HFT := Lib.hid (show ftL N D = frL N D from if_pos hro.fr)
        obtain ⟨t, rfl⟩ : ∃ t : Nat, T = t := ⟨T.toNat, by have := hro.times; simp at this; omega⟩
        have ht : t ≤ 12 := by have := hro.times; simp at this; omega
        have e3 : rtx (N, D, (t : Int)) = frL N D ++ [42] ++ Lib.decDigits t ++ [59] := by show frL N D ++ [42] ++ Lib.itoa (t : Int) ++ [59] = _; rw [Lib.itoa_nonneg t]
        rw [e3] at hxl hnx
        have hxl2 := hxl
        simp only [List.length_append, List.length_cons, List.length_nil] at hxl
        obtain ⟨G1, hG1⟩ : ∃ G : ByteArray, G = ⟨(frL N D ++ [42]).toArray⟩ := ⟨_, rfl⟩
        obtain ⟨G2, hG2⟩ : ∃ G : ByteArray, G = ⟨(frL N D ++ [42] ++ Lib.decDigits t).toArray⟩ := ⟨_, rfl⟩
        obtain ⟨G3, hG3⟩ : ∃ G : ByteArray, G = ⟨(frL N D ++ [42] ++ Lib.decDigits t ++ [59]).toArray⟩ := ⟨_, rfl⟩
        have s1 : ∀ w, (Op.stringOp .add ⟨(frL N D).toArray⟩ ⟨#[42]⟩).run Tryz.prog w = .ok (.string G1) w := fun w => add_rt (frL N D) [42] (by simp; omega) w _ _ _ rfl rfl hG1
        have s2 : ∀ w, (Op.stringOp .add G1 ⟨(Lib.decDigits t).toArray⟩).run Tryz.prog w = .ok (.string G2) w := fun w => add_rt (frL N D ++ [42]) (Lib.decDigits t) (by simp; omega) w _ _ _ hG1 rfl hG2
        have s3 : ∀ w, (Op.stringOp .add G2 ⟨#[59]⟩).run Tryz.prog w = .ok (.string G3) w := fun w => add_rt (frL N D ++ [42] ++ Lib.decDigits t) [59] (by simp; omega) w _ _ _ hG2 rfl hG3
        have HCELLS := Lib.hid (show Lib.byteCells (rtT rs k) ++ Lib.strCells G3 = Lib.byteCells (rtT rs (k + 1)) by rw [hnx, hG3, Lib.byteCells_append]; rfl)
        have HSZ := Lib.hid (show (Lib.byteCells (rtT rs k)).length + G3.size ≤ 100000000 by
          have hs : G3.size = (frL N D ++ [42] ++ Lib.decDigits t ++ [59]).length := by rw [hG3]; show (List.toArray _).size = _; simp
          rw [Lib.byteCells_length, hs]; omega)
        have hS := C3.new wr N D t 37
        have hbx := (Below.refl wr.heap.size wr).alloc (Nat.le_refl _) (.cells #[.int .i64 N, .int .i64 D, .int .i64 t] 37)
        have HBX := Lib.hid hbx
        have HW1 := Lib.hid (HPW.out.below (bel2 HB1.out hb))
        have HPX := Lib.hid (HW1.out.below hbx)
        clear hro hrd hnx hln hxl hxl2 e3 hG1 hG2 hG3 hbx
        go_wp2_with fail
        refine (implFracText_any N D _ HPX.out).mono ?_
        rintro e w2 ⟨rfl, b2⟩
        rw [HFT.out, HFR.out]
        have hS2 := hS.below b2
        obtain ⟨d0, d1, d2⟩ := hS2
        have hg2 := cell_lt d0
        have HP2 := Lib.hid (HW1.out.below (bel2 HBX.out b2))
        clear hS
        go_wp2_with fail
        refine (itoa_nat t (by omega) _ HP2.out).mono ?_
        rintro e w3 ⟨rfl, b3⟩
        have hb3 := bel2 (bel2 HBX.out b2) b3
        have HB3 := Lib.hid (HBD.out.below hb3)
        have HB4 := Lib.hid (bel2 hb hb3)
        have hs3 := HB4.out.size
        clear b2 b3 hb3
        go_wp2_with fail
        refine (writeString_any _ _ _ _ _ HB3.out HSZ.out hs3).mono ?_
        rintro e w4 ⟨rfl, hbd4, b4⟩
        rw [HCELLS.out] at hbd4
        go_wp2
        go_roundw
        case rel => exact ⟨k + 1, by omega, by go_num, .inr hbd4, HB4.out.trans b4⟩
        case measure => simp [intOf]; omega
      · obtain rfl : n = k := by omega
        go_wp2_with fail
        refine (Tryz.Builder_String_any _ _ _ _ HBD.out hs1).mono ?_
        rintro e w4 ⟨rfl, b4⟩
        go_wp2
        go_ret2
        exact givesRX_yes HQ.out (by rw [HN.out]; exact HX.out) (bel2 HB1.out (hb.trans b4))
end Go.Proofs.YtklcildhfcomnaaGreatDoor

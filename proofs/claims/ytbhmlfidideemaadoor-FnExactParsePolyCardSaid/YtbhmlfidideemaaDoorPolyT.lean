/-
  Texts of polynomials, and polynomials of texts, of the program and of the model: what each call returns.
  Conditions: the texts are shorter than a thousand million bytes; the tables and sentinels read as the program's and the library's text lays them.
-/
import Derived.Test.YtbhmlfidideemaaDoorPolyE
import Derived.Test.YtbhmlfidideemaaDoorSplit
import Derived.Test.YtbhmlfidideemaaDoorTextB
import Derived.Lib.IndexBytes
namespace Go.Proofs.YtbhmlfidideemaaDoor
set_option linter.unusedSimpArgs false
set_option linter.unusedVariables false
open Go.ChangeShapes Go.WideShapes Go.ChangeAt Go.RowKit

theorem ret_sb {a b : List UInt8} {c d : Bool} (h : a = b) (h' : c = d) : Ending.returned (.tuple #[.string ⟨a.toArray⟩, .bool c]) = .returned (.tuple #[.string ⟨b.toArray⟩, .bool d]) := by rw [h, h']
theorem numText_len {n : Int} (h : numB n = true) : (numText n).length ≤ 21 := by
  have hb := numB_bd h
  unfold numText; split
  · simp
  · exact Lib.itoa_length_le n (by omega) (by omega)
/-- The text of the first k coefficients. -/
def ptL (zs : List Int) : Nat → List UInt8
  | 0 => []
  | k + 1 => (if k = 0 then [] else ptL zs k ++ [44]) ++ numText (gd zs k)
theorem pt_len {zs : List Int} (h : zs.all numB = true) : ∀ k, k ≤ zs.length → (ptL zs k).length ≤ 22 * k
  | 0, _ => by simp [ptL]
  | k + 1, hk => by
    have ih := pt_len h k (by omega)
    have hn := numText_len (num_at zs h k (by omega))
    simp only [ptL, List.length_append]
    split <;> simp <;> omega
/-- A polynomial's text. -/
def pyL (zs : List Int) : List UInt8 := Lib.join (zs.map numText) [44]
theorem join_snoc (xs : List (List UInt8)) (y sep : List UInt8) (h : xs ≠ []) : Lib.join (xs ++ [y]) sep = Lib.join xs sep ++ sep ++ y := by
  cases xs with
  | nil => exact absurd rfl h
  | cons x r =>
    rw [List.cons_append, Lib.join_cons, Lib.join_cons]
    simp [Lib.joinTail, List.append_assoc]
theorem pt_join (zs : List Int) : ∀ k, k ≤ zs.length → ptL zs k = Lib.join ((zs.take k).map numText) [44]
  | 0, _ => by simp [ptL, Lib.join_nil]
  | k + 1, hk => by
    rw [take_succ_gd zs k (by omega), List.map_append]
    simp only [ptL, List.map_cons, List.map_nil]
    by_cases h0 : k = 0
    · subst h0; rw [if_pos rfl]; simp [Lib.join_one]
    · rw [if_neg h0, join_snoc _ _ _ (by
        intro e
        have := congrArg List.length e
        rw [List.length_map, List.length_take, Nat.min_eq_left (by omega)] at this
        exact h0 this), pt_join zs k (by omega)]
theorem pt_all (zs : List Int) : ptL zs zs.length = pyL zs := by rw [pt_join zs _ (Nat.le_refl _), List.take_length]; rfl
def pyR (zs : List Int) : List UInt8 := if poB zs = true then pyL zs else []
theorem pyR_yes {zs : List Int} (h : poB zs = true) : pyR zs = pyL zs := if_pos h
theorem pyR_no {zs : List Int} (h : poB zs = false) : pyR zs = [] := if_neg (by simp [h])
def GivesPT (zs : List Int) (w : World) (e : Ending) (w' : World) : Prop := e = .returned (.tuple #[.string ⟨(pyR zs).toArray⟩, .bool (poB zs)]) ∧ Below w.heap.size w w'
theorem add_txt (a b : List UInt8) (h : a.length + b.length ≤ 100000) (w : World) : (Op.stringOp .add ⟨a.toArray⟩ ⟨b.toArray⟩).run Tryd.prog w = .ok (.string ⟨(a ++ b).toArray⟩) w := by
  rw [run_string_add_sum w _ _ (by
    have h0 : (ByteArray.mk a.toArray).size = a.length := by show a.toArray.size = _; simp
    have h1 : (ByteArray.mk b.toArray).size = b.length := by show b.toArray.size = _; simp
    rw [h0, h1]; omega)]
  congr 2
  try (apply ByteArray.ext; rw [ByteArray.data_append]; simp)
set_option maxHeartbeats 400000 in
set_option maxRecDepth 100000 in
theorem poText_any (w : World) (B : Nat) (v : Value) (zs : List Int) (h : IS w B v zs) (hz : zs.all numB = true) (hl : zs.length ≤ 20) : Calls Tryd.prog 45 #[v] w fun e w' => Says (ptL zs zs.length) w e w' := by
  obtain ⟨A, cap, rfl, -, hp⟩ := h.parts
  have HP := Lib.hid hp
  have HZ := Lib.hid hz
  clear hp h hz
  go_enter Tryd.func45, Tryd.ntmps45
  go_wp2
  go_loopw [3, 8] (fun s i wr => ∃ k : Nat, k ≤ zs.length ∧ i = .int .i64 k ∧ s = .string ⟨(ptL zs k).toArray⟩ ∧ Below w.heap.size w wr) (fun _ i _ => zs.length - (intOf i).toNat)
  case atStart => exact ⟨0, by omega, rfl, rfl, Below.refl _ _⟩
  case round =>
    obtain ⟨k, hk, rfl, rfl, hb⟩ := hrel
    by_cases hlt : k < zs.length
    · obtain ⟨g, rfl, hc0⟩ := HP.out k hlt
      have hc := (hb.cell (p := ⟨g, k, none⟩) (cell_lt hc0)).trans hc0
      have hnum := num_at zs HZ.out k hlt
      have HNU := Lib.hid hnum
      have hpl := pt_len HZ.out k hk
      have hnl := numText_len hnum
      by_cases h0 : k = 0
      · subst h0
        have HS := Lib.hid (show ptL zs (0 + 1) = ptL zs 0 ++ numText (gd zs 0) by simp [ptL])
        have ha : ∀ w, (Op.stringOp .add ⟨(ptL zs 0).toArray⟩ ⟨(numText (gd zs 0)).toArray⟩).run Tryd.prog w = .ok (.string ⟨(ptL zs (0 + 1)).toArray⟩) w := fun w => by
          rw [HS.out]; exact add_txt _ _ (by omega) w
        obtain ⟨T0, hT0⟩ : ∃ T0 : ByteArray, T0 = ⟨(ptL zs 0).toArray⟩ := ⟨_, rfl⟩
        obtain ⟨T1, hT1⟩ : ∃ T1 : ByteArray, T1 = ⟨(ptL zs (0 + 1)).toArray⟩ := ⟨_, rfl⟩
        rw [← hT0, ← hT1] at ha
        rw [← hT0]
        have HT1 := Lib.hid hT1
        clear hT0 hT1 hc0 hnum hpl hnl
        go_wp2_with fail
        refine (nuText_any _ HNU.out _).mono ?_
        rintro e w1 ⟨rfl, b1⟩
        go_wp2
        go_roundw
        case rel => exact ⟨0 + 1, by omega, by go_num, by rw [HT1.out], bel2 hb b1⟩
        case measure => simp [intOf]; omega
      · have HS := Lib.hid (show ptL zs (k + 1) = (ptL zs k ++ [44]) ++ numText (gd zs k) by simp [ptL, h0])
        have ha : ∀ w, (Op.stringOp .add ⟨(ptL zs k).toArray⟩ ⟨#[44]⟩).run Tryd.prog w = .ok (.string ⟨(ptL zs k ++ [44]).toArray⟩) w := fun w => add_txt _ [44] (by simp; omega) w
        have hb2 : ∀ w, (Op.stringOp .add ⟨(ptL zs k ++ [44]).toArray⟩ ⟨(numText (gd zs k)).toArray⟩).run Tryd.prog w = .ok (.string ⟨(ptL zs (k + 1)).toArray⟩) w := fun w => by
          rw [HS.out]; exact add_txt _ _ (by simp; omega) w
        obtain ⟨T0, hT0⟩ : ∃ T0 : ByteArray, T0 = ⟨(ptL zs k).toArray⟩ := ⟨_, rfl⟩
        obtain ⟨T1, hT1⟩ : ∃ T1 : ByteArray, T1 = ⟨(ptL zs (k + 1)).toArray⟩ := ⟨_, rfl⟩
        obtain ⟨T2, hT2⟩ : ∃ T2 : ByteArray, T2 = ⟨(ptL zs k ++ [44]).toArray⟩ := ⟨_, rfl⟩
        rw [← hT0, ← hT2] at ha
        rw [← hT1, ← hT2] at hb2
        rw [← hT0]
        have HT1 := Lib.hid hT1
        have hk0 : 0 < k := by omega
        clear hT0 hT1 hT2 hc0 hnum hpl hnl h0
        go_wp2_with fail
        refine (nuText_any _ HNU.out _).mono ?_
        rintro e w1 ⟨rfl, b1⟩
        go_wp2
        go_roundw
        case rel => exact ⟨k + 1, by omega, by go_num, by rw [HT1.out], bel2 hb b1⟩
        case measure => simp [intOf]; omega
    · obtain rfl : k = zs.length := by omega
      go_wp2
      go_ret
      exact ⟨rfl, hb⟩
theorem specPolyText_any (w : World) (B : Nat) (v : Value) (zs : List Int) (h : IS w B v zs) : Calls Tryd.prog 24 #[v] w fun e w' => GivesPT zs w e w' := by
  cases hz : poB zs
  · have HZ := Lib.hid hz
    go_enter Tryd.func24, Tryd.ntmps24
    go_wp2_with (first | (go_at_call 37; refine (poGood_any _ B _ zs h).mono ?_; rintro e w' ⟨rfl, rfl⟩))
    go_ret2
    exact ⟨ret_sb (a := []) (pyR_no HZ.out).symm HZ.out.symm, Below.refl _ _⟩
  · have HZ := Lib.hid hz
    have hp := po_parts hz
    go_enter Tryd.func24, Tryd.ntmps24
    go_wp2_with (first | (go_at_call 37; refine (poGood_any _ B _ zs h).mono ?_; rintro e w' ⟨rfl, rfl⟩))
    go_wp2_with fail
    refine (poText_any _ B _ zs h hp.1 (by omega)).mono ?_
    rintro e w1 ⟨rfl, b1⟩
    go_wp2
    go_ret2
    exact ⟨ret_sb (by rw [pyR_yes HZ.out]; exact pt_all zs) HZ.out.symm, b1⟩
/-- The texts of the first k coefficients, empty ones behind. -/
def tpc (zs : List Int) (k : Nat) : List ByteArray := (zs.take k).map (fun n => ⟨(numText n).toArray⟩) ++ List.replicate (zs.length - k) ⟨#[]⟩
theorem tpc_len (zs : List Int) (k : Nat) (hk : k ≤ zs.length) : (tpc zs k).length = zs.length := by unfold tpc; simp; omega
theorem tpc_end (zs : List Int) (k : Nat) (hk : ¬ k < zs.length) : tpc zs k = zs.map (fun n => ⟨(numText n).toArray⟩) := by
  unfold tpc; rw [List.take_of_length_le (by omega), show zs.length - k = 0 by omega]; simp
theorem tpc_set (zs : List Int) (k : Nat) (hk : k < zs.length) : (tpc zs k).set k ⟨(numText (gd zs k)).toArray⟩ = tpc zs (k + 1) := by
  unfold tpc
  rw [take_succ_gd zs k hk, show zs.length - k = (zs.length - (k + 1)) + 1 by omega, List.replicate_succ, List.set_append_right _ _ (by simp; omega)]
  simp [List.length_take, Nat.min_eq_left (Nat.le_of_lt hk)]
def SRow (w : World) (B g n : Nat) (ps : List ByteArray) : Prop := w.ownsRow B 9 1 (.slice (some ⟨g, 0, none⟩) n n) n (strs ps)
theorem SRow.store {w : World} {B g n : Nat} {ps : List ByteArray} (h : SRow w B g n ps) (k : Nat) (u : ByteArray) : SRow (w.setCell ⟨g, k, none⟩ (.string u)) B g n (ps.set k u) := by
  have := (World.ownsRow.stored h k (.string u)).1
  unfold SRow strs
  rw [List.map_set]
  exact this
theorem SRow.below {w w' : World} {B g n : Nat} {ps : List ByteArray} (h : SRow w B g n ps) (hb : Below w.heap.size w w') : SRow w' B g n ps := by
  refine ⟨h.1, ?_⟩
  rcases h.2 with h0 | ⟨g', cap, cur, h1, h2, h3, h4⟩
  · exact .inl h0
  · refine .inr ⟨g', cap, cur, h1, h2, (hb.block g' ?_).trans h3, h4⟩
    exact (World.ownsRow.lt h g' (by rw [h1]; rfl)).2
theorem join_b (g n c : Nat) (zs : List Int) (hz : zs.all numB = true) (hl : zs.length ≤ 20) (hn : n = zs.length) (hnc : n ≤ c) (w : World) (hc : ∀ k, k < zs.length → w.cell? ⟨g, k, none⟩ = some (.string ⟨(numText (gd zs k)).toArray⟩)) (h0 : 0 < zs.length) :
    Calls Tryd.prog 47 #[.slice (some ⟨g, 0, none⟩) n c, .string ⟨#[44]⟩] w fun e w' => Says (pyL zs) w e w' := by
  subst hn
  have hx : ((zs.map fun n => (⟨(numText n).toArray⟩ : ByteArray)).map (·.data.toList)) = zs.map numText := by
    rw [List.map_map]; exact List.map_congr_left fun n _ => by simp
  have hlen : (zs.map fun n => (⟨(numText n).toArray⟩ : ByteArray)).length = zs.length := by simp
  have hpl := pt_len hz zs.length (Nat.le_refl _)
  rw [pt_all] at hpl
  have := Tryd.strings_Join g 0 c (zs.map fun n => ⟨(numText n).toArray⟩) ⟨#[44]⟩ w (fun j x hj => by
      rw [List.getElem?_map] at hj
      rcases Nat.lt_or_ge j zs.length with h | h
      · rw [List.getElem?_eq_getElem h] at hj
        simp at hj
        rw [← hj, ← gd_eq zs j h, Nat.zero_add]
        exact hc j h
      · rw [List.getElem?_eq_none h] at hj
        simp at hj)
    (cell_lt (hc 0 h0)) (by rw [hlen]; omega) (by rw [hlen]; exact hnc) (by rw [hx]; show (pyL zs).length ≤ _; omega)
  rw [hlen, hx] at this
  exact this
set_option maxHeartbeats 800000 in
set_option maxRecDepth 100000 in
theorem implPolyText_any (w : World) (hN : Neut w) (hS : Names w) (hP : Pows w) (B : Nat) (v : Value) (zs : List Int) (h : IS w B v zs) : Calls Tryd.prog 25 #[v] w fun e w' => GivesPT zs w e w' := by
  have h0 := Lib.hid h
  obtain ⟨A, cap, rfl, -, hp⟩ := h.parts
  cases hz : poB zs
  · have HZ := Lib.hid hz
    clear h hp
    go_enter Tryd.func25, Tryd.ntmps25
    go_wp2_with (first | (go_at_call 31; refine (isPoly_any _ B _ zs h0.out).mono ?_; rintro e w' ⟨rfl, rfl⟩))
    go_ret2
    exact ⟨ret_sb (a := []) (pyR_no HZ.out).symm HZ.out.symm, Below.refl _ _⟩
  · obtain ⟨z1, z2, z3, -⟩ := po_parts hz
    have HZ := Lib.hid hz
    have HA := Lib.hid z1
    have HP := Lib.hid hp
    have HN := Lib.hid (And.intro hN (And.intro hS hP))
    obtain ⟨i0, hi, hz0, hz1, hz2⟩ := info_str infoStr
    clear h hp z1 hN hS hP
    go_enter Tryd.func25, Tryd.ntmps25
    go_wp2_with (first | (go_at_call 31; refine (isPoly_any _ B _ zs h0.out).mono ?_; rintro e w' ⟨rfl, rfl⟩) | (refine wpList_make_full _ rfl _ _ 52 rfl w.heap.size 9 i0 (.string ⟨#[]⟩) 1 Tryd.underlying52 hi hz0 hz1 .i64 .i64 _ _ zs.length rfl rfl rfl rfl (by rw [hz2]; omega) (by simp only [maxLen]; omega) (Nat.le_refl _) ?_; intro w1 hown hgrow))
    have hrow0 : SRow w1 w.heap.size w.heap.size zs.length (tpc zs 0) := by
      rw [show (madeCells (Value.string ⟨#[]⟩).cells (zs.length * 1)).toList = strs (tpc zs 0) from by
        rw [Nat.mul_one]
        exact (toList_madeCells_one (.string ⟨#[]⟩) zs.length).trans (by simp [tpc, strs])] at hown
      exact hown
    have hb0 : Below w.heap.size w w1 := (Below.refl _ _).grown hgrow (Nat.le_refl _) (fun _ h => by cases h)
    clear hown hgrow hz
    go_loopw [14] (fun i wr => ∃ k : Nat, k ≤ zs.length ∧ i = .int .i64 k ∧ SRow wr w.heap.size w.heap.size zs.length (tpc zs k) ∧ Below w.heap.size w wr) (fun i _ => zs.length - (intOf i).toNat)
    case atStart => exact ⟨0, by omega, rfl, hrow0, hb0⟩
    case round =>
      obtain ⟨k, hk, rfl, hrow, hb⟩ := hrel
      clear hrow0 hb0
      by_cases hlt : k < zs.length
      · obtain ⟨g, rfl, hc0⟩ := HP.out k hlt
        have hc := (hb.cell (p := ⟨g, k, none⟩) (cell_lt hc0)).trans hc0
        clear hc0
        have HNT := Lib.hid (num_at zs HA.out k hlt)
        have HTL := Lib.hid (tpc_len zs k hk)
        go_wp2_with fail
        refine (implNumberText_any _ _ (HN.out.1.below hb) (HN.out.2.1.below hb) (HN.out.2.2.below hb)).mono ?_
        rintro e W ⟨rfl, hb2⟩
        rw [HNT.out, show ntL (gd zs k) = numText (gd zs k) from if_pos HNT.out]
        have hrow2 := hrow.below hb2
        have hb3 := bel2 hb hb2
        clear hrow hb hb2 hc
        have hf := World.ownsRow.frozenAt hrow2 k
        have hc2 := World.ownsRow.cellAt hrow2 k (by omega)
        rw [show (strs (tpc zs k))[k]? = some (.string ((tpc zs k)[k]'(by rw [HTL.out]; exact hlt))) from by
          unfold strs; rw [List.getElem?_map, List.getElem?_eq_getElem (by rw [HTL.out]; exact hlt)]; rfl] at hc2
        obtain ⟨old, hold⟩ : ∃ old, (tpc zs k)[k]'(by rw [HTL.out]; exact hlt) = old := ⟨_, rfl⟩
        rw [hold] at hc2
        clear hold
        have hrow' := hrow2.store k ⟨(numText (gd zs k)).toArray⟩
        rw [tpc_set zs k hlt] at hrow'
        go_wp2
        go_roundw
        case rel => exact ⟨k + 1, by omega, by go_num, hrow', hb3.setCell (Nat.le_refl _) _⟩
        case measure => simp [intOf]; omega
      · have hcs : ∀ j, j < zs.length → wr.cell? ⟨w.heap.size, j, none⟩ = some (.string ⟨(numText (gd zs j)).toArray⟩) := fun j hj => by
          have := World.ownsRow.cellAt hrow j (by omega)
          rw [this, tpc_end zs k hlt]
          unfold strs
          rw [List.getElem?_map, List.getElem?_map, List.getElem?_eq_getElem hj, gd_eq zs j hj]; rfl
        have HCS := Lib.hid hcs
        clear hcs
        go_wp2_with fail
        refine (join_b _ _ _ zs HA.out (by omega) rfl (Nat.le_refl _) _ HCS.out (by omega)).mono ?_
        rintro e w2 ⟨rfl, b2⟩
        go_wp2
        go_ret2
        exact ⟨ret_sb (by rw [pyR_yes HZ.out]) HZ.out.symm, bel2 hb b2⟩
end Go.Proofs.YtbhmlfidideemaaDoor

/-
  NumberText of the program: what each call returns.
  Condition: the library's table of powers and the program's two tables are as their text lays them.
-/
import Derived.Test.YtiopinhdfoinoaaGreatDoorText
import Derived.Test.YtiopinhdfoinoaaGreatDoorShelf
import Derived.Lib.AppendIntMem
import Derived.Stop.LaidErr
namespace Go.Proofs.YtiopinhdfoinoaaGreatDoor
set_option linter.unusedSimpArgs false
set_option linter.unusedVariables false
open Go.ChangeShapes Go.WideShapes Go.ChangeAt Go.RowKit

/-- The table of the names of the two neutral numbers, as the program's text lays it. -/
def Names (w : World) : Prop := w.cell? ⟨0, 0, none⟩ = some (.string ⟨#[105, 110, 102]⟩) ∧ w.cell? ⟨0, 1, none⟩ = some (.string ⟨#[48]⟩)
theorem Names.below {w w' : World} (h : Names w) (hb : Below w.heap.size w w') : Names w' :=
  ⟨(hb.cell (p := ⟨0, 0, none⟩) (cell_lt h.1)).trans h.1, (hb.cell (p := ⟨0, 1, none⟩) (cell_lt h.2)).trans h.2⟩
/-- The table of the powers of ten of Go's library. -/
def Pows (w : World) : Prop := Lib.TabIs Tryz.prog w "internal/strconv.uint64pow10" .u64 Lib.pow10Tab
theorem Pows.below {w w' : World} (h : Pows w) (hb : Below w.heap.size w w') : Pows w' := ((Lib.tabBelow_of_tabIs h).on hb).here
theorem name_0 (w : World) : (Instr.index 78 (.agg #[.string ⟨#[105, 110, 102]⟩, .string ⟨#[48]⟩]) (.int .i64 0)).run Tryz.prog w = .ok (.string ⟨#[105, 110, 102]⟩) w := by kernel_rfl
theorem name_1 (w : World) : (Instr.index 78 (.agg #[.string ⟨#[105, 110, 102]⟩, .string ⟨#[48]⟩]) (.int .i64 1)).run Tryz.prog w = .ok (.string ⟨#[48]⟩) w := by kernel_rfl
set_option maxHeartbeats 400000 in
theorem implNumberText_any (n : Int) (w : World) (hN : Neut w) (hS : Names w) (hP : Pows w) : Calls Tryz.prog 33 #[.int .i64 n] w fun e w' => GivesT n w e w' := by
  cases h : numB n
  · go_enter Tryz.func33, Tryz.ntmps33
    go_wp2_with (go_at_call 62; refine (isNumber_any _ _).mono ?_; rintro e w' ⟨rfl, rfl⟩)
    go_ret2
    exact givesT_no h (Below.refl _ _)
  · obtain ⟨hN0, hN1⟩ := hN
    obtain ⟨hS0, hS1⟩ := hS
    have H := Lib.hid h
    have hn0 := name_0 w
    have hn1 := name_1 w
    by_cases hi : n = 1000000000
    · subst hi
      go_enter Tryz.func33, Tryz.ntmps33
      go_wp2_with (go_at_call 62; refine (isNumber_any _ _).mono ?_; rintro e w' ⟨rfl, rfl⟩)
      go_rounds 2
      go_ret2
      exact givesT_yes (l := [105, 110, 102]) H.out rfl (Below.refl _ _)
    · by_cases hz : n = 0
      · subst hz
        go_enter Tryz.func33, Tryz.ntmps33
        go_wp2_with (go_at_call 62; refine (isNumber_any _ _).mono ?_; rintro e w' ⟨rfl, rfl⟩)
        go_rounds 3
        go_ret2
        exact givesT_yes (l := [48]) H.out (by simp [numText, Lib.itoa, Lib.decDigits]) (Below.refl _ _)
      · have e0 : ((1000000000 : Int) == n) = false := by simp; omega
        have e1 : ((0 : Int) == n) = false := by simp; omega
        have HT := Lib.hid (show Lib.itoa n = numText n by simp [numText, hi])
        have hb := numB_bd h
        clear hi hz
        go_enter Tryz.func33, Tryz.ntmps33
        go_wp2_with (go_at_call 62; refine (isNumber_any _ _).mono ?_; rintro e w' ⟨rfl, rfl⟩)
        go_loop [10] (fun i => ∃ k : Nat, k ≤ 2 ∧ i = .int .i64 k) (fun i => 2 - (intOf i).toNat)
        case atStart => exact ⟨0, by omega, rfl⟩
        case round =>
          obtain ⟨k, hk, rfl⟩ := hrel
          have hk3 : k = 0 ∨ k = 1 ∨ k = 2 := by omega
          rcases hk3 with rfl | rfl | rfl
          · go_wp2
            go_round
            case rel => exact ⟨1, by omega, rfl⟩
            case measure => simp [intOf]
          · go_wp2
            go_round
            case rel => exact ⟨2, by omega, rfl⟩
            case measure => simp [intOf]
          · go_wp2_with (go_at_call 63; refine (Tryz.strconv_Itoa n (by omega) (by omega) _ hP).mono ?_; rintro e w' ⟨rfl, k, os, rfl⟩)
            go_ret2
            exact givesT_yes H.out HT.out (Lib.below_grow _ _ (Nat.le_refl _) _ _)
theorem bytes_of {s : ByteArray} {l : List UInt8} (h : s.data.toList = l) : s = ⟨l.toArray⟩ := by
  cases s with
  | mk d => simp at h; subst h; simp
set_option maxRecDepth 100000 in
/-- From the rows' condition: the table of names, where it stands first on the list. -/
theorem names_of_laid {W : World} {rest : List (String × DataW Unit)} (h : laidMet Tryz.prog (("loop.example/g01056/impl.neutralNames", Rows.laid_loop_example_g01056_impl_neutralNames) :: rest) W) : Names W := by
  obtain ⟨ps, ⟨g, t, cs, fuel, p, q, hg, ht, hvar, hd, _, _⟩, _⟩ := h
  obtain rfl := Option.some.inj ((show Tryz.prog.globalNamed "loop.example/g01056/impl.neutralNames" = some 0 by kernel_rfl).symm.trans hg)
  obtain rfl := Option.some.inj ((show (Tryz.prog.globals[0]?).map (·.type) = some 78 by kernel_rfl).symm.trans ht)
  obtain ⟨xs, m1, rfl, hx1, hlen, hn3, hel⟩ := DataW.trod_array Tryz.underlying78 hd
  have c9 : Tryz.prog.cellsOf 9 = 1 := by kernel_rfl
  have h0 := hel 0 (by decide)
  have h1 := hel 1 (by decide)
  simp only [Rows.laid_loop_example_g01056_impl_neutralNames, Prod.mk.injEq, DataW.agg.injEq] at hx1
  match xs, hn3, hx1, h0, h1 with
  | [x0, x1], _, hx1, h0, h1 =>
    simp only [List.map_cons, List.map_nil, List.cons.injEq] at hx1
    obtain ⟨s0, e1, e2, _⟩ := DataW.trod_string Tryz.underlying9 (show DataW.trod _ Tryz.prog W 0 _ false m1 9 _ = some x0 from h0)
    obtain ⟨s1, f1, f2, _⟩ := DataW.trod_string Tryz.underlying9 (show DataW.trod _ Tryz.prog W 0 _ false m1 9 _ = some x1 from h1)
    rw [c9] at e1 f1
    have k0 : s0 = ⟨#[105, 110, 102]⟩ := bytes_of (by rw [e2] at hx1; simpa using hx1.1.1.symm)
    have k1 : s1 = ⟨#[48]⟩ := bytes_of (by rw [f2] at hx1; simpa using hx1.1.2.1.symm)
    subst k0
    subst k1
    have v0 := World.var?_cell hg hvar 0
    have v1 := World.var?_cell hg hvar 1
    obtain ⟨l⟩ := cs
    match l, e1, f1 with
    | [a, b], e1, f1 =>
      simp at e1 f1
      subst e1
      subst f1
      exact ⟨by simpa using v0, by simpa using v1⟩
    | [], e1, _ => simp at e1
    | [a], _, f1 => simp at f1
    | a :: b :: c :: r, e1, f1 =>
      simp at e1 f1
      subst e1
      subst f1
      exact ⟨by simpa using v0, by simpa using v1⟩
set_option maxRecDepth 100000 in
theorem pows_of_laid {W : World} {rest : List (String × DataW Unit)} (h : laidMet Tryz.prog (("internal/strconv.uint64pow10", Rows.laid_internal_strconv_uint64pow10) :: rest) W) : Pows W :=
  Lib.tabIs_of_head (show Tryz.prog.globalNamed "internal/strconv.uint64pow10" = some 2 by kernel_rfl) (show (Tryz.prog.globals[2]?).map (·.type) = some 138 by kernel_rfl) Tryz.underlying138 Tryz.underlying43 (by kernel_rfl) (by kernel_rfl)
    (show laidMet Tryz.prog (("internal/strconv.uint64pow10", Lib.tabData .u64 Lib.pow10Tab) :: rest) W from (show Rows.laid_internal_strconv_uint64pow10 = (Lib.tabData .u64 Lib.pow10Tab : DataW Unit) by kernel_rfl) ▸ h)
set_option maxRecDepth 100000 in
theorem neut_of_head {W : World} {rest : List (String × DataW Unit)} (h : laidMet Tryz.prog (("loop.example/g01056/impl.neutralNumbers", Rows.laid_loop_example_g01056_impl_neutralNumbers) :: rest) W) : Neut W := by
  have hT := Lib.tabIs_of_head (zs := [1000000000, 0]) (k := .i64) (rest := rest) (show Tryz.prog.globalNamed "loop.example/g01056/impl.neutralNumbers" = some 1 by kernel_rfl) (show (Tryz.prog.globals[1]?).map (·.type) = some 79 by kernel_rfl) Tryz.underlying79 Tryz.underlying3 (by kernel_rfl) (by kernel_rfl) h
  exact ⟨hT.cell (by kernel_rfl) 0 (by decide), hT.cell (by kernel_rfl) 1 (by decide)⟩
end Go.Proofs.YtiopinhdfoinoaaGreatDoor

/-
  parseTerm of the program: what the call returns.
  Conditions: the text is shorter than a thousand million bytes; the tables and sentinels read as the program's and the library's text lays them.
-/
import Derived.Test.YtibdbgeknphljaaDoorPlPrM
import Derived.Test.YtibdbgeknphljaaDoorPlTxS
namespace Go.Proofs.YtibdbgeknphljaaDoor
set_option linter.unusedSimpArgs false
set_option linter.unusedVariables false
open Go.ChangeShapes Go.WideShapes Go.ChangeAt Go.RowKit

/-- A term's three cells in a block of the call's own, not frozen. -/
def Z3 (w : World) (g : Nat) (t : Tm) : Prop := T3 w g t ∧ w.frozen? ⟨g, 0, none⟩ = false ∧ w.frozen? ⟨g, 1, none⟩ = false ∧ w.frozen? ⟨g, 2, none⟩ = false
theorem Z3.below {w w' : World} {g : Nat} {t : Tm} (h : Z3 w g t) (hb : Below w.heap.size w w') : Z3 w' g t := by
  obtain ⟨h1, h2, h3, h4⟩ := h
  have hg := cell_lt h1.1
  exact ⟨h1.below hb, (hb.frozen (p := ⟨g, 0, none⟩) hg).trans h2, (hb.frozen (p := ⟨g, 1, none⟩) hg).trans h3, (hb.frozen (p := ⟨g, 2, none⟩) hg).trans h4⟩
theorem Z3.new (w : World) (t : Tm) : Z3 (w.alloc (.cells #[.int .i64 t.1, .int .i64 t.2.1, .int .i64 t.2.2] 37)) w.heap.size t := by
  refine ⟨T3.new _ _ _, ?_, ?_, ?_⟩ <;> simp [go_sem]
theorem T3.store {w : World} {g : Nat} {t : Tm} (h : T3 w g t) (r : Tm) : T3 (((w.setCell ⟨g, 0, none⟩ (.int .i64 r.1)).setCell ⟨g, 1, none⟩ (.int .i64 r.2.1)).setCell ⟨g, 2, none⟩ (.int .i64 r.2.2)) g r := by
  obtain ⟨h1, h2, h3⟩ := h
  have e1 : (w.setCell ⟨g, 0, none⟩ (.int .i64 r.1)).cell? ⟨g, 0, none⟩ = some (.int .i64 r.1) := World.cell?_setCell_same _ _ _ h1
  have e2 : (w.setCell ⟨g, 0, none⟩ (.int .i64 r.1)).cell? ⟨g, 1, none⟩ = some (.int .i64 t.2.1) := (World.cell?_setCell_other _ _ _ _ (by simp)).trans h2
  have e3 : (w.setCell ⟨g, 0, none⟩ (.int .i64 r.1)).cell? ⟨g, 2, none⟩ = some (.int .i64 t.2.2) := (World.cell?_setCell_other _ _ _ _ (by simp)).trans h3
  have f1 : ((w.setCell ⟨g, 0, none⟩ (.int .i64 r.1)).setCell ⟨g, 1, none⟩ (.int .i64 r.2.1)).cell? ⟨g, 0, none⟩ = some (.int .i64 r.1) := (World.cell?_setCell_other _ _ _ _ (by simp)).trans e1
  have f2 : ((w.setCell ⟨g, 0, none⟩ (.int .i64 r.1)).setCell ⟨g, 1, none⟩ (.int .i64 r.2.1)).cell? ⟨g, 1, none⟩ = some (.int .i64 r.2.1) := World.cell?_setCell_same _ _ _ e2
  have f3 : ((w.setCell ⟨g, 0, none⟩ (.int .i64 r.1)).setCell ⟨g, 1, none⟩ (.int .i64 r.2.1)).cell? ⟨g, 2, none⟩ = some (.int .i64 t.2.2) := (World.cell?_setCell_other _ _ _ _ (by simp)).trans e3
  exact ⟨(World.cell?_setCell_other _ _ _ _ (by simp)).trans f1, (World.cell?_setCell_other _ _ _ _ (by simp)).trans f2, World.cell?_setCell_same _ _ _ f3⟩
/-- A struct in a cell and a slot are handed back. -/
theorem T3.results {w : World} {g : Nat} {t : Tm} (h : T3 w g t) {fn : Func} {p u : Tmp} {ts : Array Value} {v : Value} (hr : fn.results = #[.cell p 37, .tmp u]) (hp : ts.getD p undef = .pointer (some ⟨g, 0, none⟩)) (hu : ts.getD u undef = v) : (results fn ts).run Tryd.prog w = .ok (.tuple #[tmV t, v]) w := by
  rw [results_cell_tmp hr, hp, hu]
  rw [show (asAddr (Value.pointer (some ⟨g, 0, none⟩))).run Tryd.prog w = .ok ⟨g, 0, none⟩ w from rfl]
  simp only [Result.andThen]
  rw [toTerm_load w g _ _ _ _ rfl h.1 h.2.1 h.2.2]
/-- A variable of the library's own, of whatever value. -/
def MaxM (w : World) : Prop := ∃ m, w.cell? ⟨2, 0, none⟩ = some (.int .i64 m)
theorem MaxM.below {w w' : World} (h : MaxM w) (hb : Below w.heap.size w w') : MaxM w' := by
  obtain ⟨m, hm⟩ := h
  exact ⟨m, (hb.cell (p := ⟨2, 0, none⟩) (cell_lt hm)).trans hm⟩
theorem cut_g (s : ByteArray) (b : UInt8) (w : World) (hs : s.size ≤ 1000000000) (hM : MaxM w) : Calls Tryd.prog 40 #[.string s, .string ⟨#[b]⟩] w fun e w' => ∃ (x y : ByteArray) (f : Bool), e = .returned (.tuple #[.string x, .string y, .bool f]) ∧ Hid (x.data.toList = (Lib.cut s.data.toList [b]).1) ∧ Hid (y.data.toList = (Lib.cut s.data.toList [b]).2.1) ∧ x.size ≤ s.size ∧ y.size ≤ s.size ∧ Below w.heap.size w w' := by
  obtain ⟨m, hm⟩ := hM
  refine (Tryd.strings_Cut s ⟨#[b]⟩ m w (by omega) hm).mono ?_
  rintro e w' ⟨rfl, n, rfl⟩
  have hl := cutB_len s.data.toList b
  rw [show s.data.toList.length = s.size by simp] at hl
  refine ⟨_, _, _, rfl, Lib.hid rfl, Lib.hid rfl, ?_, ?_, belN (Below.refl _ _) n⟩
  · show (List.toArray _).size ≤ _
    rw [List.size_toArray]; exact hl.1
  · show (List.toArray _).size ≤ _
    rw [List.size_toArray]; exact hl.2
/-- The pieces of a text: a slice of texts in new memory. -/
def GivesK9 (l : List UInt8) (w : World) (e : Ending) (w' : World) : Prop := ∃ (g c : Nat) (ps : List ByteArray), e = .returned (.slice (some ⟨g, 0, none⟩) ps.length c) ∧ (∀ k (hk : k < ps.length), w'.cell? ⟨g, k, none⟩ = some (.string ps[k])) ∧ Hid (ps.map (·.data.toList) = sk9 l) ∧ ps.length ≤ 13 ∧ ps.length ≤ c ∧ c ≤ 13 ∧ Below w.heap.size w w'
theorem splitN_9 (s : ByteArray) (w : World) (hs : s.size ≤ 1000000000) (hM : MaxM w) : Calls Tryd.prog 23 #[.string s, .string ⟨#[59]⟩, .int .i64 13] w fun e w' => GivesK9 s.data.toList w e w' := by
  obtain ⟨m, hm⟩ := hM
  refine (Tryd.strings_SplitN s ⟨#[59]⟩ 13 m w (by omega) hm (by decide) (by decide) (by decide)).mono ?_
  rintro e w' ⟨rfl, rfl⟩
  have hl := Lib.splitB_length_le ⟨#[59]⟩ 0 (min 13 (s.size + 1) - 1) s
  refine ⟨_, _, Lib.splitB ⟨#[59]⟩ 0 (min 13 (s.size + 1) - 1) s, rfl, fun k hk => ?_, Lib.hid ?_, by omega, by omega, by omega, (Below.refl _ _).alloc (Nat.le_refl _) _⟩
  · refine (cell_of_row (w.alloc (.cells (Lib.cellsOf (Lib.splitB ⟨#[59]⟩ 0 (min 13 (s.size + 1) - 1) s) (min 13 (s.size + 1))) 9)) w.heap.size k _ 9 (0, 0) (heap_alloc_new w _)).trans ?_
    unfold Lib.cellsOf
    rw [List.getElem?_toArray, List.getElem?_append_left (by simpa using hk), List.getElem?_map, List.getElem?_eq_getElem hk]
    rfl
  · rw [Lib.splitB_data]
    unfold sk9
    rw [show s.data.toList.length = s.size by simp]
set_option maxHeartbeats 1000000 in
set_option maxRecDepth 100000 in
theorem parseTerm_any (s : ByteArray) (w : World) (hs : s.size ≤ 1000000000) (hN : Neut w ∧ Names w ∧ Pows w ∧ Sents w) (hM : MaxM w) : Calls Tryd.prog 24 #[.string s] w fun e w' => e = .returned (.tuple #[tmV (tcV s.data.toList), .bool (tcOk s.data.toList)]) ∧ Below w.heap.size w w' := by
  have HN := Lib.hid hN
  have HW := Lib.hid (show ∀ W, Below w.heap.size w W → (Neut W ∧ Names W ∧ Pows W ∧ Sents W) ∧ MaxM W from fun W hW => ⟨⟨hN.1.below hW, hN.2.1.below hW, hN.2.2.1.below hW, hN.2.2.2.below hW⟩, hM.below hW⟩)
  clear hN hM
  have hZ := Z3.new w (0, 0, 0)
  have hb0 := (Below.refl w.heap.size w).alloc (Nat.le_refl _) (.cells #[.int .i64 0, .int .i64 0, .int .i64 0] 37)
  have HB0 := Lib.hid hb0
  have HZ0 := Lib.hid hZ
  clear hZ hb0
  go_enter Tryd.func24, Tryd.ntmps24
  go_wp2_with fail
  refine (cut_g s 58 _ hs (HW.out _ HB0.out).2).mono ?_
  rintro e w1 ⟨x, y, f, rfl, hx, hy, sx, sy, b1⟩
  have HB1 := Lib.hid (bel2 HB0.out b1)
  have HZ1 := Lib.hid (HZ0.out.below b1)
  clear b1
  go_wp2_with fail
  refine (cut_g y 44 _ (by omega) (HW.out _ HB1.out).2).mono ?_
  rintro e w2 ⟨x2, y2, f2, rfl, hx2, hy2, sx2, sy2, b2⟩
  have HB2 := Lib.hid (bel2 HB1.out b2)
  have HZ2 := Lib.hid (HZ1.out.below b2)
  have HC := Lib.hid (show x.data.toList = tcC s.data.toList from hx.out)
  have HI := Lib.hid (show x2.data.toList = tcI s.data.toList by rw [hx2.out, hy.out]; rfl)
  have HJ := Lib.hid (show y2.data.toList = tcJ s.data.toList by rw [hy2.out, hy.out]; rfl)
  clear b2 hx hy hx2 hy2
  go_wp2_with fail
  refine (implParseNumber_any x _ (by omega) (HW.out _ HB2.out).1.1 (HW.out _ HB2.out).1.2.1 (HW.out _ HB2.out).1.2.2.1 (HW.out _ HB2.out).1.2.2.2).mono ?_
  rintro e w3 ⟨rfl, b3⟩
  rw [HC.out]
  have HB3 := Lib.hid (bel2 HB2.out b3)
  have HZ3 := Lib.hid (HZ2.out.below b3)
  clear b3
  go_wp2_with fail
  refine (implParseNumber_any x2 _ (by omega) (HW.out _ HB3.out).1.1 (HW.out _ HB3.out).1.2.1 (HW.out _ HB3.out).1.2.2.1 (HW.out _ HB3.out).1.2.2.2).mono ?_
  rintro e w4 ⟨rfl, b4⟩
  rw [HI.out]
  have HB4 := Lib.hid (bel2 HB3.out b4)
  have HZ4 := Lib.hid (HZ3.out.below b4)
  clear b4
  go_wp2_with fail
  refine (implParseNumber_any y2 _ (by omega) (HW.out _ HB4.out).1.1 (HW.out _ HB4.out).1.2.1 (HW.out _ HB4.out).1.2.2.1 (HW.out _ HB4.out).1.2.2.2).mono ?_
  rintro e w5 ⟨rfl, b5⟩
  rw [HJ.out]
  have HB5 := Lib.hid (bel2 HB4.out b5)
  have HZ5 := Lib.hid (HZ4.out.below b5)
  clear b5
  obtain ⟨⟨z0, z1, z2⟩, z3, z4, z5⟩ := HZ5.out
  cases h1 : okP (tcC s.data.toList) <;> cases h2 : okP (tcI s.data.toList) <;> cases h3 : okP (tcJ s.data.toList)
  all_goals
    have H := Lib.hid (And.intro h1 (And.intro h2 h3))
    clear h1 h2 h3
    go_wp2_with fail
    refine bodyPost_ret ((T3.store (t := (0, 0, 0)) ⟨z0, z1, z2⟩ (pnV (tcI s.data.toList), pnV (tcJ s.data.toList), pnV (tcC s.data.toList))).results rfl rfl rfl) rfl ⟨?_, ?_⟩
    · unfold tcV tcOk
      rw [H.out.1, H.out.2.1, H.out.2.2]
      rfl
    · exact ((HB5.out.setCell (Nat.le_refl _) _).setCell (Nat.le_refl _) _).setCell (Nat.le_refl _) _
end Go.Proofs.YtibdbgeknphljaaDoor

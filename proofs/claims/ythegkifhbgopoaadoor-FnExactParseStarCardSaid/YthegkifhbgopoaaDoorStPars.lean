/-
  parseRay of the program: what the call returns.
  Conditions: the text is shorter than a thousand million bytes; the tables and sentinels read as the program's and the library's text lays them.
-/
import Derived.Test.YthegkifhbgopoaaDoorStPrM
import Derived.Test.YthegkifhbgopoaaDoorPair
import Derived.Test.YthegkifhbgopoaaDoorStTS
namespace Go.Proofs.YthegkifhbgopoaaDoor
set_option linter.unusedSimpArgs false
set_option linter.unusedVariables false
open Go.ChangeShapes Go.WideShapes Go.ChangeAt Go.RowKit

/-- A term's three cells in a block of the call's own, not frozen. -/
def Z3 (w : World) (g : Nat) (t : Tm) : Prop := T3 w g t ∧ w.frozen? ⟨g, 0, none⟩ = false ∧ w.frozen? ⟨g, 1, none⟩ = false ∧ w.frozen? ⟨g, 2, none⟩ = false
theorem Z3.below {w w' : World} {g : Nat} {t : Tm} (h : Z3 w g t) (hb : Below w.heap.size w w') : Z3 w' g t := by
  obtain ⟨h1, h2, h3, h4⟩ := h
  have hg := cell_lt h1.1
  exact ⟨h1.below hb, (hb.frozen (p := ⟨g, 0, none⟩) hg).trans h2, (hb.frozen (p := ⟨g, 1, none⟩) hg).trans h3, (hb.frozen (p := ⟨g, 2, none⟩) hg).trans h4⟩
theorem Z3.new (w : World) (t : Tm) : Z3 (w.alloc (.cells #[.int .i64 t.1, .int .i64 t.2.1, .int .i64 t.2.2] 37)) w.heap.size t := by
  refine ⟨T3.new _ _ _, ?_, ?_, ?_⟩ <;> simp [go_sem]
theorem T3.store {w : World} {g : Nat} {t : Tm} (h : T3 w g t) (r : Tm) : T3 (((w.setCell ⟨g, 0, none⟩ (.int .i64 r.1)).setCell ⟨g, 1, none⟩ (.int .i64 r.2.1)).setCell ⟨g, 2, none⟩ (.int .i64 r.2.2)) g r := by
  obtain ⟨h1, h2, h3⟩ := h
  have e1 : (w.setCell ⟨g, 0, none⟩ (.int .i64 r.1)).cell? ⟨g, 0, none⟩ = some (.int .i64 r.1) := World.cell?_setCell_same _ _ _ h1
  have e2 : (w.setCell ⟨g, 0, none⟩ (.int .i64 r.1)).cell? ⟨g, 1, none⟩ = some (.int .i64 t.2.1) := (World.cell?_setCell_other _ _ _ _ (by simp)).trans h2
  have e3 : (w.setCell ⟨g, 0, none⟩ (.int .i64 r.1)).cell? ⟨g, 2, none⟩ = some (.int .i64 t.2.2) := (World.cell?_setCell_other _ _ _ _ (by simp)).trans h3
  have f1 : ((w.setCell ⟨g, 0, none⟩ (.int .i64 r.1)).setCell ⟨g, 1, none⟩ (.int .i64 r.2.1)).cell? ⟨g, 0, none⟩ = some (.int .i64 r.1) := (World.cell?_setCell_other _ _ _ _ (by simp)).trans e1
  have f2 : ((w.setCell ⟨g, 0, none⟩ (.int .i64 r.1)).setCell ⟨g, 1, none⟩ (.int .i64 r.2.1)).cell? ⟨g, 1, none⟩ = some (.int .i64 r.2.1) := World.cell?_setCell_same _ _ _ e2
  have f3 : ((w.setCell ⟨g, 0, none⟩ (.int .i64 r.1)).setCell ⟨g, 1, none⟩ (.int .i64 r.2.1)).cell? ⟨g, 2, none⟩ = some (.int .i64 t.2.2) := (World.cell?_setCell_other _ _ _ _ (by simp)).trans e3
  exact ⟨(World.cell?_setCell_other _ _ _ _ (by simp)).trans f1, (World.cell?_setCell_other _ _ _ _ (by simp)).trans f2, World.cell?_setCell_same _ _ _ f3⟩
theorem T3.loaded {w : World} {g : Nat} {t : Tm} (h : T3 w g t) : (loadVar 37 ⟨g, 0, none⟩).run Tryd.prog w = .ok (tmV t) w := by
  obtain ⟨h0, h1, h2⟩ := h
  simp [loadVar, go_sem, h0, h1, h2]
/-- A struct in a cell and a slot are handed back. -/
theorem T3.results {w : World} {g : Nat} {t : Tm} (h : T3 w g t) {fn : Func} {p u : Tmp} {ts : Array Value} {v : Value} (hr : fn.results = #[.cell p 37, .tmp u]) (hp : ts.getD p undef = .pointer (some ⟨g, 0, none⟩)) (hu : ts.getD u undef = v) : (results fn ts).run Tryd.prog w = .ok (.tuple #[tmV t, v]) w := by
  rw [results_cell_tmp hr, hp, hu]
  rw [show (asAddr (Value.pointer (some ⟨g, 0, none⟩))).run Tryd.prog w = .ok ⟨g, 0, none⟩ w from rfl]
  simp only [Result.andThen]
  rw [T3.loaded h]
theorem tc_pair (l : List UInt8) : tcOk l = (okPs (tcC l) && cuOk (tcE l)) ∧ tcI l = cuI (tcE l) ∧ tcJ l = cuJ (tcE l) := ⟨rfl, rfl, rfl⟩
set_option maxHeartbeats 1000000 in
set_option maxRecDepth 100000 in
theorem parseRay_any (s : ByteArray) (w : World) (hs : s.size ≤ 1000000000) (hN : AllT w) : Calls Tryd.prog 26 #[.string s] w fun e w' => e = .returned (.tuple #[tmV (tcV s.data.toList), .bool (tcOk s.data.toList)]) ∧ Below w.heap.size w w' := by
  have HW := Lib.hid (show ∀ W, Below w.heap.size w W → AllT W from fun W hW => hN.below hW)
  clear hN
  have hZ := Z3.new w (0, 0, 0)
  have hb0 := (Below.refl w.heap.size w).alloc (Nat.le_refl _) (.cells #[.int .i64 0, .int .i64 0, .int .i64 0] 37)
  have HB0 := Lib.hid hb0
  have HZ0 := Lib.hid hZ
  clear hZ hb0
  go_enter Tryd.func26, Tryd.ntmps26
  go_wp2_with fail
  refine (cut_g s 42 _ hs (HW.out _ HB0.out).2).mono ?_
  rintro e w1 ⟨x, y, f, rfl, hx, hy, sx, sy, b1⟩
  have HB1 := Lib.hid (bel2 HB0.out b1)
  have HZ1 := Lib.hid (HZ0.out.below b1)
  have HC := Lib.hid (show x.data.toList = tcC s.data.toList from hx.out)
  have HE := Lib.hid (show y.data.toList = tcE s.data.toList from hy.out)
  clear b1 hx hy
  go_wp2_with fail
  refine (implParseNumber_any x _ (by omega) (HW.out _ HB1.out).1.1 (HW.out _ HB1.out).1.2.1 (HW.out _ HB1.out).1.2.2.1 (HW.out _ HB1.out).1.2.2.2).mono ?_
  rintro e w3 ⟨rfl, b3⟩
  rw [HC.out]
  have HB3 := Lib.hid (bel2 HB1.out b3)
  have HZ3 := Lib.hid (HZ1.out.below b3)
  clear b3
  go_wp2_with fail
  refine (parsePair_any y _ (by omega) (HW.out _ HB3.out)).mono ?_
  rintro e w5 ⟨rfl, b5⟩
  rw [HE.out]
  have HB5 := Lib.hid (bel2 HB3.out b5)
  have HZ5 := Lib.hid (HZ3.out.below b5)
  clear b5
  obtain ⟨⟨z0, z1, z2⟩, z3, z4, z5⟩ := HZ5.out
  cases h1 : okPs (tcC s.data.toList) <;> cases h2 : cuOk (tcE s.data.toList)
  all_goals
    have H := Lib.hid (And.intro h1 h2)
    clear h1 h2
    go_wp2_with fail
    refine bodyPost_ret ((T3.store (t := (0, 0, 0)) ⟨z0, z1, z2⟩ (pnV (cuI (tcE s.data.toList)), pnV (cuJ (tcE s.data.toList)), pnV (tcC s.data.toList))).results rfl rfl rfl) rfl ⟨?_, ?_⟩
    · rw [(tc_pair s.data.toList).1, H.out.1, H.out.2]
      rfl
    · exact ((HB5.out.setCell (Nat.le_refl _) _).setCell (Nat.le_refl _) _).setCell (Nat.le_refl _) _
end Go.Proofs.YthegkifhbgopoaaDoor

/-
  Spots that come in, copied by the laws: what the call returns.
-/
import Derived.Test.YthegkifhbgopoaaCuZ
import Derived.Test.YthegkifhbgopoaaSSpot
namespace Go.Proofs.Ythegkifhbgopoaa
set_option linter.unusedSimpArgs false
set_option linter.unusedVariables false
open Go.ChangeShapes Go.WideShapes Go.ChangeAt Go.RowKit

/-- Four cells of a block. -/
abbrev QL (w' : World) (g : Nat) (a b c d : Int) : Prop := w'.cell? ⟨g, 0, none⟩ = some (.int .i64 a) ∧ w'.cell? ⟨g, 1, none⟩ = some (.int .i64 b) ∧ w'.cell? ⟨g, 2, none⟩ = some (.int .i64 c) ∧ w'.cell? ⟨g, 3, none⟩ = some (.int .i64 d)
section
variable {w w' : World} {g : Nat} {a b c d : Int}
theorem QL.below (h : QL w g a b c d) (hb : Below w.heap.size w w') : QL w' g a b c d := by
  obtain ⟨h0, h1, h2, h3⟩ := h
  exact ⟨(cellAt hb g 0 (cell_lt h0)).trans h0, (cellAt hb g 1 (cell_lt h0)).trans h1, (cellAt hb g 2 (cell_lt h0)).trans h2, (cellAt hb g 3 (cell_lt h0)).trans h3⟩
theorem QL.new (w : World) (a b c d : Int) (T : TypeId) : QL (w.alloc (.cells #[.int .i64 a, .int .i64 b, .int .i64 c, .int .i64 d] T)) w.heap.size a b c d := by
  refine ⟨?_, ?_, ?_, ?_⟩ <;> simp [go_sem]
theorem QL.setN (h : QL w g a b c d) {x : Nat} (hx : g ≠ x) (j : Nat) (u : Value) : QL (w.setCell ⟨x, j, none⟩ u) g a b c d := by
  have far : ∀ (y : Addr), y.block ≠ x → (w.setCell ⟨x, j, none⟩ u).cell? y = w.cell? y := fun y hy => World.cell?_setCell_other _ _ _ _ (fun e => hy (by rw [← e]))
  exact ⟨(far ⟨g, 0, none⟩ hx).trans h.1, (far ⟨g, 1, none⟩ hx).trans h.2.1, (far ⟨g, 2, none⟩ hx).trans h.2.2.1, (far ⟨g, 3, none⟩ hx).trans h.2.2.2⟩
end
/-- The box, and the slice that came in. -/
abbrev QB (w' : World) (g : Nat) (a b c d : Int) (A : Option Addr) (p : List Int) : Prop := w'.cell? ⟨g, 0, none⟩ = some (.int .i64 a) ∧ w'.cell? ⟨g, 1, none⟩ = some (.int .i64 b) ∧ w'.cell? ⟨g, 2, none⟩ = some (.int .i64 c) ∧ w'.cell? ⟨g, 3, none⟩ = some (.int .i64 d) ∧ RD w' A p
theorem QB.drew {w : World} {g : Nat} {a b c d : Int} {A : Option Addr} {p : List Int} (h : QB w g a b c d A p) : QB w.drew g a b c d A p := h
theorem QB.below {w w' : World} {g : Nat} {a b c d : Int} {A : Option Addr} {p : List Int} (h : QB w g a b c d A p) (hb : Below w.heap.size w w') : QB w' g a b c d A p := by
  obtain ⟨h1, h2, h3, h4, h5⟩ := h
  obtain ⟨k1, k2, k3, k4⟩ := QL.below ⟨h1, h2, h3, h4⟩ hb
  exact ⟨k1, k2, k3, k4, h5.below hb⟩
theorem QB.new (w : World) (a b c d : Int) (T : TypeId) {A : Option Addr} {p : List Int} (h : RD w A p) : QB (w.alloc (.cells #[.int .i64 a, .int .i64 b, .int .i64 c, .int .i64 d] T)) w.heap.size a b c d A p := by
  obtain ⟨k1, k2, k3, k4⟩ := QL.new w a b c d T
  exact ⟨k1, k2, k3, k4, h.below ((Below.refl _ _).alloc (Nat.le_refl _) _)⟩
set_option maxHeartbeats 1000000 in
theorem toSpot_b (a b c d : Int) (w : World) : Calls Try.prog 17 #[spV a b c d] w fun e w' => e = .returned (spV a b c d) ∧ Below w.heap.size w w' := by
  obtain ⟨W, hW⟩ : ∃ W, W = ((w.alloc (.cells #[.int .i64 a, .int .i64 b, .int .i64 c, .int .i64 d] 26)).alloc (.cells #[.int .i64 0, .int .i64 0, .int .i64 0, .int .i64 0] 34)).alloc (.cells #[.int .i64 0, .int .i64 0, .int .i64 0, .int .i64 0] 34) := ⟨_, rfl⟩
  have h1 : QL W w.heap.size a b c d := by rw [hW]; exact ((QL.new w a b c d 26).below ((Below.refl _ _).alloc (Nat.le_refl _) _)).below ((Below.refl _ _).alloc (Nat.le_refl _) _)
  have h2 : Q4 W (w.heap.size + 1) 0 0 0 0 := by
    have := (Q4.new (w.alloc (.cells #[.int .i64 a, .int .i64 b, .int .i64 c, .int .i64 d] 26)) 0 0 0 0).below ((Below.refl _ _).alloc (Nat.le_refl _) (.cells #[.int .i64 0, .int .i64 0, .int .i64 0, .int .i64 0] 34))
    rw [World.size_alloc] at this
    rw [hW]; exact this
  have h3 : Q4 W (w.heap.size + 2) 0 0 0 0 := by
    have := Q4.new ((w.alloc (.cells #[.int .i64 a, .int .i64 b, .int .i64 c, .int .i64 d] 26)).alloc (.cells #[.int .i64 0, .int .i64 0, .int .i64 0, .int .i64 0] 34)) 0 0 0 0
    rw [World.size_alloc, World.size_alloc] at this
    rw [hW]; exact this
  have hb : Below w.heap.size w W := by rw [hW]; go_grown
  have HW := Lib.hid hW
  have H1 := Lib.hid h1
  have H2 := Lib.hid h2
  have H3 := Lib.hid h3
  have HB := Lib.hid hb
  clear hW h2 h3 hb
  go_enter Try.func17, Try.ntmps17
  go_upto_region 2 with fail
  rw [← HW.out]
  obtain ⟨c0, c1, c2, c3⟩ := h1
  go_wp2_with fail
  refine (toFrac_b _ _ _).mono ?_
  rintro e w1 ⟨rfl, b1⟩
  obtain ⟨⟨x0, x1, x2, x3⟩, y0, y1, y2, y3⟩ := (H3.out.below b1).cells
  have hs1 := b1.size
  have l2 : w.heap.size + 2 < W.heap.size := cell_lt H3.out.cells.1.1
  have hA : Q4 ((w1.setCell ⟨w.heap.size + 2, 0, none⟩ (.int .i64 a)).setCell ⟨w.heap.size + 2, 1, none⟩ (.int .i64 b)) (w.heap.size + 2) a b 0 0 := heap_set_at (j := 1) (.int .i64 b) (heap_set_at (j := 0) (.int .i64 a) (H3.out.below b1))
  have hB : Q4 ((w1.setCell ⟨w.heap.size + 2, 0, none⟩ (.int .i64 a)).setCell ⟨w.heap.size + 2, 1, none⟩ (.int .i64 b)) (w.heap.size + 1) 0 0 0 0 := ((H2.out.below b1).setN (by omega) _ _).setN (by omega) _ _
  have hC : QL ((w1.setCell ⟨w.heap.size + 2, 0, none⟩ (.int .i64 a)).setCell ⟨w.heap.size + 2, 1, none⟩ (.int .i64 b)) w.heap.size a b c d := ((H1.out.below b1).setN (by omega) _ _).setN (by omega) _ _
  have hD : Below w.heap.size w ((w1.setCell ⟨w.heap.size + 2, 0, none⟩ (.int .i64 a)).setCell ⟨w.heap.size + 2, 1, none⟩ (.int .i64 b)) := ((bel2 HB.out b1).setCell (by show w.heap.size ≤ w.heap.size + 2; omega) _).setCell (by show w.heap.size ≤ w.heap.size + 2; omega) _
  clear c0 c1 c2 c3 b1
  go_upto_region 3 with fail
  generalize (w1.setCell ⟨w.heap.size + 2, 0, none⟩ (.int .i64 a)).setCell ⟨w.heap.size + 2, 1, none⟩ (.int .i64 b) = W2 at hA hB hC hD ⊢
  have HA := Lib.hid hA
  have HB2 := Lib.hid hB
  have HD := Lib.hid hD
  clear x0 x1 x2 x3 y0 y1 y2 y3 hs1 l2 hA hB hD
  obtain ⟨c0, c1, c2, c3⟩ := hC
  go_wp2_with fail
  refine (toFrac_b _ _ _).mono ?_
  rintro e w2 ⟨rfl, b2⟩
  obtain ⟨⟨x0, x1, x2, x3⟩, y0, y1, y2, y3⟩ := (HA.out.below b2).cells
  have hA : Q4 ((w2.setCell ⟨w.heap.size + 2, 2, none⟩ (.int .i64 c)).setCell ⟨w.heap.size + 2, 3, none⟩ (.int .i64 d)) (w.heap.size + 2) a b c d := heap_set_at (j := 3) (.int .i64 d) (heap_set_at (j := 2) (.int .i64 c) (HA.out.below b2))
  have hB : Q4 ((w2.setCell ⟨w.heap.size + 2, 2, none⟩ (.int .i64 c)).setCell ⟨w.heap.size + 2, 3, none⟩ (.int .i64 d)) (w.heap.size + 1) 0 0 0 0 := ((HB2.out.below b2).setN (by omega) _ _).setN (by omega) _ _
  have hD : Below w.heap.size w ((w2.setCell ⟨w.heap.size + 2, 2, none⟩ (.int .i64 c)).setCell ⟨w.heap.size + 2, 3, none⟩ (.int .i64 d)) := ((bel2 HD.out b2).setCell (by show w.heap.size ≤ w.heap.size + 2; omega) _).setCell (by show w.heap.size ≤ w.heap.size + 2; omega) _
  clear c0 c1 c2 c3 b2
  go_upto_region 4 with fail
  generalize (w2.setCell ⟨w.heap.size + 2, 2, none⟩ (.int .i64 c)).setCell ⟨w.heap.size + 2, 3, none⟩ (.int .i64 d) = W3 at hA hB hD ⊢
  have HB3 := Lib.hid hB
  have HD3 := Lib.hid hD
  clear x0 x1 x2 x3 y0 y1 y2 y3 hD
  obtain ⟨⟨x0, x1, x2, x3⟩, -⟩ := hA.cells
  obtain ⟨⟨p0, p1, p2, p3⟩, y0, y1, y2, y3⟩ := hB.cells
  go_wp2_with fail
  refine bodyPost_ret ((HB3.out.put a b c d).result rfl rfl) rfl ?_
  exact ⟨rfl, (((HD3.out.setCell (by show w.heap.size ≤ w.heap.size + 1; omega) _).setCell (by show w.heap.size ≤ w.heap.size + 1; omega) _).setCell (by show w.heap.size ≤ w.heap.size + 1; omega) _).setCell (by show w.heap.size ≤ w.heap.size + 1; omega) _⟩
end Go.Proofs.Ythegkifhbgopoaa

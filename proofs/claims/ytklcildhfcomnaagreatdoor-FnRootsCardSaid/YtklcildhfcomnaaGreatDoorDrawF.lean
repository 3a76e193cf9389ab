/-
  The model's draws of chapter 2: what each call returns.
  Condition: the bytes can be read; they are at most 1048576.
-/
import Derived.Test.YtklcildhfcomnaaGreatDoorDraw
import Derived.Test.YtklcildhfcomnaaGreatDoorFrac
import Derived.Deep.RegionHeld3
namespace Go.Proofs.YtklcildhfcomnaaGreatDoor
set_option linter.unusedSimpArgs false
set_option linter.unusedVariables false
open Go.ChangeShapes Go.WideShapes Go.ChangeAt Go.RowKit

/-- An integer of Go's. -/
def i64B (x : Int) : Prop := -9223372036854775808 ≤ x ∧ x ≤ 9223372036854775807
/-- A fraction is drawn, a valid one. -/
def TakesV (b k : Nat) (w : World) (e : Ending) (w' : World) : Prop := ∃ x y : Int, e = .returned (fracV x y) ∧ frB x y = true ∧ Cur w' b k ∧ w.grownBy w' (some b)
/-- A fraction is drawn, whatever it is. -/
def TakesF (b k : Nat) (w : World) (e : Ending) (w' : World) : Prop := ∃ x y : Int, e = .returned (fracV x y) ∧ i64B x ∧ Cur w' b k ∧ w.grownBy w' (some b)
theorem frB_i64 {x y : Int} (h : frB x y = true) : i64B x := by
  have := (frB_bd h).1
  unfold i64B; omega
theorem F2.grownD {w w' : World} {g c : Nat} {a b : Int} (h : F2 w g a b) (hg : w.grownBy w' (some c)) (hne : g ≠ c) : F2 w' g a b := by
  have hb : w'.heap[g]? = w.heap[g]? := hg.block g (cell_lt h.1) (fun he => hne (by injection he))
  obtain ⟨h1, h2, h3, h4⟩ := h
  unfold World.cell? at h1 h2
  unfold World.frozen? at h3 h4
  unfold F2 World.cell? World.frozen?
  simp only [hb]
  exact ⟨h1, h2, h3, h4⟩
theorem heap_far (w : World) (g i k : Nat) (v : Value) (h : k ≠ g) : (w.setCell ⟨g, i, none⟩ v).heap[k]? = w.heap[k]? := Below.heap_setCell _ _ _ _ h
theorem grown_setD {a w : World} {row : Option Nat} {g i : Nat} {v : Value} (h : a.grownBy w row) (hg : a.heap.size ≤ g) : a.grownBy (w.setCell ⟨g, i, none⟩ v) row :=
  ⟨h.os, h.tape, h.output, by simpa [World.setCell] using h.size, fun k hk hne => (heap_far w g i k v (by omega)).trans (h.block k hk hne)⟩
theorem Cur.same {w w' : World} {b k : Nat} (h : Cur w b k) (hs : ∀ i, i ≤ b → w'.heap[i]? = w.heap[i]?) : Cur w' b k := by
  obtain ⟨A, n, cap, at_, seed, h1, h2, h3, h4, h5⟩ := h
  refine ⟨A, n, cap, at_, seed, (hs b (Nat.le_refl _)).trans h1, h2, h3, h4, fun j hj => ?_⟩
  obtain ⟨ad, c, g1, g2, g3, g4⟩ := h5 j hj
  refine ⟨ad, c, g1, g2, ?_, g4⟩
  have hb : (ad.add j).block = ad.block := by unfold Addr.add; split <;> rfl
  rw [← g3]
  unfold World.cell?
  rw [hs _ (by omega)]
theorem Cur.set2 {w : World} {b k g : Nat} {u v : Value} (h : Cur w b k) (hg : b < g) : Cur ((w.setCell ⟨g, 0, none⟩ u).setCell ⟨g, 1, none⟩ v) b k :=
  h.same fun i hi => (heap_far _ g 1 i v (by omega)).trans (heap_far w g 0 i u (by omega))
/-- A struct in a cell is handed back. -/
theorem F2.result1 {w : World} {g : Nat} {a b : Int} (h : F2 w g a b) {fn : Func} {p : Tmp} {ts : Array Value} (hr : fn.results = #[.cell p 35]) (hp : ts.getD p undef = .pointer (some ⟨g, 0, none⟩)) : (Go.results fn ts).run Tryz.prog w = .ok (fracV a b) w := by
  have hl := h.load
  simp only [Go.results, hr]
  have hp' : ts[p]?.getD undef = .pointer (some ⟨g, 0, none⟩) := by simpa using hp
  have ha : ∀ x, (asAddr (Value.pointer (some ⟨x, 0, none⟩))).run Tryz.prog w = .ok ⟨x, 0, none⟩ w := fun _ => rfl
  simp [Sem.run_bind, Result.andThen, hp', ha, hl]
/-- Two structs in cells are handed back. -/
theorem F2.result2 {w : World} {g g' : Nat} {a b c d : Int} (h : F2 w g a b) (h' : F2 w g' c d) {fn : Func} {p q : Tmp} {ts : Array Value} (hr : fn.results = #[.cell p 35, .cell q 35]) (hp : ts.getD p undef = .pointer (some ⟨g, 0, none⟩)) (hq : ts.getD q undef = .pointer (some ⟨g', 0, none⟩)) : (Go.results fn ts).run Tryz.prog w = .ok (.tuple #[fracV a b, fracV c d]) w := by
  have hl := h.load
  have hl' := h'.load
  simp only [Go.results, hr]
  have hp' : ts[p]?.getD undef = .pointer (some ⟨g, 0, none⟩) := by simpa using hp
  have hq' : ts[q]?.getD undef = .pointer (some ⟨g', 0, none⟩) := by simpa using hq
  have ha : ∀ x, (asAddr (Value.pointer (some ⟨x, 0, none⟩))).run Tryz.prog w = .ok ⟨x, 0, none⟩ w := fun _ => rfl
  simp [Sem.run_bind, Result.andThen, hp', hq', ha, hl, hl']
set_option maxHeartbeats 400000 in
theorem frac_any (w : World) (b k : Nat) (h : Cur w b k) (hk : k ≤ 800000000) : Calls Tryz.prog 77 #[.pointer (some ⟨b, 0, none⟩)] w fun e w' => TakesV b (k + 4) w e w' := by
  have hl := h.lt
  have R0 := F2.new w 0 0
  go_enter Tryz.func77, Tryz.ntmps77
  go_wp2_with fail
  refine (pick_any 41 (by omega) _ b k (h.alloc _) (by omega)).mono ?_
  rintro e v1 ⟨x, rfl, hx, hc1, hg1⟩
  have hx' : 0 ≤ x ∧ x ≤ 41 := by obtain ⟨q1, q2⟩ := hx; omega
  clear hx
  go_wp2_with fail
  refine (pick_any 12 (by omega) _ b (k + 2) hc1 (by omega)).mono ?_
  rintro e v2 ⟨y, rfl, hy, hc2, hg2⟩
  have hy' : 0 ≤ y ∧ y ≤ 12 := by obtain ⟨q1, q2⟩ := hy; omega
  clear hy
  have G2 := grown_trans hg1 hg2
  have L2 := G2.size
  simp at L2
  go_wp2_with fail
  refine (frMake_any _ _ _ (by unfold wide; omega) (by unfold wide; omega)).mono ?_
  rintro e v3 ⟨rfl, b3⟩
  have HM := Lib.hid (mk_parts (mk_small (n := x - 20) (d := 1 + y) (by omega) (by omega))).2.1
  have hc3 := hc2.below b3
  obtain ⟨z0, z1, z2, z3⟩ := ((R0.grownD hg1 (by omega)).grownD hg2 (by omega)).below b3
  have s3 : w.heap.size < v3.heap.size := cell_lt z0
  go_wp2_with fail
  refine bodyPost_ret (((F2.store ⟨z0, z1, z2, z3⟩ _ _).old _).result1 rfl rfl) rfl ?_
  exact ⟨_, _, rfl, HM.out, (hc3.set2 hl).alloc _, grown_alloc (grown_setD (grown_setD (Lib.grownBy_below (grown_trans (grown_alloc (World.grownBy.refl w _) _) G2) b3) (Nat.le_refl _)) (Nat.le_refl _)) _⟩
set_option maxHeartbeats 1000000 in
theorem anyFrac_any (w : World) (b k : Nat) (h : Cur w b k) (hk : k ≤ 700000000) : Calls Tryz.prog 39 #[.pointer (some ⟨b, 0, none⟩)] w fun e w' => TakesF b (k + 6) w e w' := by
  have hl := h.lt
  have R0 := F2.new w 0 0
  go_enter Tryz.func39, Tryz.ntmps39
  go_wp2_with fail
  refine (pick_any 24 (by omega) _ b k (h.alloc _) (by omega)).mono ?_
  rintro e v1 ⟨r, rfl, hr, hc1, hg1⟩
  clear hr
  have hl1 := hc1.lt
  have G1 := grown_trans (grown_alloc (World.grownBy.refl w (some b)) _) hg1
  have R1 := R0.grownD hg1 (by omega)
  cases h0 : r == 0
  · cases h1 : r == 1
    · cases h2 : r == 2
      · go_wp2_with fail
        refine (frac_any _ b (k + 2) hc1 (by omega)).mono ?_
        rintro e v2 ⟨x, y, rfl, hf, hc2, hg2⟩
        obtain ⟨z0, z1, z2, z3⟩ := R1.grownD hg2 (by omega)
        have G2 := grown_trans G1 hg2
        have HF := Lib.hid (frB_i64 hf)
        clear hf
        go_wp2_with fail
        refine bodyPost_ret ((F2.store ⟨z0, z1, z2, z3⟩ _ _).result1 rfl rfl) rfl ?_
        exact ⟨_, _, rfl, HF.out, hc2.set2 hl, grown_setD (grown_setD G2 (Nat.le_refl _)) (Nat.le_refl _)⟩
      · go_wp2_with fail
        refine (among_any _ b (k + 2) v1.heap.size _ [2, 0] (IS.litC v1 [2, 0] (by simp)) (lit_away hl1) (by simp) (hc1.alloc _) (by omega)).mono ?_
        rintro e v2 ⟨x, rfl, hx, hc2, hg2⟩
        have HW := Lib.hid (show i64B x by
          simp at hx
          unfold i64B
          omega)
        clear hx
        obtain ⟨z0, z1, z2, z3⟩ := (R1.old _).grownD hg2 (by omega)
        have G2 := grown_trans (grown_alloc G1 _) hg2
        go_wp2_with fail
        refine bodyPost_ret ((F2.store ⟨z0, z1, z2, z3⟩ _ _).result1 rfl rfl) rfl ?_
        exact ⟨_, _, rfl, HW.out, (hc2.more (by omega)).set2 hl, grown_setD (grown_setD G2 (Nat.le_refl _)) (Nat.le_refl _)⟩
    · go_wp2_with fail
      refine (among_any _ b (k + 2) v1.heap.size _ [1000000000, 999999999, 1000000001, 0, -1] (IS.litC v1 [1000000000, 999999999, 1000000001, 0, -1] (by simp)) (lit_away hl1) (by simp) (hc1.alloc _) (by omega)).mono ?_
      rintro e v2 ⟨x, rfl, hx, hc2, hg2⟩
      have HW := Lib.hid (show i64B 1 by
        skip
        unfold i64B
        omega)
      clear hx
      obtain ⟨z0, z1, z2, z3⟩ := (R1.old _).grownD hg2 (by omega)
      have G2 := grown_trans (grown_alloc G1 _) hg2
      go_wp2_with fail
      refine bodyPost_ret ((F2.store ⟨z0, z1, z2, z3⟩ _ _).result1 rfl rfl) rfl ?_
      exact ⟨_, _, rfl, HW.out, (hc2.more (by omega)).set2 hl, grown_setD (grown_setD G2 (Nat.le_refl _)) (Nat.le_refl _)⟩
  · go_wp2_with fail
    refine (among_any _ b (k + 2) v1.heap.size _ [1000000000, -1000000000, 1000000001, -9223372036854775808] (IS.litC v1 [1000000000, -1000000000, 1000000001, -9223372036854775808] (by simp)) (lit_away hl1) (by simp) (hc1.alloc _) (by omega)).mono ?_
    rintro e v2 ⟨x, rfl, hx, hc2, hg2⟩
    have HW := Lib.hid (show i64B x by
      simp at hx
      unfold i64B
      omega)
    clear hx
    obtain ⟨z0, z1, z2, z3⟩ := (R1.old _).grownD hg2 (by omega)
    have G2 := grown_trans (grown_alloc G1 _) hg2
    go_wp2_with fail
    refine bodyPost_ret ((F2.store ⟨z0, z1, z2, z3⟩ _ _).result1 rfl rfl) rfl ?_
    exact ⟨_, _, rfl, HW.out, (hc2.more (by omega)).set2 hl, grown_setD (grown_setD G2 (Nat.le_refl _)) (Nat.le_refl _)⟩
end Go.Proofs.YtklcildhfcomnaaGreatDoor

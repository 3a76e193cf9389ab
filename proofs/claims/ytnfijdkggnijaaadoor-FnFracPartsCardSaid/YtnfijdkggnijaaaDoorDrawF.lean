/-
  The model's draws of chapter 2: what each call returns.
  Condition: the bytes can be read; they are at most 1048576.
-/
import Derived.Test.YtnfijdkggnijaaaDoorDraw
import Derived.Test.YtnfijdkggnijaaaDoorFracM
import Derived.Deep.RegionHeld3
namespace Go.Proofs.YtnfijdkggnijaaaDoor
set_option linter.unusedSimpArgs false
set_option linter.unusedVariables false
open Go.ChangeShapes Go.WideShapes Go.ChangeAt Go.RowKit

/-- An integer of Go's. -/
def i64B (x : Int) : Prop := -9223372036854775808 ≤ x ∧ x ≤ 9223372036854775807
/-- A fraction is drawn, a valid one. -/
def TakesV (b k : Nat) (w : World) (e : Ending) (w' : World) : Prop := ∃ x y : Int, e = .returned (fracV x y) ∧ frB x y = true ∧ Cur w' b k ∧ w.grownBy w' (some b)
/-- A fraction is drawn, whatever it is. -/
def TakesF (b k : Nat) (w : World) (e : Ending) (w' : World) : Prop := ∃ x y : Int, e = .returned (fracV x y) ∧ i64B x ∧ Cur w' b k ∧ w.grownBy w' (some b)
theorem frB_i64 {x y : Int} (h : frB x y = true) : i64B x := by
  have := (frB_bd h).1
  unfold i64B; omega
theorem F2.grown {w w' : World} {g c : Nat} {a b : Int} (h : F2 w g a b) (hg : w.grownBy w' (some c)) (hne : g ≠ c) : F2 w' g a b := by
  have hb : w'.heap[g]? = w.heap[g]? := hg.block g (cell_lt h.1) (fun he => hne (by injection he))
  obtain ⟨h1, h2, h3, h4⟩ := h
  unfold World.cell? at h1 h2
  unfold World.frozen? at h3 h4
  unfold F2 World.cell? World.frozen?
  simp only [hb]
  exact ⟨h1, h2, h3, h4⟩
theorem heap_far (w : World) (g i k : Nat) (v : Value) (h : k ≠ g) : (w.setCell ⟨g, i, none⟩ v).heap[k]? = w.heap[k]? := Below.heap_setCell _ _ _ _ h
theorem grown_set {a w : World} {row : Option Nat} {g i : Nat} {v : Value} (h : a.grownBy w row) (hg : a.heap.size ≤ g) : a.grownBy (w.setCell ⟨g, i, none⟩ v) row :=
  ⟨h.os, h.tape, h.output, by simpa [World.setCell] using h.size, fun k hk hne => (heap_far w g i k v (by omega)).trans (h.block k hk hne)⟩
theorem Cur.same {w w' : World} {b k : Nat} (h : Cur w b k) (hs : ∀ i, i ≤ b → w'.heap[i]? = w.heap[i]?) : Cur w' b k := by
  obtain ⟨A, n, cap, at_, seed, h1, h2, h3, h4, h5⟩ := h
  refine ⟨A, n, cap, at_, seed, (hs b (Nat.le_refl _)).trans h1, h2, h3, h4, fun j hj => ?_⟩
  obtain ⟨ad, c, g1, g2, g3, g4⟩ := h5 j hj
  refine ⟨ad, c, g1, g2, ?_, g4⟩
  have hb : (ad.add j).block = ad.block := by unfold Addr.add; split <;> rfl
  rw [← g3]
  unfold World.cell?
  rw [hs _ (by omega)]
theorem Cur.set2 {w : World} {b k g : Nat} {u v : Value} (h : Cur w b k) (hg : b < g) : Cur ((w.setCell ⟨g, 0, none⟩ u).setCell ⟨g, 1, none⟩ v) b k :=
  h.same fun i hi => (heap_far _ g 1 i v (by omega)).trans (heap_far w g 0 i u (by omega))
/-- A struct in a cell is handed back. -/
theorem F2.result1 {w : World} {g : Nat} {a b : Int} (h : F2 w g a b) {fn : Func} {p : Tmp} {ts : Array Value} (hr : fn.results = #[.cell p 24]) (hp : ts.getD p undef = .pointer (some ⟨g, 0, none⟩)) : (Go.results fn ts).run Tryd.prog w = .ok (fracV a b) w := by
  have hl := h.load
  simp only [Go.results, hr]
  have hp' : ts[p]?.getD undef = .pointer (some ⟨g, 0, none⟩) := by simpa using hp
  have ha : ∀ x, (asAddr (Value.pointer (some ⟨x, 0, none⟩))).run Tryd.prog w = .ok ⟨x, 0, none⟩ w := fun _ => rfl
  simp [Sem.run_bind, Result.andThen, hp', ha, hl]
/-- Two structs in cells are handed back. -/
theorem F2.result2 {w : World} {g g' : Nat} {a b c d : Int} (h : F2 w g a b) (h' : F2 w g' c d) {fn : Func} {p q : Tmp} {ts : Array Value} (hr : fn.results = #[.cell p 24, .cell q 24]) (hp : ts.getD p undef = .pointer (some ⟨g, 0, none⟩)) (hq : ts.getD q undef = .pointer (some ⟨g', 0, none⟩)) : (Go.results fn ts).run Tryd.prog w = .ok (.tuple #[fracV a b, fracV c d]) w := by
  have hl := h.load
  have hl' := h'.load
  simp only [Go.results, hr]
  have hp' : ts[p]?.getD undef = .pointer (some ⟨g, 0, none⟩) := by simpa using hp
  have hq' : ts[q]?.getD undef = .pointer (some ⟨g', 0, none⟩) := by simpa using hq
  have ha : ∀ x, (asAddr (Value.pointer (some ⟨x, 0, none⟩))).run Tryd.prog w = .ok ⟨x, 0, none⟩ w := fun _ => rfl
  simp [Sem.run_bind, Result.andThen, hp', hq', ha, hl, hl']
set_option maxHeartbeats 400000 in
theorem frac_any (w : World) (b k : Nat) (h : Cur w b k) (hk : k ≤ 800000000) : Calls Tryd.prog 43 #[.pointer (some ⟨b, 0, none⟩)] w fun e w' => TakesV b (k + 4) w e w' := by
  have hl := h.lt
  have R0 := F2.new w 0 0
  go_enter Tryd.func43, Tryd.ntmps43
  go_wp2_with fail
  refine (pick_any 41 (by omega) _ b k (h.alloc _) (by omega)).mono ?_
  rintro e v1 ⟨x, rfl, hx, hc1, hg1⟩
  have hx' : 0 ≤ x ∧ x ≤ 41 := by obtain ⟨q1, q2⟩ := hx; omega
  clear hx
  go_wp2_with fail
  refine (pick_any 12 (by omega) _ b (k + 2) hc1 (by omega)).mono ?_
  rintro e v2 ⟨y, rfl, hy, hc2, hg2⟩
  have hy' : 0 ≤ y ∧ y ≤ 12 := by obtain ⟨q1, q2⟩ := hy; omega
  clear hy
  have G2 := grown_trans hg1 hg2
  have L2 := G2.size
  simp at L2
  go_wp2_with fail
  refine (frMake_any _ _ _ (by unfold wide; omega) (by unfold wide; omega)).mono ?_
  rintro e v3 ⟨rfl, b3⟩
  have HM := Lib.hid (mk_parts (mk_small (n := x - 20) (d := 1 + y) (by omega) (by omega))).2.1
  have hc3 := hc2.below b3
  obtain ⟨z0, z1, z2, z3⟩ := ((R0.grown hg1 (by omega)).grown hg2 (by omega)).below b3
  have s3 : w.heap.size < v3.heap.size := cell_lt z0
  go_wp2_with fail
  refine bodyPost_ret (((F2.store ⟨z0, z1, z2, z3⟩ _ _).old _).result1 rfl rfl) rfl ?_
  exact ⟨_, _, rfl, HM.out, (hc3.set2 hl).alloc _, grown_alloc (grown_set (grown_set (Lib.grownBy_below (grown_trans (grown_alloc (World.grownBy.refl w _) _) G2) b3) (Nat.le_refl _)) (Nat.le_refl _)) _⟩
set_option maxHeartbeats 1000000 in
theorem anyFrac_any (w : World) (b k : Nat) (h : Cur w b k) (hk : k ≤ 700000000) : Calls Tryd.prog 47 #[.pointer (some ⟨b, 0, none⟩)] w fun e w' => TakesF b (k + 6) w e w' := by
  have hl := h.lt
  have R0 := F2.new w 0 0
  go_enter Tryd.func47, Tryd.ntmps47
  go_wp2_with fail
  refine (pick_any 24 (by omega) _ b k (h.alloc _) (by omega)).mono ?_
  rintro e v1 ⟨r, rfl, hr, hc1, hg1⟩
  clear hr
  have hl1 := hc1.lt
  have G1 := grown_trans (grown_alloc (World.grownBy.refl w (some b)) _) hg1
  have R1 := R0.grown hg1 (by omega)
  cases h0 : r == 0
  · cases h1 : r == 1
    · cases h2 : r == 2
      · go_wp2_with fail
        refine (frac_any _ b (k + 2) hc1 (by omega)).mono ?_
        rintro e v2 ⟨x, y, rfl, hf, hc2, hg2⟩
        obtain ⟨z0, z1, z2, z3⟩ := R1.grown hg2 (by omega)
        have G2 := grown_trans G1 hg2
        have HF := Lib.hid (frB_i64 hf)
        clear hf
        go_wp2_with fail
        refine bodyPost_ret ((F2.store ⟨z0, z1, z2, z3⟩ _ _).result1 rfl rfl) rfl ?_
        exact ⟨_, _, rfl, HF.out, hc2.set2 hl, grown_set (grown_set G2 (Nat.le_refl _)) (Nat.le_refl _)⟩
      · go_wp2_with fail
        refine (among_any _ b (k + 2) v1.heap.size _ [2, 0] (IS.lit v1 [2, 0] (by simp)) (lit_away hl1) (by simp) (hc1.alloc _) (by omega)).mono ?_
        rintro e v2 ⟨x, rfl, hx, hc2, hg2⟩
        have HW := Lib.hid (show i64B x by
          simp at hx
          unfold i64B
          omega)
        clear hx
        obtain ⟨z0, z1, z2, z3⟩ := (R1.old _).grown hg2 (by omega)
        have G2 := grown_trans (grown_alloc G1 _) hg2
        go_wp2_with fail
        refine bodyPost_ret ((F2.store ⟨z0, z1, z2, z3⟩ _ _).result1 rfl rfl) rfl ?_
        exact ⟨_, _, rfl, HW.out, (hc2.more (by omega)).set2 hl, grown_set (grown_set G2 (Nat.le_refl _)) (Nat.le_refl _)⟩
    · go_wp2_with fail
      refine (among_any _ b (k + 2) v1.heap.size _ [1000000000, 999999999, 1000000001, 0, -1] (IS.lit v1 [1000000000, 999999999, 1000000001, 0, -1] (by simp)) (lit_away hl1) (by simp) (hc1.alloc _) (by omega)).mono ?_
      rintro e v2 ⟨x, rfl, hx, hc2, hg2⟩
      have HW := Lib.hid (show i64B 1 by
        skip
        unfold i64B
        omega)
      clear hx
      obtain ⟨z0, z1, z2, z3⟩ := (R1.old _).grown hg2 (by omega)
      have G2 := grown_trans (grown_alloc G1 _) hg2
      go_wp2_with fail
      refine bodyPost_ret ((F2.store ⟨z0, z1, z2, z3⟩ _ _).result1 rfl rfl) rfl ?_
      exact ⟨_, _, rfl, HW.out, (hc2.more (by omega)).set2 hl, grown_set (grown_set G2 (Nat.le_refl _)) (Nat.le_refl _)⟩
  · go_wp2_with fail
    refine (among_any _ b (k + 2) v1.heap.size _ [1000000000, -1000000000, 1000000001, -9223372036854775808] (IS.lit v1 [1000000000, -1000000000, 1000000001, -9223372036854775808] (by simp)) (lit_away hl1) (by simp) (hc1.alloc _) (by omega)).mono ?_
    rintro e v2 ⟨x, rfl, hx, hc2, hg2⟩
    have HW := Lib.hid (show i64B x by
      simp at hx
      unfold i64B
      omega)
    clear hx
    obtain ⟨z0, z1, z2, z3⟩ := (R1.old _).grown hg2 (by omega)
    have G2 := grown_trans (grown_alloc G1 _) hg2
    go_wp2_with fail
    refine bodyPost_ret ((F2.store ⟨z0, z1, z2, z3⟩ _ _).result1 rfl rfl) rfl ?_
    exact ⟨_, _, rfl, HW.out, (hc2.more (by omega)).set2 hl, grown_set (grown_set G2 (Nat.le_refl _)) (Nat.le_refl _)⟩
/-- Two fractions are drawn. -/
def Draws2F (w : World) (e : Ending) (w' : World) : Prop := ∃ a b c d : Int, e = .returned (.tuple #[fracV a b, fracV c d]) ∧ i64B a ∧ i64B c ∧ Below w.heap.size w w'
theorem S2.grown {w w' : World} {g c : Nat} {a b : Int} (h : S2 w g a b) (hg : w.grownBy w' (some c)) (hne : g ≠ c) : S2 w' g a b := by
  have hb : w'.heap[g]? = w.heap[g]? := hg.block g (cell_lt h.1) (fun he => hne (by injection he))
  obtain ⟨h1, h2⟩ := h
  unfold World.cell? at h1 h2
  unfold S2 World.cell?
  simp only [hb]
  exact ⟨h1, h2⟩
theorem S2.set_ {w : World} {g k i : Nat} {a b : Int} {v : Value} (H : S2 w g a b) (hn : k ≠ g) : S2 (w.setCell ⟨k, i, none⟩ v) g a b :=
  ⟨(World.cell?_setCell_other _ _ _ _ (by simp [hn])).trans H.1, (World.cell?_setCell_other _ _ _ _ (by simp [hn])).trans H.2⟩
/-- What the draws leave, for the call that made the cursor. -/
theorem bel_draws {w w0 w' : World} {c : Nat} (b0 : Below w.heap.size w w0) (h : w0.grownBy w' (some c)) (hc : w.heap.size ≤ c) : Below w.heap.size w w' :=
  b0.grown h b0.size (fun k hk => by injection hk with hk; omega)
theorem bel_pair {w W : World} {g i j : Nat} {u v : Value} (b : Below w.heap.size w W) (hg : w.heap.size ≤ g) : Below w.heap.size w ((W.setCell ⟨g, i, none⟩ u).setCell ⟨g, j, none⟩ v) :=
  (b.setCell (p := ⟨g, i, none⟩) hg u).setCell (p := ⟨g, j, none⟩) hg v
set_option maxHeartbeats 1000000 in
theorem drawAddFracs_any (w : World) (A : Option Addr) (n cap : Nat) (h : RB w w.heap.size A n) (hn : n ≤ 1048576) : Calls Tryd.prog 23 #[.slice A n cap] w fun e w' => Draws2F w e w' := by
  have q0 : Below w.heap.size w ((w.alloc (.cells #[.int .i64 0, .int .i64 0] 24)).alloc (.cells #[.int .i64 0, .int .i64 0] 24)) := ((Below.refl _ _).alloc (Nat.le_refl _) _).alloc (by simp) _
  have hs : ((w.alloc (.cells #[.int .i64 0, .int .i64 0] 24)).alloc (.cells #[.int .i64 0, .int .i64 0] 24)).heap.size = w.heap.size + 1 + 1 := by simp
  have hc := cur_new (cap := cap) (h.below q0) hn
  rw [hs] at hc
  have b0 : Below w.heap.size w (((w.alloc (.cells #[.int .i64 0, .int .i64 0] 24)).alloc (.cells #[.int .i64 0, .int .i64 0] 24)).alloc (.cells #[.slice A n cap, .int .i64 0, .int .u64 0] 58)) := q0.alloc (by simp; omega) _
  have R0 := ((F2.new w 0 0).old (.cells #[.int .i64 0, .int .i64 0] 24)).old (.cells #[.slice A n cap, .int .i64 0, .int .u64 0] 58)
  have R1 := (F2.new (w.alloc (.cells #[.int .i64 0, .int .i64 0] 24)) 0 0).old (.cells #[.slice A n cap, .int .i64 0, .int .u64 0] 58)
  rw [show (w.alloc (.cells #[.int .i64 0, .int .i64 0] 24)).heap.size = w.heap.size + 1 by simp] at R1
  clear q0 hs
  go_enter Tryd.func23, Tryd.ntmps23
  go_wp2_with fail
  refine (anyFrac_any _ _ 0 hc (by omega)).mono ?_
  rintro e v1 ⟨x, y, rfl, hx, hc1, hg1⟩
  have B1 := bel_draws b0 hg1 (by omega)
  have R2 := (R0.grown hg1 (by omega)).old (.cells #[.int .i64 x, .int .i64 y] 24)
  have R3 := (R1.grown hg1 (by omega)).old (.cells #[.int .i64 x, .int .i64 y] 24)
  have S5 := S2.new v1 x y 24
  have l1 : w.heap.size + 1 + 1 < v1.heap.size := hc1.lt
  clear R0 R1 hc hg1 b0
  go_wp2_with fail
  refine (one_any 6 (by omega) _ _ _ (hc1.alloc _) (by omega)).mono ?_
  rintro e v2 ⟨r, rfl, hc2, hg2⟩
  have B2 := bel_draws (B1.alloc B1.size _) hg2 (by omega)
  have S6 := S5.grown hg2 (by omega)
  have R4 := R2.grown hg2 (by omega)
  have R5 := R3.grown hg2 (by omega)
  have HX := Lib.hid hx
  clear R2 R3 S5 hc1 hg2 B1 hx
  obtain ⟨z0, z1, z2, z3⟩ := R4
  obtain ⟨y0, y1, y2, y3⟩ := R5
  cases r
  · have hc2' : Cur v2.drew (w.heap.size + 1 + 1) (0 + 6 + 2) := hc2
    go_wp2_with fail
    go_region_held3 (fun w' => w'.cell? ⟨v1.heap.size, 0, none⟩ = some (.int .i64 x) ∧ w'.cell? ⟨v1.heap.size, 1, none⟩ = some (.int .i64 y)) (repeat' (first | with_reducible exact S6 | with_reducible exact S2.drew S6 | with_reducible exact S2.grown (S2.drew S6) (by assumption) (by omega) | with_reducible refine S2.drew ?_ | with_reducible refine S2.set_ ?_ (by omega))) ((go_at_call 47; refine (anyFrac_any _ _ _ hc2' (by omega)).mono ?_; rintro e v3 ⟨x', y', rfl, hx', hc3, hg3⟩; obtain ⟨a0, a1, a2, a3⟩ := F2.grown (show F2 v2.drew w.heap.size 0 0 from ⟨z0, z1, z2, z3⟩) hg3 (by omega); obtain ⟨c0, c1, c2, c3⟩ := F2.grown (show F2 v2.drew (w.heap.size + 1) 0 0 from ⟨y0, y1, y2, y3⟩) hg3 (by omega)))
    go_wp2_with fail
    refine bodyPost_ret (F2.result2 (((F2.store ⟨a0, a1, a2, a3⟩ x y).far (by omega)).far (by omega)) (F2.store (F2.far (F2.far ⟨c0, c1, c2, c3⟩ (by omega)) (by omega)) x' y') rfl rfl rfl) rfl ?_
    exact ⟨_, _, _, _, rfl, HX.out, hx', bel_pair (bel_pair (bel_draws B2.drew hg3 (by omega)) (Nat.le_refl _)) (by omega)⟩
  · go_wp2_with fail
    go_region_held3 (fun w' => w'.cell? ⟨v1.heap.size, 0, none⟩ = some (.int .i64 x) ∧ w'.cell? ⟨v1.heap.size, 1, none⟩ = some (.int .i64 y)) (repeat' (first | with_reducible exact S6 | with_reducible exact S2.drew S6 | with_reducible exact S2.grown (S2.drew S6) (by assumption) (by omega) | with_reducible refine S2.drew ?_ | with_reducible refine S2.set_ ?_ (by omega))) (fail)
    go_wp2_with fail
    refine bodyPost_ret (F2.drew (F2.store ⟨z0, z1, z2, z3⟩ x y |>.far (by omega) |>.far (by omega)) |>.result2 (F2.drew (F2.store (F2.far (F2.far ⟨y0, y1, y2, y3⟩ (by omega)) (by omega)) x y)) rfl rfl rfl) rfl ?_
    exact ⟨_, _, _, _, rfl, HX.out, HX.out, (bel_pair (bel_pair B2 (Nat.le_refl _)) (by omega)).drew⟩
end Go.Proofs.YtnfijdkggnijaaaDoor

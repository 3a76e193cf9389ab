/-
  Heights and corners, in the program and in the model: what each call returns.
  Conditions: the slice reads as the list that is named, a polynomial where it says so.
-/
import Derived.Test.YtklcildhfcomnaaGreatDoorStack
import Derived.Test.YtklcildhfcomnaaGreatDoorRootN
import Derived.Test.YtklcildhfcomnaaGreatDoorFrac
import Derived.Deep.RegionHeld3
import Derived.Deep.DeepCutAuto
namespace Go.Proofs.YtklcildhfcomnaaGreatDoor
set_option linter.unusedSimpArgs false
set_option linter.unusedVariables false
open Go.ChangeShapes Go.WideShapes Go.ChangeAt Go.RowKit

/-- Two cells of one block. -/
abbrev SP (w' : World) (g i k : Nat) (a b : Int) : Prop := w'.cell? ⟨g, i, none⟩ = some (.int .i64 a) ∧ w'.cell? ⟨g, k, none⟩ = some (.int .i64 b)
theorem SP.drew {w : World} {g i k : Nat} {a b : Int} (h : SP w g i k a b) : SP w.drew g i k a b := h
theorem SP.below {w w' : World} {g i k : Nat} {a b : Int} (h : SP w g i k a b) (hb : Below w.heap.size w w') : SP w' g i k a b := by
  obtain ⟨h1, h2⟩ := h
  have l1 := cell_lt h1
  exact ⟨(cellAt hb g i l1).trans h1, (cellAt hb g k l1).trans h2⟩
theorem SP.alloc {w : World} {g i k : Nat} {a b : Int} (h : SP w g i k a b) (o : Obj) : SP (w.alloc o) g i k a b := h.below ((Below.refl _ _).alloc (Nat.le_refl _) o)
theorem SP.setAt {w w1 : World} {g i k : Nat} {a b : Int} (h : SP w g i k a b) (h1 : SP w1 g i k a b) (j : Nat) (u : Value) : SP (w.setCell ⟨w1.heap.size, j, none⟩ u) g i k a b := by
  have l1 : g < w1.heap.size := cell_lt h1.1
  obtain ⟨k1, k2⟩ := h
  have far : ∀ (x : Addr), x.block < w1.heap.size → (w.setCell ⟨w1.heap.size, j, none⟩ u).cell? x = w.cell? x := fun x hx => World.cell?_setCell_other _ _ _ _ (fun e => by rw [← e] at hx; exact Nat.lt_irrefl _ hx)
  exact ⟨(far ⟨g, i, none⟩ l1).trans k1, (far ⟨g, k, none⟩ l1).trans k2⟩
theorem SP.setN {w : World} {g i k : Nat} {a b : Int} (h : SP w g i k a b) (x : Nat) (hx : g < x) (j : Nat) (u : Value) : SP (w.setCell ⟨x, j, none⟩ u) g i k a b := by
  obtain ⟨k1, k2⟩ := h
  have far : ∀ (y : Addr), y.block < x → (w.setCell ⟨x, j, none⟩ u).cell? y = w.cell? y := fun y hy => World.cell?_setCell_other _ _ _ _ (fun e => by rw [← e] at hy; exact Nat.lt_irrefl _ hy)
  exact ⟨(far ⟨g, i, none⟩ hx).trans k1, (far ⟨g, k, none⟩ hx).trans k2⟩
theorem ret_fr {a b c d : Int} (h : a = b) (h' : c = d) : Ending.returned (fracV a c) = .returned (fracV b d) := by rw [h, h']
/-- A struct in a cell is handed back. -/
theorem F2.result {w : World} {g : Nat} {a b : Int} (h : F2 w g a b) {fn : Func} {p : Tmp} {ts : Array Value} (hr : fn.results = #[.cell p 35]) (hp : ts.getD p undef = .pointer (some ⟨g, 0, none⟩)) : (Go.results fn ts).run Tryz.prog w = Result.ok (fracV a b) w := by
  have hp' : ts[p]?.getD undef = .pointer (some ⟨g, 0, none⟩) := by simpa using hp
  have ha : (asAddr (Value.pointer (some ⟨g, 0, none⟩))).run Tryz.prog w = .ok ⟨g, 0, none⟩ w := rfl
  simp only [Go.results, hr]
  simp [Sem.run_bind, Result.andThen, hp', ha, h.load]
theorem wholeFrac_any (n : Int) (w : World) : Calls Tryz.prog 44 #[.int .i64 n] w fun e w' => e = .returned (fracV n 1) ∧ Below w.heap.size w w' := by
  go_enter Tryz.func44, Tryz.ntmps44
  go_wp2
  go_returns
  exact ⟨rfl, by go_grown⟩
theorem frInt_any (n : Int) (w : World) : Calls Tryz.prog 48 #[.int .i64 n] w fun e w' => e = .returned (fracV n 1) ∧ Below w.heap.size w w' := by
  go_enter Tryz.func48, Tryz.ntmps48
  go_wp2
  go_returns
  exact ⟨rfl, by go_grown⟩
theorem compareWhole_any (n a b : Int) (w : World) (hn : Lim n) (h : frB a b = true) : Calls Tryz.prog 64 #[.int .i64 n, fracV a b] w fun e w' => e = .returned (.int .i64 (cmpI (n * b) a)) ∧ Below w.heap.size w w' := by
  obtain ⟨ha, hb⟩ := frB_lim h
  have hm := mul9 hn hb
  obtain ⟨m1, m2⟩ := hm
  go_enter Tryz.func64, Tryz.ntmps64
  go_wp2_with fail
  refine (cmpCompare_any _ _ _).mono ?_
  rintro e w' ⟨rfl, rfl⟩
  go_wp2
  go_ret
  exact ⟨rfl, by go_grown⟩
theorem lessFrac_any (a b c d : Int) (w : World) (h1 : frB a b = true) (h2 : frB c d = true) : Calls Tryz.prog 46 #[fracV a b, fracV c d] w fun e w' => e = .returned (fracV (mnN a b c d) (mnD a b c d)) ∧ Below w.heap.size w w' := by
  obtain ⟨⟨p1, p2⟩, q1, q2⟩ := okWide h1 h2
  clear h1 h2
  by_cases hc : a * d ≤ c * b
  · have e1 := Lib.hid (show mnN a b c d = a from if_pos hc)
    have e2 := Lib.hid (show mnD a b c d = b from if_pos hc)
    go_enter Tryz.func46, Tryz.ntmps46
    go_wp2
    go_returns
    exact ⟨ret_fr e1.out.symm e2.out.symm, by go_grown⟩
  · have e1 := Lib.hid (show mnN a b c d = c from if_neg hc)
    have e2 := Lib.hid (show mnD a b c d = d from if_neg hc)
    go_enter Tryz.func46, Tryz.ntmps46
    go_wp2
    go_returns
    exact ⟨ret_fr e1.out.symm e2.out.symm, by go_grown⟩
theorem part_small {n d : Int} (hn : -100000000 ≤ n ∧ n ≤ 100000000) (hd : 1 ≤ d ∧ d ≤ 1000) : (partB n && partB d) = true ∧ mkB n d = true := by
  refine ⟨?_, mk_small (by omega) (by omega)⟩
  unfold partB
  rw [(inB_iff _ _ _).2 (by omega), (inB_iff _ _ _).2 (by omega)]
  rfl
theorem fracOf_at (n d : Int) (w : World) (hn : -100000000 ≤ n ∧ n ≤ 100000000) (hd : 1 ≤ d ∧ d ≤ 1000) : Calls Tryz.prog 56 #[.int .i64 n, .int .i64 d] w fun x w' => x = .returned (.tuple #[fracV (mkN n d) (mkD n d), .bool true]) ∧ Below w.heap.size w w' := by
  obtain ⟨h1, h2⟩ := part_small hn hd
  refine (implFracOf_any n d w).mono fun x w' h => ?_
  unfold GivesOp GivesF okF at h
  rw [h1, h2] at h
  exact h
theorem frMake_at (n d : Int) (w : World) (hn : -100000000 ≤ n ∧ n ≤ 100000000) (hd : 1 ≤ d ∧ d ≤ 1000) : Calls Tryz.prog 59 #[.int .i64 n, .int .i64 d] w fun x w' => x = .returned (.tuple #[fracV (mkN n d) (mkD n d), .bool true]) ∧ Below w.heap.size w w' := by
  obtain ⟨h1, h2⟩ := part_small hn hd
  refine (frMake_any n d w (by unfold wide; omega) (by unfold wide; omega)).mono fun x w' h => ?_
  unfold GivesF at h
  rw [h2] at h
  exact h
set_option maxHeartbeats 1000000 in
set_option maxRecDepth 100000 in
theorem lineHeight_any (w : World) (B : Nat) (v : Value) (zs : List Int) (i j k : Nat) (h : IS w B v zs) (hl : zs.length ≤ 13) (hij : i ≤ j) (hjk : j ≤ k) (hik : i < k) (hk : k < zs.length) (hi : -1000000 ≤ gd zs i ∧ gd zs i ≤ 1000000) (hkb : -1000000 ≤ gd zs k ∧ gd zs k ≤ 1000000) :
    Calls Tryz.prog 65 #[v, .int .i64 (i : Int), .int .i64 (j : Int), .int .i64 (k : Int)] w fun e w' => e = .returned (fracV (mkN (lhN zs i j k) ((k : Int) - i)) (mkD (lhN zs i j k) ((k : Int) - i))) ∧ Below w.heap.size w w' := by
  obtain ⟨m1, m2, m3⟩ := lh_bd (zs := zs) (i := i) (j := j) (k := k) (by omega) (by omega) (by omega) (by omega) (by simpa [pv] using hi) (by simpa [pv] using hkb)
  obtain ⟨A, cap, rfl, -, hp⟩ := h.parts
  obtain ⟨g, rfl, ci⟩ := hp i (by omega)
  obtain ⟨g', hg', ck⟩ := hp k hk
  cases hg'
  have hgl := cell_lt ci
  obtain ⟨N, hN⟩ : ∃ N, N = lhN zs i j k := ⟨_, rfl⟩
  rw [← hN] at m3 ⊢
  unfold lhN at hN
  simp only [pv, Int.toNat_natCast] at hN m1 m2
  obtain ⟨X, hX⟩ : ∃ X, X = gd zs i * ((k : Int) - j) := ⟨_, rfl⟩
  obtain ⟨Y, hY⟩ : ∃ Y, Y = gd zs k * ((j : Int) - i) := ⟨_, rfl⟩
  rw [← hX] at m1 hN
  rw [← hY] at m2 hN
  have q1 : IntKind.i64.wrap ((k : Int) - j) = (k : Int) - j := IntWalk.i64_in _ (by omega)
  have q2 : IntKind.i64.wrap (gd zs i * ((k : Int) - j)) = X := by rw [← hX]; exact IntWalk.i64_in _ (by omega)
  have q3 : IntKind.i64.wrap ((j : Int) - i) = (j : Int) - i := IntWalk.i64_in _ (by omega)
  have q4 : IntKind.i64.wrap (gd zs k * ((j : Int) - i)) = Y := by rw [← hY]; exact IntWalk.i64_in _ (by omega)
  have q5 : IntKind.i64.wrap (X + Y) = N := by rw [hN]; exact IntWalk.i64_in _ (by omega)
  have q6 : IntKind.i64.wrap ((k : Int) - i) = (k : Int) - i := IntWalk.i64_in _ (by omega)
  have hd : 1 ≤ (k : Int) - i ∧ (k : Int) - i ≤ 1000 := by omega
  have z1 : (i : Int) < (zs.length : Int) := by omega
  have z2 : (k : Int) < (zs.length : Int) := by omega
  have z3 : (0 : Int) ≤ (i : Int) := by omega
  have z4 : (0 : Int) ≤ (k : Int) := by omega
  have hn : -100000000 ≤ N ∧ N ≤ 100000000 := by omega
  have hS : SP (w.alloc (.cells #[.int .i64 0, .int .i64 0] 35)) g i k (gd zs i) (gd zs k) := SP.alloc ⟨ci, ck⟩ _
  have H8 := F2.new w 0 0
  have HM := Lib.hid (And.intro hn hd)
  clear hX hY hN m1 m2 m3 hp h hl hi hkb hn hd
  go_enter Tryz.func65, Tryz.ntmps65
  go_upto_region 1 with fail
  go_cut [8, 9] (fun u p wx => u = .pointer (some ⟨w.heap.size, 0, none⟩) ∧ ∃ h, p = .pointer (some ⟨h, 0, none⟩) ∧ w.heap.size < h ∧ F2 wx w.heap.size 0 0 ∧ F2 wx h (mkN N ((k : Int) - i)) (mkD N ((k : Int) - i)) ∧ Below w.heap.size w wx)
  case first =>
    go_region_held3 (fun w' => w'.cell? ⟨g, i, none⟩ = some (.int .i64 (gd zs i)) ∧ w'.cell? ⟨g, k, none⟩ = some (.int .i64 (gd zs k))) (repeat' (first | with_reducible assumption | with_reducible refine SP.below ?_ (by assumption) | with_reducible refine SP.drew ?_ | with_reducible refine SP.setAt ?_ ?_ _ _ | with_reducible refine SP.setN ?_ _ (by first | omega | (simp; omega)) _ _ | with_reducible refine SP.alloc ?_ _)) (first | (go_at_call 56; refine (fracOf_at _ _ _ HM.out.1 HM.out.2).mono ?_; rintro e w1 ⟨rfl, b1⟩; have k1 := cellAt b1; have k2 := frozenAt b1))
    all_goals clear q1 q2 q3 q4 q5 q6
    all_goals go_wp2_with fail
    all_goals go_meet
    · have hs := b1.size
      simp at hs
      refine ⟨rfl, _, rfl, by omega, (F2.drew H8 |>.below b1).old _, F2.new _ _ _, ((bel2 (((Below.refl w.heap.size w).alloc (Nat.le_refl _) _).drew) b1)).alloc (by omega) _⟩
    · have hs := b1.size
      simp at hs
      have H9 := (F2.new_ (w := w.alloc (.cells #[.int .i64 0, .int .i64 0] 35)) (g := w.heap.size + 1) 0 0 (World.size_alloc _ _)).drew.below b1
      refine ⟨rfl, _, rfl, by omega, ?_, H9.store _ _, ?_⟩
      · exact (((H8.old _).drew.below b1).far (by omega)).far (by omega)
      · exact ((bel2 (((((Below.refl w.heap.size w).alloc (Nat.le_refl _) _).alloc (by simp) _).drew)) b1).setCell (by simp) _).setCell (by simp) _
  case rest =>
    obtain ⟨rfl, h, rfl, hh, ⟨c0, c1, f0, f1⟩, ⟨d0, d1, e0, e1⟩, b0⟩ := hcut
    go_wp2_with fail
    refine bodyPost_ret ((F2.store ⟨c0, c1, f0, f1⟩ _ _).result rfl rfl) rfl ?_
    exact ⟨rfl, (b0.setCell (Nat.le_refl _) _).setCell (Nat.le_refl _) _⟩
abbrev SQ (w' : World) (a : Nat) (v : Value) (g j : Nat) (x : Int) (B : Nat) (zs : List Int) : Prop := w'.cell? ⟨a, 0, none⟩ = some v ∧ w'.cell? ⟨g, j, none⟩ = some (.int .i64 x) ∧ IS w' B v zs
theorem SQ.drew {w : World} {a : Nat} {v : Value} {g j : Nat} {x : Int} {B : Nat} {zs : List Int} (h : SQ w a v g j x B zs) : SQ w.drew a v g j x B zs := h
theorem SQ.below {w w' : World} {a : Nat} {v : Value} {g j : Nat} {x : Int} {B : Nat} {zs : List Int} (h : SQ w a v g j x B zs) (hb : Below w.heap.size w w') : SQ w' a v g j x B zs := by
  obtain ⟨h1, h2, h3⟩ := h
  exact ⟨(cellAt hb a 0 (cell_lt h1)).trans h1, (cellAt hb g j (cell_lt h2)).trans h2, h3.below hb⟩
set_option maxHeartbeats 1000000 in
set_option maxRecDepth 100000 in
theorem cor1_any (W : World) (B : Nat) (v : Value) (zs : List Int) (a : Nat) (h : IS W B v zs) (ha : W.cell? ⟨a, 0, none⟩ = some v) (hl : zs.length ≤ 13) (i j k : Nat) (hij : i < j) (hjk : j < k) (hk : k < zs.length)
    (hi : -1000000 ≤ gd zs i ∧ gd zs i ≤ 1000000) (hj : -1000000 ≤ gd zs j ∧ gd zs j ≤ 1000000) (hkb : -1000000 ≤ gd zs k ∧ gd zs k ≤ 1000000) :
    Calls Tryz.prog 63 #[.int .i64 (i : Int), .int .i64 (j : Int), .int .i64 (k : Int), .pointer (some ⟨a, 0, none⟩)] W fun e w' => e = .returned (.bool (corB zs i j k)) ∧ Below W.heap.size W w' := by
  have hm := (lh_bd (zs := zs) (i := i) (j := j) (k := k) (by omega) (by omega) (by omega) (by omega) (by simpa [pv] using hi) (by simpa [pv] using hkb)).2.2
  have hB := mk_small (n := lhN zs i j k) (d := (k : Int) - i) (by omega) (by omega)
  have hC := cor_cmp (zs := zs) (i := (i : Int)) (j := (j : Int)) (k := (k : Int)) (by omega) hB
  have hF := (mk_parts hB).2.1
  have hL : ∀ (W' : World), IS W' B v zs → Calls Tryz.prog 65 #[v, .int .i64 (i : Int), .int .i64 (j : Int), .int .i64 (k : Int)] W' fun e w' => e = .returned (fracV (mkN (lhN zs i j k) ((k : Int) - i)) (mkD (lhN zs i j k) ((k : Int) - i))) ∧ Below W'.heap.size W' w' :=
    fun W' hI => lineHeight_any W' B v zs i j k hI hl (by omega) (by omega) (by omega) hk hi hkb
  obtain ⟨P, hP⟩ : ∃ P, P = mkN (lhN zs i j k) ((k : Int) - i) := ⟨_, rfl⟩
  obtain ⟨Q, hQ⟩ : ∃ Q, Q = mkD (lhN zs i j k) ((k : Int) - i) := ⟨_, rfl⟩
  rw [← hP, ← hQ] at hC hF hL
  simp only [pv, Int.toNat_natCast] at hC
  have HL := Lib.hid hL
  have HF := Lib.hid hF
  have HC := Lib.hid hC
  have HX := Lib.hid (show Lim (gd zs j) by unfold Lim; omega)
  obtain ⟨A, cap, rfl, -, hp⟩ := h.parts
  obtain ⟨g, rfl, cj⟩ := hp j (by omega)
  have hal := cell_lt ha
  have hgl := cell_lt cj
  have hS : SQ W a (.slice (some ⟨g, 0, none⟩) zs.length cap) g j (gd zs j) B zs := ⟨ha, cj, h⟩
  have z1 : (j : Int) < (zs.length : Int) := by omega
  have z2 : (0 : Int) ≤ (j : Int) := by omega
  clear hm hB hC hF hL hP hQ hp hi hj hkb hl h
  go_enter Tryz.func63, Tryz.ntmps63
  go_wp2
  go_region_held3 (fun w' => w'.cell? ⟨a, 0, none⟩ = some (.slice (some ⟨g, 0, none⟩) zs.length cap) ∧ w'.cell? ⟨g, j, none⟩ = some (.int .i64 (gd zs j)) ∧ IS w' B (.slice (some ⟨g, 0, none⟩) zs.length cap) zs) (repeat' (first | with_reducible assumption | with_reducible refine SQ.below ?_ (by assumption) | with_reducible refine SQ.drew ?_)) (first | (go_at_call 65; refine (HL.out _ (by first | exact hS.2.2 | (rename_i hX; exact hX.2.2))).mono ?_; rintro e w1 ⟨rfl, b1⟩; have k1 := cellAt b1) | (go_at_call 64; refine (compareWhole_any _ _ _ _ HX.out HF.out).mono ?_; rintro e w2 ⟨rfl, b2⟩; have k2 := cellAt b2))
  all_goals go_wp2_with fail
  all_goals go_ret
  all_goals exact ⟨ret_bool HC.out, bel2 (bel2 (by go_grown) b1) b2⟩
theorem ent_cor : Ent 63 := enters_of Tryz.func63 (by kernel_rfl) rfl
set_option maxHeartbeats 400000 in
theorem cornersOf_any (w : World) (B : Nat) (v : Value) (zs : List Int) (h : IS w B v zs) (hz : poB zs = true) : Calls Tryz.prog 26 #[v] w fun e w' => GivesI (corL zs) w e w' := by
  have hmf : ∀ (fn : Fn) (first cap : Array Value) (w : World), (Instr.makeFunc fn first cap).run Tryz.prog w = .ok (.func fn first cap) w := fun _ _ _ _ => rfl
  have hl := (po_parts hz).2.2.1
  have HZ := Lib.hid hz
  have h1 : IS (w.alloc (.cells #[v] 23)) B v zs := h.alloc _
  have h2 := box_new w v 23
  have b0 : Below w.heap.size w (w.alloc (.cells #[v] 23)) := (Below.refl _ _).alloc (Nat.le_refl _) _
  have H := Lib.hid (And.intro h1 h2)
  clear h1 hz
  obtain ⟨A, cap, rfl, -, -⟩ := h.parts
  clear h
  go_enter Tryz.func26, Tryz.ntmps26
  go_wp2_with fail
  refine (exponentsOf_any _ B _ zs H.out.1 hl).mono ?_
  rintro e w1 ⟨r, rfl, hr, b1⟩
  have hc : CorAt 63 #[.pointer (some ⟨w.heap.size, 0, none⟩)] zs w1 := fun W i j k hij hjk hk i1 i2 j1 j2 k1 k2 hb =>
    cor1_any W B _ zs w.heap.size ((H.out.1.below b1).below hb) (box_old (box_old H.out.2 b1) hb) hl i j k hij hjk hk ⟨i1, i2⟩ ⟨j1, j2⟩ ⟨k1, k2⟩
  go_wp2_with fail
  refine (keepCorners_any _ _ _ ent_cor _ _ zs _ rfl HZ.out hr hc).mono ?_
  rintro e w2 ⟨r2, rfl, hr2, b2⟩
  go_wp2
  go_ret
  have B1 := bel2 b0 b1
  exact ⟨_, rfl, hr2.base B1.size, bel2 B1 b2⟩
theorem implCornersOf_any (w : World) (B : Nat) (v : Value) (zs : List Int) (h : IS w B v zs) : Calls Tryz.prog 7 #[v] w fun e w' => GivesIB (poB zs) (coR zs) w e w' := by
  cases hz : poB zs
  · have HQ := Lib.hid hz
    go_enter Tryz.func7, Tryz.ntmps7
    go_wp2_with (go_at_call 25; refine (isPoly_any _ B _ zs h).mono ?_; rintro e w' ⟨rfl, rfl⟩)
    go_ret2
    exact givesIB_nil rfl (coR_no HQ.out) (Below.refl _ _)
  · have HQ := Lib.hid hz
    go_enter Tryz.func7, Tryz.ntmps7
    go_wp2_with fail
    refine (isPoly_any _ B _ zs h).mono ?_
    rintro e w' ⟨rfl, rfl⟩
    rw [HQ.out]
    go_wp2_with fail
    refine (cornersOf_any _ B _ zs h HQ.out).mono ?_
    rintro e w1 ⟨r, rfl, hr, b1⟩
    go_wp2
    go_ret2
    exact givesIB_yes rfl (by rw [coR_yes HQ.out]; exact hr) b1
theorem specCornersOf_any (w : World) (B : Nat) (v : Value) (zs : List Int) (h : IS w B v zs) : Calls Tryz.prog 8 #[v] w fun e w' => GivesIB (poB zs) (coR zs) w e w' := by
  cases hz : poB zs
  · have HQ := Lib.hid hz
    go_enter Tryz.func8, Tryz.ntmps8
    go_wp2_with fail
    refine (poGood_any _ B _ zs h).mono ?_
    rintro e w' ⟨rfl, rfl⟩
    rw [HQ.out]
    go_wp2
    go_ret2
    exact givesIB_nil rfl (coR_no HQ.out) (Below.refl _ _)
  · have HQ := Lib.hid hz
    go_enter Tryz.func8, Tryz.ntmps8
    go_wp2_with fail
    refine (poGood_any _ B _ zs h).mono ?_
    rintro e w' ⟨rfl, rfl⟩
    rw [HQ.out]
    go_wp2_with fail
    refine (rtCorners_any _ B _ zs h HQ.out).mono ?_
    rintro e w1 ⟨r, rfl, hr, b1⟩
    go_wp2
    go_ret2
    exact givesIB_yes rfl (by rw [coR_yes HQ.out]; exact hr) b1
end Go.Proofs.YtklcildhfcomnaaGreatDoor

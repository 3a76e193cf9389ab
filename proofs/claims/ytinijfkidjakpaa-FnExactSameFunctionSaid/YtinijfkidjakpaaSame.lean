/-
  Least coefficients in the program, and polynomials of the same function: what each call returns.
  Conditions: the slices read as the lists that are named.
-/
import Derived.Test.YtinijfkidjakpaaLeast
namespace Go.Proofs.Ytinijfkidjakpaa
set_option linter.unusedSimpArgs false
set_option linter.unusedVariables false
open Go.ChangeShapes Go.WideShapes Go.ChangeAt Go.RowKit

/-- The first k coefficients from the first corner on are laid. -/
def lcF (zs C : List Int) (c k j : Nat) : Int := if c ≤ j ∧ j < c + k then lowF zs C (j : Int) else gd zs j
def lcL (zs C : List Int) (c k : Nat) : List Int := tab (lcF zs C c k) zs.length
theorem lcL_len (zs C : List Int) (c k : Nat) : (lcL zs C c k).length = zs.length := tab_len _ _
theorem lcL_zero (zs C : List Int) (c : Nat) : lcL zs C c 0 = zs := by
  unfold lcL
  rw [show tab (lcF zs C c 0) zs.length = tab (gd zs) zs.length from tab_ext fun j _ => by unfold lcF; rw [if_neg (by omega)]]
  exact tab_self zs
theorem lcL_next {zs C : List Int} {c k : Nat} {x : Int} (hx : x = lowF zs C ((c + k : Nat) : Int)) : (lcL zs C c k).set (c + k) x = lcL zs C c (k + 1) := by
  unfold lcL
  rw [tab_set]
  refine tab_ext fun l hl => ?_
  unfold lcF
  by_cases e : l = c + k
  · subst e; rw [if_pos rfl, if_pos (by omega), hx]
  · rw [if_neg e]
    by_cases h1 : c ≤ l ∧ l < c + k
    · rw [if_pos h1, if_pos (by omega)]
    · rw [if_neg h1, if_neg (by omega)]
theorem lcL_end {zs : List Int} (h : Corn zs (corL zs)) {c : Nat} (hc : gd (corL zs) 0 = c) : lcL zs (corL zs) c (zs.length - c) = lowL zs := by
  unfold lcL lowL
  refine tab_ext fun j hj => ?_
  unfold lcF
  by_cases h1 : c ≤ j
  · rw [if_pos (by omega)]
  · rw [if_neg (by omega), low_before (by rw [hc]; omega)]
    have := h.first j (by omega) (by rw [hc]; omega)
    unfold pv at this
    rwa [Int.toNat_natCast] at this
abbrev SK (w' : World) (g e : Nat) (x : Int) (h : Nat) (a b : Int) : Prop := w'.cell? ⟨g, e, none⟩ = some (.int .i64 x) ∧ w'.cell? ⟨h, 0, none⟩ = some (.int .i64 a) ∧ w'.cell? ⟨h, 1, none⟩ = some (.int .i64 b)
theorem SK.drew {w : World} {g e : Nat} {x : Int} {h : Nat} {a b : Int} (H : SK w g e x h a b) : SK w.drew g e x h a b := H
theorem SK.drewN {w : World} {g e : Nat} {x : Int} {h : Nat} {a b : Int} (H : SK w g e x h a b) (n : Nat) : SK (w.drewN n) g e x h a b := H
theorem SK.below {w w' : World} {g e : Nat} {x : Int} {h : Nat} {a b : Int} (H : SK w g e x h a b) (hb : Below w.heap.size w w') : SK w' g e x h a b := by
  obtain ⟨h1, h2, h3⟩ := H
  exact ⟨(cellAt hb g e (cell_lt h1)).trans h1, (cellAt hb h 0 (cell_lt h2)).trans h2, (cellAt hb h 1 (cell_lt h3)).trans h3⟩
theorem SK.far {w : World} {g e : Nat} {x : Int} {h : Nat} {a b : Int} (H : SK w g e x h a b) (k : Nat) (h1 : g ≠ k) (h2 : h ≠ k) (i : Nat) (u : Value) : SK (w.setCell ⟨k, i, none⟩ u) g e x h a b := by
  obtain ⟨a1, a2, a3⟩ := H
  have f1 : ∀ j, (w.setCell ⟨k, i, none⟩ u).cell? ⟨g, j, none⟩ = w.cell? ⟨g, j, none⟩ := fun j => World.cell?_setCell_other _ _ _ _ (by simp [Ne.symm h1])
  have f2 : ∀ j, (w.setCell ⟨k, i, none⟩ u).cell? ⟨h, j, none⟩ = w.cell? ⟨h, j, none⟩ := fun j => World.cell?_setCell_other _ _ _ _ (by simp [Ne.symm h2])
  exact ⟨(f1 e).trans a1, (f2 0).trans a2, (f2 1).trans a3⟩
theorem row_below {T : TypeId} {k : Nat} {w w' : World} {B g n cap : Nat} {xs : List Value} (h : w.ownsRow B T k (.slice (some ⟨g, 0, none⟩) n cap) n xs) (hb : Below w.heap.size w w') : w'.ownsRow B T k (.slice (some ⟨g, 0, none⟩) n cap) n xs :=
  h.kept (grown_bel hb none) (.inr (by simp [Value.ownBlock]))
theorem row_alloc {T : TypeId} {k : Nat} {w : World} {B g n cap : Nat} {xs : List Value} (h : w.ownsRow B T k (.slice (some ⟨g, 0, none⟩) n cap) n xs) (o : Obj) : (w.alloc o).ownsRow B T k (.slice (some ⟨g, 0, none⟩) n cap) n xs := World.ownsRow.alloc h o
set_option maxHeartbeats 1000000 in
set_option maxRecDepth 100000 in
theorem implLeastCoefficients_any (w : World) (B : Nat) (v : Value) (zs : List Int) (h : IS w B v zs) : Calls Try.prog 34 #[v] w fun e w' => GivesIB (poB zs) (lwR zs) w e w' := by
  cases hz : poB zs
  · have HQ := Lib.hid hz
    go_enter Try.func34, Try.ntmps34
    go_wp2_with fail
    refine (implCornersOf_any _ B _ zs h).mono ?_
    rintro e w1 ⟨r, rfl, hr, b1⟩
    rw [HQ.out]
    go_wp2
    go_ret2
    exact givesIB_nil rfl (lwR_no HQ.out) b1
  · have hC := corL_ok hz
    have HZ := Lib.hid hz
    have H := Lib.hid h
    obtain ⟨hM1, hM2⟩ := hgM_le hz
    have hzl := hC.zl
    have hcp := hC.pos
    have p0 := hC.pt 0 hcp
    have HEND := Lib.hid (fun c : Nat => lcL_end (zs := zs) hC (c := c))
    obtain ⟨C, hCe⟩ : ∃ C, C = corL zs := ⟨_, rfl⟩
    rw [← hCe] at hC hM1 hM2 hcp p0 HEND
    have HCE := Lib.hid hCe
    have HC := Lib.hid hC
    obtain ⟨c0, hc0⟩ : ∃ c0 : Nat, gd C 0 = c0 := ⟨(gd C 0).toNat, by omega⟩
    rw [hc0] at hM2 p0
    have HC0 := Lib.hid hc0
    obtain ⟨M, hM⟩ : ∃ M, M = hgM zs C := ⟨_, rfl⟩
    rw [← hM] at hM1 hM2
    have HM := Lib.hid hM
    have HEN := Lib.hid (show lcL zs C c0 M = lwR zs by rw [lwR_yes HZ.out, ← HEND.out c0 hc0]; congr 1; omega)
    have HND := Lib.hid (show ∀ k : Nat, k < M → frB (hgN zs C ((c0 + k : Nat) : Int)) (hgD zs C ((c0 + k : Nat) : Int)) = true ∧ -floorI (-hgN zs C ((c0 + k : Nat) : Int)) (hgD zs C ((c0 + k : Nat) : Int)) = lowF zs C ((c0 + k : Nat) : Int) from fun k hk => by
      have h1 : gd C 0 ≤ ((c0 + k : Nat) : Int) := by rw [hc0]; omega
      have h2 : ((c0 + k : Nat) : Int) < zs.length := by omega
      exact ⟨(hC.hg h1 h2).2, hC.low_hg h1 h2⟩)
    obtain ⟨n, hn⟩ : ∃ n, n = zs.length := ⟨_, rfl⟩
    have HN := Lib.hid hn
    rw [← hn] at hM2 hzl p0
    obtain ⟨hM3, hM4⟩ : (M : Int) ≤ n - c0 ∧ (n : Int) - c0 ≤ M := ⟨by omega, by omega⟩
    clear hz hC hCe hc0 hM hM2 h hn
    go_enter Try.func34, Try.ntmps34
    go_wp2_with fail
    refine (implCornersOf_any _ B _ zs H.out).mono ?_
    rintro e w1 ⟨r, rfl, hr, b1⟩
    rw [HZ.out]
    rw [coR_yes HZ.out, ← HCE.out] at hr
    go_wp2_with fail
    refine (slicesClone_any _ _ _ zs (H.out.below b1) (by rw [← HN.out]; omega)).mono ?_
    rintro e w2 ⟨rl, rfl, hrl, b2⟩
    have hrC := hr.below b2
    go_wp2_with fail
    refine (heightsOf_any _ _ _ _ _ zs C ((H.out.below b1).below b2) hrC HC.out).mono ?_
    rintro e w3 ⟨r3, rfl, hr3, b3⟩
    rw [← HM.out] at hr3
    have hrC3 := hrC.below b3
    have hrl3 := hrl.below b3
    obtain ⟨A2, cap2, rfl, -, hp2⟩ := hrC3.parts
    obtain ⟨g2, rfl, d0⟩ := hp2 0 (by omega)
    rw [HC0.out] at d0
    obtain ⟨A3, cap3, rfl, -, hp3⟩ := FS.parts hr3
    obtain ⟨gl, capl, rfl⟩ : ∃ gl capl, rl = .slice (some ⟨gl, 0, none⟩) n capl := by
      rcases hrl3.2 with ⟨-, h0⟩ | ⟨g, cap', cur, e1, -⟩
      · have := HN.out; omega
      · exact ⟨g, cap', by rw [HN.out]; exact e1⟩
    have hrow0 : w3.ownsRow w1.heap.size 3 1 (.slice (some ⟨gl, 0, none⟩) n capl) n (ints (lcL zs C c0 0)) := by
      rw [lcL_zero]
      have := hrl3
      unfold IS at this
      rwa [← HN.out] at this
    have HP3 := Lib.hid hp3
    have HD0 := Lib.hid d0
    have HNE := Lib.hid (show g2 ≠ gl ∧ ∀ g3, A3 = some ⟨g3, 0, none⟩ → g3 ≠ gl from by
      have l1 := (hr.lt g2 rfl).2
      have l2 := hrl.lt gl rfl
      refine ⟨by omega, fun g3 hg3 => ?_⟩
      subst hg3
      have l3 := (FS.lt hr3 g3 rfl).1
      omega)
    have HGL := Lib.hid (hrl.lt gl rfl)
    have HB3 := Lib.hid (bel2 (bel2 b1 b2) b3)
    have s1 := b1.size
    have s3 := b3.size
    obtain ⟨L, hL⟩ : ∃ L, L = C.length := ⟨_, rfl⟩
    rw [← hL] at hcp ⊢
    clear hr hrC hrC3 hrl hrl3 hp2 hp3 hr3 b1 b2 b3 hL d0
    go_wp2
    go_loopw [22] (fun i wr => ∃ k : Nat, k ≤ M ∧ i = .int .i64 k ∧ wr.ownsRow w1.heap.size 3 1 (.slice (some ⟨gl, 0, none⟩) n capl) n (ints (lcL zs C c0 k)) ∧ w3.grownBy wr (some gl)) (fun i _ => M - (intOf i).toNat)
    case atStart => exact ⟨0, by omega, rfl, hrow0, World.grownBy.refl _ _⟩
    case round =>
      obtain ⟨k, hk, rfl, hrow, hg⟩ := hrel
      clear hrow0
      by_cases hlt : k < M
      · obtain ⟨hfr, hlw⟩ := HND.out k hlt
        have hll := lcL_next (zs := zs) (C := C) (c := c0) (k := k) hlw
        obtain ⟨e, he⟩ : ∃ e, e = c0 + k := ⟨_, rfl⟩
        rw [← he] at hfr hlw hll
        obtain ⟨g3, rfl, f0⟩ := HP3.out (k * 2) (by omega)
        obtain ⟨g4, hg4, f1⟩ := HP3.out (k * 2 + 1) (by omega)
        cases hg4
        obtain ⟨E0, E1⟩ := hgt_gd (zs := zs) (C := C) hlt
        rw [HC0.out, show (c0 : Int) + (k : Int) = ((e : Nat) : Int) by omega] at E0 E1
        rw [E0] at f0
        rw [E1] at f1
        have hne3 := HNE.out.2 g3 rfl
        have f0' := hg.cell f0 (some_ne hne3)
        have f1' := hg.cell f1 (some_ne hne3)
        have d0 := hg.cell HD0.out (some_ne HNE.out.1)
        obtain ⟨X, hX⟩ : ∃ X, X = hgN zs C (e : Int) := ⟨_, rfl⟩
        obtain ⟨Y, hY⟩ : ∃ X, X = hgD zs C (e : Int) := ⟨_, rfl⟩
        rw [← hX] at hfr hlw f0' hll
        rw [← hY] at hfr hlw f1' hll
        obtain ⟨F, hF⟩ : ∃ F, F = -floorI (-X) Y := ⟨_, rfl⟩
        rw [← hF] at hll
        have hXl := (frB_lim hfr).1
        have HCF : Hid (∀ W : World, Calls Try.prog 64 #[fracV X Y] W fun e w' => e = .returned (.tuple #[.int .i64 F, .bool true]) ∧ Below W.heap.size W w') := Lib.hid (fun W => by
          refine (implCeilFrac_any X Y W (by unfold Lim at hXl; omega) (by unfold Lim at hXl; omega)).mono fun e w' h => ?_
          unfold GivesC okF at h
          rw [hfr, ← hF] at h
          exact h)
        have HLL := Lib.hid hll
        have hel : e < n := by omega
        have hek : (c0 : Int) + (k : Int) = (e : Int) := by omega
        have q1 : IntKind.i64.wrap ((c0 : Int) + (k : Int)) = (e : Int) := by rw [hek]; exact IntWalk.i64_in _ (by omega)
        obtain ⟨W, hW⟩ : ∃ W, W = wr.alloc (.cells #[.int .i64 X, .int .i64 Y] 38) := ⟨_, rfl⟩
        have bW : Below wr.heap.size wr W := by rw [hW]; exact (Below.refl _ _).alloc (Nat.le_refl _) _
        have l2 : g2 < wr.heap.size := cell_lt d0
        have lg : gl < wr.heap.size := (World.ownsRow.lt hrow gl rfl).2
        have hS : SK W g2 0 c0 wr.heap.size X Y := by
          have hf : F2 W wr.heap.size X Y := by rw [hW]; exact F2.new _ _ _
          exact ⟨(bW.cell (cell_lt d0)).trans d0, hf.1, hf.2.1⟩
        have hrowW := row_below hrow bW
        have HROW := Lib.hid hrowW
        have c0W := World.ownsRow.cellAt hrowW e (by omega)
        rw [getD_ints _ e (by rw [lcL_len, ← HN.out]; exact hel)] at c0W
        have f0W := World.ownsRow.frozenAt hrowW e
        have lW : gl < W.heap.size := by have := bW.size; omega
        have ne1 := HNE.out.1
        have ne2 : wr.heap.size ≠ gl := by omega
        have HGW := Lib.hid (Lib.grownBy_trans hg (grown_bel bW (some gl)))
        have z1 : (e : Int) < (n : Int) := by omega
        have z2 : (0 : Int) ≤ (e : Int) := by omega
        have z3 : 0 < L := by omega
        have z4 : (0 : Int) < (L : Int) := by omega
        have HE := Lib.hid he
        have HW := Lib.hid hW
        clear f0 f1 E0 E1 hX hY hF hfr hlw hll he hek hW hrow hrowW hg
        go_upto_region 8 with fail
        rw [← HW.out]
        clear f0' f1' d0
        go_region_held3 (fun w' => w'.cell? ⟨g2, 0, none⟩ = some (.int .i64 (c0 : Int)) ∧ w'.cell? ⟨wr.heap.size, 0, none⟩ = some (.int .i64 X) ∧ w'.cell? ⟨wr.heap.size, 1, none⟩ = some (.int .i64 Y)) (repeat' (first | with_reducible assumption | with_reducible refine SK.below ?_ b1 | with_reducible refine SK.drew ?_ | with_reducible refine SK.drewN ?_ _ | with_reducible refine SK.far ?_ _ (by assumption) (by assumption) _ _)) (first | (go_at_call 64; refine (HCF.out _).mono ?_; rintro y x1 ⟨rfl, b1⟩; have k1 := cellAt b1; have k2 := frozenAt b1; have c0x := (k1 gl e lW).trans c0W; have f0x := (k2 gl e lW).trans f0W))
        all_goals
          have hrx := row_below HROW.out (bel2 (Below.refl W.heap.size W).drew b1)
          have hst := World.ownsRow.stored hrx e (.int .i64 F)
          have hgx := Lib.grownBy_trans (Lib.grownBy_trans HGW.out (grown_bel (bel2 (Below.refl W.heap.size W).drew b1) (some gl))) hst.2
          have h2 := hst.1
          rw [show (ints (lcL zs C c0 k)).set e (.int .i64 F) = ints (lcL zs C c0 (k + 1)) from by rw [← HLL.out]; unfold ints; rw [List.map_set]] at h2
          have HRX := Lib.hid (And.intro h2 hgx)
          clear hS c0W f0W q1 hrx hst hgx h2
          go_wp2
          go_roundw
          case rel => exact ⟨k + 1, by omega, by go_num, HRX.out.1, HRX.out.2⟩
          case measure => simp [intOf]; omega
      · obtain rfl : k = M := by omega
        rw [HEN.out] at hrow
        go_wp2
        go_ret2
        refine givesIB_yes rfl ?_ (bel_var HB3.out hg (Nat.le_trans s1 HGL.out.1) HB3.out.size)
        have hll : (lwR zs).length = n := by rw [lwR_yes HZ.out, HN.out]; simp [lowL, tab_len]
        refine IS.base (B := w1.heap.size) ?_ s1
        unfold IS
        rw [hll]
        exact hrow
def sfB (zs ys : List Int) : Bool := poB zs && poB ys
def sfR (zs ys : List Int) : Bool := sfB zs ys && sameB zs ys
theorem sf_no1 {zs ys : List Int} (h : poB zs = false) : sfB zs ys = false := by simp [sfB, h]
theorem sf_no2 {zs ys : List Int} (h : poB ys = false) : sfB zs ys = false := by simp [sfB, h]
theorem sf_yes {zs ys : List Int} (h : poB zs = true) (h' : poB ys = true) : sfB zs ys = true := by simp [sfB, h, h']
theorem sfR_no {zs ys : List Int} (h : sfB zs ys = false) : sfR zs ys = false := by simp [sfR, h]
theorem sfR_yes {zs ys : List Int} (h : sfB zs ys = true) : sfR zs ys = sameB zs ys := by simp [sfR, h]
theorem specSameFunction_any (w : World) (B B' : Nat) (v v' : Value) (zs ys : List Int) (h : IS w B v zs) (h' : IS w B' v' ys) : Calls Try.prog 35 #[v, v'] w fun e w' => SaysBB (sfR zs ys) (sfB zs ys) w e w' := by
  cases hz : poB zs
  · have HQ := Lib.hid (sf_no1 (ys := ys) hz)
    have HZ := Lib.hid hz
    go_enter Try.func35, Try.ntmps35
    go_wp2_with fail
    refine (poGood_any _ B _ zs h).mono ?_
    rintro e w' ⟨rfl, rfl⟩
    rw [HZ.out]
    go_wp2
    go_ret2
    exact ⟨ret_bb (sfR_no HQ.out).symm HQ.out.symm, Below.refl _ _⟩
  · cases hy : poB ys
    · have HQ := Lib.hid (sf_no2 (zs := zs) hy)
      have HZ := Lib.hid hz
      have HY := Lib.hid hy
      go_enter Try.func35, Try.ntmps35
      go_wp2_with fail
      refine (poGood_any _ B _ zs h).mono ?_
      rintro e w' ⟨rfl, rfl⟩
      rw [HZ.out]
      go_wp2_with fail
      refine (poGood_any _ B' _ ys h').mono ?_
      rintro e w' ⟨rfl, rfl⟩
      rw [HY.out]
      go_wp2
      go_ret2
      exact ⟨ret_bb (sfR_no HQ.out).symm HQ.out.symm, Below.refl _ _⟩
    · have HQ := Lib.hid (sf_yes hz hy)
      have HZ := Lib.hid hz
      have HY := Lib.hid hy
      go_enter Try.func35, Try.ntmps35
      go_wp2_with fail
      refine (poGood_any _ B _ zs h).mono ?_
      rintro e w' ⟨rfl, rfl⟩
      rw [HZ.out]
      go_wp2_with fail
      refine (poGood_any _ B' _ ys h').mono ?_
      rintro e w' ⟨rfl, rfl⟩
      rw [HY.out]
      go_wp2_with fail
      refine (rtLeast_any _ B _ zs h HZ.out).mono ?_
      rintro e w1 ⟨r1, rfl, hr1, b1⟩
      go_wp2_with fail
      refine (rtLeast_any _ B' _ ys (h'.below b1) HY.out).mono ?_
      rintro e w2 ⟨r2, rfl, hr2, b2⟩
      go_wp2_with fail
      refine (l1Same_any _ _ _ _ _ _ _ (hr1.below b2) hr2).mono ?_
      rintro e w' ⟨rfl, nn, rfl⟩
      rw [same_iff HZ.out HY.out]
      go_wp2
      go_ret2
      exact ⟨ret_bb (sfR_yes HQ.out).symm HQ.out.symm, belN (bel2 b1 b2) nn⟩
end Go.Proofs.Ytinijfkidjakpaa

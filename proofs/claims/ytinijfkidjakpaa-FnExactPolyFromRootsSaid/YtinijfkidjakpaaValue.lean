/-
  Values at fractions and by roots, in the program and in the model: what each call returns.
  Conditions: the slice reads as the list that is named, a polynomial where it says so.
-/
import Derived.Test.YtinijfkidjakpaaRootsB
import Derived.RangeFuncBox
namespace Go.Proofs.Ytinijfkidjakpaa
set_option linter.unusedSimpArgs false
set_option linter.unusedVariables false
open Go.ChangeShapes Go.WideShapes Go.ChangeAt Go.RowKit

theorem grown_set (w : World) (g i : Nat) (u : Value) : w.grownBy (w.setCell ⟨g, i, none⟩ u) (some g) :=
  ⟨rfl, rfl, rfl, by simp, fun k _ hk => Below.heap_setCell _ _ _ k (fun e => hk (by rw [e]))⟩
theorem grown_bel {w w' : World} (h : Below w.heap.size w w') (row : Option Nat) : w.grownBy w' row := ⟨h.os, h.tape, h.output, h.size, fun k hk _ => h.block k hk⟩
theorem F2.grown {w w' : World} {g : Nat} {a b : Int} {row : Option Nat} (h : F2 w g a b) (hg : w.grownBy w' row) (hn : some g ≠ row) : F2 w' g a b := by
  have hl := cell_lt h.1
  have hk : w'.heap[g]? = w.heap[g]? := hg.block g hl hn
  obtain ⟨h1, h2, h3, h4⟩ := h
  exact ⟨hg.cell h1 hn, hg.cell h2 hn, (World.frozen?_of_block (a := ⟨g, 0, none⟩) hk).trans h3, (World.frozen?_of_block (a := ⟨g, 1, none⟩) hk).trans h4⟩
theorem some_ne {a b : Nat} (h : a ≠ b) : some a ≠ some b := fun e => h (Option.some.inj e)
/-- A fraction's variable is written; nothing else. -/
theorem grown_two {w0 w : World} {g : Nat} (h : w0.grownBy w (some g)) (u v : Value) : w0.grownBy ((w.setCell ⟨g, 0, none⟩ u).setCell ⟨g, 1, none⟩ v) (some g) := Lib.grownBy_trans (Lib.grownBy_trans h (grown_set _ _ _ _)) (grown_set _ _ _ _)
theorem bel_var {B : Nat} {w0 w w' : World} {g : Nat} (h : Below B w0 w) (hg : w.grownBy w' (some g)) (h1 : B ≤ g) (h2 : B ≤ w.heap.size) : Below B w0 w' := h.grown hg h2 fun k hk => by cases hk; exact h1
set_option maxHeartbeats 1000000 in
set_option maxRecDepth 100000 in
theorem addTimes_any (s t k a b : Int) (w : World) (hs : frB s t = true) (hk : Lim k) (hf : frB a b = true) : Calls Try.prog 54 #[fracV s t, .int .i64 k, fracV a b] w fun e w' => GivesF (adN s t k a b) (adD s t k a b) (adB s t k a b) w e w' := by
  have hk1 := frB_one hk
  have hM : ∀ W, Calls Try.prog 80 #[fracV k 1, fracV a b] W fun e w' => GivesF (mkN (k * a) (1 * b)) (mkD (k * a) (1 * b)) (mkB (k * a) (1 * b)) W e w' := fun W => by
    refine (implMultiplyFracs_any k 1 a b W).mono fun e w' h => ?_
    unfold GivesOp okF twoB at h
    rw [hk1, hf] at h
    exact h
  obtain ⟨W, hW⟩ : ∃ W, W = ((w.alloc (.cells #[.int .i64 s, .int .i64 t] 38)).alloc (.cells #[.int .i64 a, .int .i64 b] 38)).alloc (.cells #[.int .i64 0, .int .i64 0] 38) := ⟨_, rfl⟩
  obtain ⟨h3, h5, h6⟩ := box3 w s t a b
  rw [← hW] at h3 h5 h6
  have hb : Below w.heap.size w W := by rw [hW]; go_grown
  have HW := Lib.hid hW
  have HM := Lib.hid hM
  have hS : SP W (w.heap.size + 1) 0 1 a b := ⟨h5.1, h5.2.1⟩
  have hg5 := cell_lt h5.1
  clear hW hM h5
  have hA1 : ∀ (X Y : Int) (W : World), mkB (k * a) (1 * b) = true → X = mkN (k * a) (1 * b) → Y = mkD (k * a) (1 * b) → Calls Try.prog 81 #[fracV s t, fracV X Y] W fun e w' => GivesF (adN s t k a b) (adD s t k a b) (adB s t k a b) W e w' := fun X Y W hm hX hY => by
    have hv := (mk_parts hm).2.1
    refine (implAddFracs_any s t X Y W).mono fun e w' h => ?_
    unfold GivesOp okF twoB at h
    subst hX hY
    rw [hs, hv] at h
    unfold adN adD adB okF
    rw [hm]
    exact h
  have HA1 := Lib.hid hA1
  have HA0 := Lib.hid (fun hm : mkB (k * a) (1 * b) = false => And.intro (show adB s t k a b = false by unfold adB; rw [hm]; rfl) (ad_no (show adB s t k a b = false by unfold adB; rw [hm]; rfl)))
  obtain ⟨X, hX⟩ : ∃ X, X = mkN (k * a) (1 * b) := ⟨_, rfl⟩
  obtain ⟨Y, hY⟩ : ∃ Y, Y = mkD (k * a) (1 * b) := ⟨_, rfl⟩
  obtain ⟨m, hm⟩ : ∃ m, m = mkB (k * a) (1 * b) := ⟨_, rfl⟩
  rw [← hX, ← hY, ← hm] at HM
  have HX := Lib.hid hX
  have HY := Lib.hid hY
  have HV := Lib.hid hm
  have H3 := Lib.hid h3
  have H6 := Lib.hid h6
  clear hA1 hX hY hm h3 h6
  go_enter Try.func54, Try.ntmps54
  go_upto_region 1 with fail
  rw [← HW.out]
  go_cut [8, 9] (fun p q wx => ∃ g, p = .pointer (some ⟨g, 0, none⟩) ∧ q = .bool m ∧ F2 wx g X Y ∧ Below W.heap.size W wx)
  case first =>
    go_region_held3 (fun w' => w'.cell? ⟨w.heap.size + 1, 0, none⟩ = some (.int .i64 a) ∧ w'.cell? ⟨w.heap.size + 1, 1, none⟩ = some (.int .i64 b)) (repeat' (first | with_reducible assumption | with_reducible refine SP.below ?_ b2 | with_reducible refine SP.below ?_ b1 | with_reducible refine SP.drew ?_ | with_reducible refine SP.drewN ?_ _ | with_reducible refine SP.setAt ?_ ?_ _ _ | with_reducible refine SP.setN ?_ _ (by first | omega | (simp; omega)) _ _ | with_reducible refine SP.alloc ?_ _)) (first | (go_at_call 55; refine (wholeFrac_any _ _).mono ?_; rintro e w1 ⟨rfl, b1⟩; have k1 := cellAt b1; have k2 := frozenAt b1; first | have z1 : W.heap.size < w1.heap.size := (by have := b1.size; simp at this; omega) | skip) | (go_at_call 80; refine (HM.out _).mono ?_; rintro e w2 ⟨rfl, b2⟩; have k3 := cellAt b2; have k4 := frozenAt b2))
    all_goals go_wp2_with fail
    all_goals go_meet
    all_goals
      have hs1 : W.heap.size ≤ w1.heap.size := by have := b1.size; simp at this; omega
      have hs2 : W.heap.size ≤ w2.heap.size := by have := b2.size; (try simp at this); omega
      first
      | exact ⟨_, rfl, rfl, (((F2.new W 0 0).drew.below b1).below b2).store _ _, ((bel2 (bel2 (((Below.refl W.heap.size W).alloc (Nat.le_refl _) _).drew) b1) b2).setCell (Nat.le_refl _) _).setCell (Nat.le_refl _) _⟩
      | exact ⟨_, rfl, rfl, ((F2.new w1 0 0).below b2).store _ _, ((bel2 ((bel2 (Below.refl W.heap.size W).drew b1).alloc hs1 _) b2).setCell hs1 _).setCell hs1 _⟩
      | exact ⟨_, rfl, rfl, F2.new _ _ _, (bel2 (bel2 (Below.refl W.heap.size W).drew b1) b2).alloc hs2 _⟩
  case rest =>
    obtain ⟨g, rfl, rfl, ⟨d0, d1, -, -⟩, b0⟩ := hcut
    have B0 := bel2 hb b0
    have hw6 : w.heap.size ≤ w.heap.size + 2 := by omega
    obtain ⟨c0, c1, f0, f1⟩ := H6.out.below b0
    cases m
    · go_wp2_with fail
      refine bodyPost_ret ((F2.store ⟨c0, c1, f0, f1⟩ _ _).results rfl rfl rfl) rfl ?_
      obtain ⟨e0, e1, e2⟩ := HA0.out HV.out.symm
      rw [e0, e1, e2]
      exact ⟨rfl, (B0.setCell hw6 _).setCell hw6 _⟩
    · obtain ⟨a0, a1, -, -⟩ := H3.out.below b0
      go_wp2_with fail
      refine (HA1.out X Y _ HV.out.symm HX.out HY.out).mono ?_
      rintro e w2 ⟨rfl, b2⟩
      obtain ⟨c0, c1, f0, f1⟩ := (H6.out.below b0).below b2
      go_wp2_with fail
      refine bodyPost_ret ((F2.store ⟨c0, c1, f0, f1⟩ _ _).results rfl rfl rfl) rfl ?_
      exact ⟨rfl, ((bel2 B0 b2).setCell hw6 _).setCell hw6 _⟩
/-- A cell of a slice, and a fraction's box. -/
abbrev ST (w' : World) (g e : Nat) (x : Int) (h : Nat) (a b : Int) : Prop := w'.cell? ⟨g, e, none⟩ = some (.int .i64 x) ∧ w'.cell? ⟨h, 0, none⟩ = some (.int .i64 a) ∧ w'.cell? ⟨h, 1, none⟩ = some (.int .i64 b)
section
variable {w w' : World} {g e : Nat} {x : Int} {h : Nat} {a b : Int}
theorem ST.drew (H : ST w g e x h a b) : ST w.drew g e x h a b := H
theorem ST.drewN (H : ST w g e x h a b) (n : Nat) : ST (w.drewN n) g e x h a b := H
theorem ST.below (H : ST w g e x h a b) (hb : Below w.heap.size w w') : ST w' g e x h a b := by
  obtain ⟨h1, h2, h3⟩ := H
  exact ⟨(cellAt hb g e (cell_lt h1)).trans h1, (cellAt hb h 0 (cell_lt h2)).trans h2, (cellAt hb h 1 (cell_lt h3)).trans h3⟩
theorem ST.alloc (H : ST w g e x h a b) (o : Obj) : ST (w.alloc o) g e x h a b := H.below ((Below.refl _ _).alloc (Nat.le_refl _) o)
theorem ST.setN (H : ST w g e x h a b) (k : Nat) (hg : g < k) (hh : h < k) (i : Nat) (u : Value) : ST (w.setCell ⟨k, i, none⟩ u) g e x h a b := by
  obtain ⟨k1, k2, k3⟩ := H
  have far : ∀ (y : Addr), y.block < k → (w.setCell ⟨k, i, none⟩ u).cell? y = w.cell? y := fun y hy => World.cell?_setCell_other _ _ _ _ (fun e => by rw [← e] at hy; exact Nat.lt_irrefl _ hy)
  exact ⟨(far ⟨g, e, none⟩ hg).trans k1, (far ⟨h, 0, none⟩ hh).trans k2, (far ⟨h, 1, none⟩ hh).trans k3⟩
theorem ST.setAt {w1 : World} (H : ST w g e x h a b) (H1 : ST w1 g e x h a b) (i : Nat) (u : Value) : ST (w.setCell ⟨w1.heap.size, i, none⟩ u) g e x h a b :=
  H.setN _ (cell_lt H1.1) (cell_lt H1.2.1) i u
end
/-- Where the least value so far stands: nowhere yet, or a fraction. -/
def St0 (k : Nat) (s t : Int) : Prop := (k = 0 ∧ s = 0 ∧ t = 0) ∨ (0 < k ∧ frB s t = true)
theorem mn_same (u v : Int) : mnN u v u v = u ∧ mnD u v u v = v := by unfold mnN mnD; constructor <;> split <;> rfl
theorem frB_den {s t : Int} (h : frB s t = true) : t ≠ 0 := by have := (frB_pos h).1; omega
/-- What a call gives, when it is known what. -/
theorem givesF_eq {V : Bool × Int × Int} {m : Bool} {s t : Int} {w w' : World} (hV : V = (m, s, t)) (hb : Below w.heap.size w w') : GivesF V.2.1 V.2.2 V.1 w (.returned (.tuple #[fracV s t, .bool m])) w' := by subst hV; exact ⟨rfl, hb⟩
set_option maxHeartbeats 1000000 in
set_option maxRecDepth 100000 in
theorem implValueAtFrac_any (w : World) (B : Nat) (v : Value) (zs : List Int) (a b : Int) (h : IS w B v zs) : Calls Try.prog 27 #[v, fracV a b] w fun e w' => GivesF (vaR zs a b).2.1 (vaR zs a b).2.2 (vaR zs a b).1 w e w' := by
  have hI : IS ((w.alloc (.cells #[.int .i64 a, .int .i64 b] 38)).alloc (.cells #[.int .i64 0, .int .i64 0] 38)) B v zs := (h.alloc _).alloc _
  have h34 := box2 w a b 0 0
  have b00 : Below w.heap.size w ((w.alloc (.cells #[.int .i64 a, .int .i64 b] 38)).alloc (.cells #[.int .i64 0, .int .i64 0] 38)) := by go_grown
  have H := Lib.hid (And.intro hI h34)
  have HP := Lib.hid h.parts
  have HL := Lib.hid (show ∀ g, v.ownBlock = some g → g < w.heap.size from fun g hg => (h.lt g hg).2)
  clear hI h34 h
  obtain ⟨A, cap, hv, -, hp⟩ := HP.out
  subst hv
  have HP := Lib.hid hp
  clear hp
  cases hz : poB zs
  · have HQ := Lib.hid (vaR_no (tm_no1 (a := a) (b := b) hz))
    have HZ := Lib.hid hz
    go_enter Try.func27, Try.ntmps27
    go_wp2_with fail
    refine (isPoly_any _ B _ zs H.out.1).mono ?_
    rintro e w' ⟨rfl, rfl⟩
    rw [HZ.out]
    go_wp2
    go_returns
    exact givesF_eq HQ.out b00
  · cases hf : frB a b
    · have HQ := Lib.hid (vaR_no (tm_no2 (zs := zs) hf))
      have HZ := Lib.hid hz
      have HF := Lib.hid hf
      go_enter Try.func27, Try.ntmps27
      go_wp2_with fail
      refine (isPoly_any _ B _ zs H.out.1).mono ?_
      rintro e w' ⟨rfl, rfl⟩
      rw [HZ.out]
      go_wp2_with fail
      refine (isFrac_any _ _ _).mono ?_
      rintro e w1 ⟨rfl, b1⟩
      rw [HF.out]
      obtain ⟨c0, c1, f0, f1⟩ := H.out.2.2.below b1
      go_wp2_with fail
      refine bodyPost_ret ((F2.store ⟨c0, c1, f0, f1⟩ _ _).results rfl rfl rfl) rfl ?_
      exact givesF_eq HQ.out (((bel2 b00 b1).setCell (by simp) _).setCell (by simp) _)
    · have HQ := Lib.hid (vaR_yes (tm_yes hz hf))
      have HZ := Lib.hid hz
      have HF := Lib.hid hf
      have hl := (po_parts hz).2.2.1
      clear hz hf
      go_enter Try.func27, Try.ntmps27
      go_wp2_with fail
      refine (isPoly_any _ B _ zs H.out.1).mono ?_
      rintro e w' ⟨rfl, rfl⟩
      rw [HZ.out]
      go_wp2_with fail
      refine (isFrac_any _ _ _).mono ?_
      rintro e w1 ⟨rfl, b1⟩
      rw [HF.out]
      go_wp2_with fail
      refine (exponentsOf_any _ B _ zs ((H.out.1.below b1).alloc _) hl).mono ?_
      rintro e w2 ⟨r, rfl, hr, b2⟩
      have s1 : w.heap.size + 1 < w1.heap.size := by have := b1.size; simp at this; omega
      have s2 : w1.heap.size < w2.heap.size := by have := b2.size; simp at this; omega
      have B1 := bel2 b00 b1
      have B2 : Below w.heap.size w w2 := bel2 (B1.alloc B1.size _) b2
      have h3 : F2 w2 w.heap.size a b := ((H.out.2.1.below b1).old _).below b2
      have h4 : F2 w2 (w.heap.size + 1) 0 0 := ((H.out.2.2.below b1).old _).below b2
      have h6 : F2 w2 w1.heap.size 0 0 := (F2.new w1 0 0).below b2
      obtain ⟨ps, hps⟩ : ∃ ps, ps = pts zs zs.length := ⟨_, rfl⟩
      rw [← hps] at hr
      have HS := Lib.hid hps
      have HV := Lib.hid (show vaR zs a b = vfF zs a b ps 0 0 by rw [HQ.out, hps])
      have hlp := hr.lt
      have hpl : ps.length ≤ 13 := by rw [hps]; exact Nat.le_trans (pts_len _ _) hl
      obtain ⟨A2, cap2, rfl, -, hp2⟩ := hr.parts
      have HP2 := Lib.hid hp2
      have HLP := Lib.hid (show ∀ g, A2 = some ⟨g, 0, none⟩ → w1.heap.size < g from fun g hg => by subst hg; have := (hlp g rfl).1; simp at this; omega)
      have HH := Lib.hid (And.intro h3 (And.intro h4 h6))
      have HB2 := Lib.hid B2
      clear hps hp2 hr h3 h4 b1 b2 B1 hlp
      obtain ⟨n, hn⟩ : ∃ n, n = ps.length := ⟨_, rfl⟩
      rw [← hn] at hpl ⊢
      have HN := Lib.hid hn
      clear hn
      go_wp2
      go_loopw [23] (fun i wr => ∃ (k : Nat) (s t : Int), k ≤ n ∧ i = .int .i64 k ∧ F2 wr w1.heap.size s t ∧ St0 k s t ∧ Hid (vfF zs a b (ps.drop k) s t = vaR zs a b) ∧ w2.grownBy wr (some w1.heap.size)) (fun i _ => n - (intOf i).toNat)
      case atStart => exact ⟨0, 0, 0, by omega, rfl, HH.out.2.2, .inl ⟨rfl, rfl, rfl⟩, Lib.hid (by rw [HV.out]; rfl), World.grownBy.refl _ _⟩
      case round =>
        obtain ⟨k, s, t, hk, rfl, h6r, hst, hvf, hg⟩ := hrel
        clear h6
        have h3 : F2 wr w.heap.size a b := HH.out.1.grown hg (some_ne (by omega))
        have h4 : F2 wr (w.heap.size + 1) 0 0 := HH.out.2.1.grown hg (some_ne (by omega))
        have s3 : w2.heap.size ≤ wr.heap.size := hg.size
        by_cases hlt : k < n
        · obtain ⟨e, he, hel, he1, he2⟩ := pts_at HZ.out (n := k) (by rw [← HS.out, ← HN.out]; exact hlt)
          rw [← HS.out] at he
          obtain ⟨gp, rfl, cp0⟩ := HP2.out k (by rw [← HN.out]; exact hlt)
          have hgp := HLP.out gp rfl
          have cp := hg.cell cp0 (some_ne (by show gp ≠ w1.heap.size; omega))
          rw [he] at cp
          obtain ⟨g, rfl, ce0⟩ := HP.out e hel
          have hgw := HL.out g rfl
          have ce := hg.cell ((HB2.out.cell hgw).trans ce0) (some_ne (by show g ≠ w1.heap.size; omega))
          clear cp0 ce0
          obtain ⟨x, hx⟩ : ∃ x, x = gd zs e := ⟨_, rfl⟩
          have hpv : pv zs (gd ps k) = x := by rw [he, hx]; simp [pv]
          rw [← hx] at ce he1 he2
          obtain ⟨hst0, hf0⟩ : (adB x 1 (e : Int) a b = true → frB (adN x 1 e a b) (adD x 1 e a b) = true) ∧ (adB x 1 (e : Int) a b = false → vaR zs a b = (false, 0, 0)) :=
            ⟨fun hm => (ad_parts hm).2.2.2, fun hm => by rw [← hvf.out]; exact vf_bad (by rw [← HN.out]; exact hlt) (by rw [hpv, he]; exact hm)⟩
          have hn1 : k = 0 → adB x 1 (e : Int) a b = true → vfF zs a b (ps.drop (k + 1)) (adN x 1 e a b) (adD x 1 e a b) = vaR zs a b := fun hk0 hm => by
            rcases hst with ⟨-, -, ht⟩ | ⟨h0, -⟩
            · rw [← hvf.out, ht, vf_first (by rw [← HN.out]; exact hlt) (by rw [hpv, he]; exact hm), hpv, he]
            · omega
          have hn2 : 0 < k → adB x 1 (e : Int) a b = true → frB s t = true ∧ vfF zs a b (ps.drop (k + 1)) (mnN s t (adN x 1 e a b) (adD x 1 e a b)) (mnD s t (adN x 1 e a b) (adD x 1 e a b)) = vaR zs a b := fun hk0 hm => by
            rcases hst with ⟨h0, -, -⟩ | ⟨-, hv⟩
            · omega
            · exact ⟨hv, by rw [← hvf.out, vf_more (by rw [← HN.out]; exact hlt) (frB_den hv) (by rw [hpv, he]; exact hm), hpv, he]⟩
          have hAT : ∀ W, Calls Try.prog 54 #[fracV x 1, .int .i64 (e : Int), fracV a b] W fun y w' => GivesF (adN x 1 e a b) (adD x 1 e a b) (adB x 1 e a b) W y w' :=
            fun W => addTimes_any x 1 e a b W (frB_one (by omega)) (by unfold Lim; omega) HF.out
          obtain ⟨N, hN⟩ : ∃ N, N = adN x 1 (e : Int) a b := ⟨_, rfl⟩
          obtain ⟨D, hD⟩ : ∃ D, D = adD x 1 (e : Int) a b := ⟨_, rfl⟩
          obtain ⟨m, hm⟩ : ∃ m, m = adB x 1 (e : Int) a b := ⟨_, rfl⟩
          rw [← hN, ← hD, ← hm] at hAT hn1 hn2 hst0
          rw [← hm] at hf0
          have HAT := Lib.hid hAT
          have HX := Lib.hid (And.intro hst0 (And.intro hf0 (And.intro hn1 hn2)))
          have hS : ST wr g e x w.heap.size a b := ⟨ce, h3.1, h3.2.1⟩
          have z1 : (e : Int) < (zs.length : Int) := by omega
          have z2 : (0 : Int) ≤ (e : Int) := by omega
          have HG := Lib.hid hg
          have H4 := Lib.hid h4
          have H6 := Lib.hid h6r
          clear hAT hn1 hn2 hst0 hf0 hN hD hm hx hpv he hst hvf h3 ce hg h4 h6r
          go_upto_region 7 with fail
          go_cut [9, 10] (fun p q wx => ∃ h, p = .pointer (some ⟨h, 0, none⟩) ∧ wr.heap.size ≤ h ∧ q = .bool m ∧ F2 wx h N D ∧ Below wr.heap.size wr wx)
          case first =>
            go_region_held3 (fun w' => w'.cell? ⟨g, e, none⟩ = some (.int .i64 x) ∧ w'.cell? ⟨w.heap.size, 0, none⟩ = some (.int .i64 a) ∧ w'.cell? ⟨w.heap.size, 1, none⟩ = some (.int .i64 b)) (repeat' (first | with_reducible assumption | with_reducible refine ST.below ?_ b2 | with_reducible refine ST.below ?_ b1 | with_reducible refine ST.drew ?_ | with_reducible refine ST.drewN ?_ _ | with_reducible refine ST.setAt ?_ ?_ _ _ | with_reducible refine ST.setN ?_ _ (by first | omega | (simp; omega)) (by first | omega | (simp; omega)) _ _ | with_reducible refine ST.alloc ?_ _)) (first | (go_at_call 55; refine (wholeFrac_any _ _).mono ?_; rintro y x1 ⟨rfl, b1⟩; have k1 := cellAt b1; have k2 := frozenAt b1; first | have z1 : wr.heap.size < x1.heap.size := (by have := b1.size; simp at this; omega) | skip) | (go_at_call 54; refine (HAT.out _).mono ?_; rintro y x2 ⟨rfl, b2⟩; have k3 := cellAt b2; have k4 := frozenAt b2))
            all_goals go_wp2_with fail
            all_goals go_meet
            all_goals
              have hs1 : wr.heap.size ≤ x1.heap.size := by have := b1.size; simp at this; omega
              have hs2 : wr.heap.size ≤ x2.heap.size := by have := b2.size; (try simp at this); omega
              first
              | exact ⟨_, rfl, Nat.le_refl _, rfl, (((F2.new wr 0 0).drew.below b1).below b2).store _ _, ((bel2 (bel2 (((Below.refl wr.heap.size wr).alloc (Nat.le_refl _) _).drew) b1) b2).setCell (Nat.le_refl _) _).setCell (Nat.le_refl _) _⟩
              | exact ⟨_, rfl, hs1, rfl, ((F2.new x1 0 0).below b2).store _ _, ((bel2 ((bel2 (Below.refl wr.heap.size wr).drew b1).alloc hs1 _) b2).setCell hs1 _).setCell hs1 _⟩
              | exact ⟨_, rfl, hs2, rfl, F2.new _ _ _, (bel2 (bel2 (Below.refl wr.heap.size wr).drew b1) b2).alloc hs2 _⟩
          case rest =>
            obtain ⟨h, rfl, hh, rfl, H9, b0⟩ := hcut
            have hg := Lib.grownBy_trans HG.out (grown_bel b0 (some w1.heap.size))
            have h4 := H4.out.below b0
            have h6 := H6.out.below b0
            have hne : ¬ h = w1.heap.size := by omega
            have HGG := Lib.hid hg
            clear hS cp
            cases m
            · have HV0 := Lib.hid (HX.out.2.1 rfl)
              obtain ⟨c0, c1, f0, f1⟩ := h4
              clear h6 H9 hg
              go_wp2_with fail
              refine bodyPost_ret ((F2.store ⟨c0, c1, f0, f1⟩ _ _).results rfl rfl rfl) rfl ?_
              exact givesF_eq HV0.out (((bel_var HB2.out HGG.out (by omega) (by omega)).setCell (by simp) _).setCell (by simp) _)
            · have hv := HX.out.1 rfl
              have HV := Lib.hid hv
              by_cases hk0 : k = 0
              · have HN1 := Lib.hid (HX.out.2.2.1 hk0 rfl)
                subst hk0
                obtain ⟨c0, c1, f0, f1⟩ := h6
                obtain ⟨d0, d1, f2, f3⟩ := H9
                have H6S := Lib.hid (F2.store (w := wc) ⟨c0, c1, f0, f1⟩ N D)
                clear h4 hg
                go_wp2_with fail
                refine (lessFrac_any _ _ _ _ _ HV.out HV.out).mono ?_
                rw [(mn_same N D).1, (mn_same N D).2]
                rintro y w4 ⟨rfl, b4⟩
                have h6b := H6S.out.below b4
                obtain ⟨c0, c1, f0, f1⟩ := h6b
                have HGB := Lib.hid (Lib.grownBy_trans (grown_two HGG.out _ _) (grown_bel b4 (some w1.heap.size)))
                go_wp2
                go_roundw
                case rel => exact ⟨1, N, D, by omega, by go_num, F2.store ⟨c0, c1, f0, f1⟩ _ _, .inr ⟨by omega, HV.out⟩, HN1, grown_two HGB.out _ _⟩
                case measure => simp [intOf]; omega
              · have hk1 : 0 < k := by omega
                have HN2 := Lib.hid (HX.out.2.2.2 hk1 rfl)
                obtain ⟨c0, c1, f0, f1⟩ := h6
                obtain ⟨d0, d1, f2, f3⟩ := H9
                clear h4 hg
                have hk2 : ((k : Int) == 0) = false := by simp; omega
                go_wp2_with fail
                refine (lessFrac_any _ _ _ _ _ HN2.out.1 HV.out).mono ?_
                rintro y w4 ⟨rfl, b4⟩
                have h6b := F2.below (w := wc) ⟨c0, c1, f0, f1⟩ b4
                obtain ⟨c0, c1, f0, f1⟩ := h6b
                have HGB := Lib.hid (Lib.grownBy_trans HGG.out (grown_bel b4 (some w1.heap.size)))
                have HM := Lib.hid (mn_ok HN2.out.1 HV.out)
                go_wp2
                go_roundw
                case rel => exact ⟨k + 1, _, _, by omega, by go_num, F2.store ⟨c0, c1, f0, f1⟩ _ _, .inr ⟨by omega, HM.out⟩, Lib.hid HN2.out.2, grown_two HGB.out _ _⟩
                case measure => simp [intOf]; omega
        · obtain rfl : k = n := by omega
          obtain ⟨c0, c1, f0, f1⟩ := h4
          obtain ⟨d0, d1, -, -⟩ := h6r
          have hV := hvf.out
          rw [vf_end _ _ _ _ _ (by rw [← HN.out]; omega)] at hV
          have HV3 := Lib.hid hV
          clear hV hvf
          go_wp2_with fail
          refine bodyPost_ret ((F2.store ⟨c0, c1, f0, f1⟩ _ _).results rfl rfl rfl) rfl ?_
          exact givesF_eq HV3.out.symm (((bel_var HB2.out hg (by omega) (by omega)).setCell (by simp) _).setCell (by simp) _)
end Go.Proofs.Ytinijfkidjakpaa

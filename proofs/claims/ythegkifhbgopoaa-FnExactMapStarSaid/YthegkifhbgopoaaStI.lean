/-
  Mapped and added stars of the model: what the calls return.
  Condition: the slices read as the lists that are named.
-/
import Derived.Test.YthegkifhbgopoaaStH
namespace Go.Proofs.Ythegkifhbgopoaa
set_option linter.unusedSimpArgs false
set_option linter.unusedVariables false
open Go.ChangeShapes Go.WideShapes Go.ChangeAt Go.RowKit
open Go.Sort (grow)

theorem allF_bad {f : Int → Bool} (zs : List Int) (k : Nat) (hk : k < zs.length) (h : f (gd zs k) = false) : zs.all f = false := by
  rw [← Bool.not_eq_true]; intro ha
  have := List.all_eq_true.1 ha zs[k] (List.getElem_mem hk)
  rw [← gd_eq zs k hk, h] at this; cases this
theorem allF_next {f : Int → Bool} (zs : List Int) (k : Nat) (hk : k < zs.length) (h : (zs.take k).all f = true) (h' : f (gd zs k) = true) : (zs.take (k + 1)).all f = true := by
  rw [List.take_add_one, List.getElem?_eq_getElem hk, List.all_append, h, ← gd_eq zs k hk]
  simp [h']
set_option maxHeartbeats 1000000 in
theorem l1AllR_any (w : World) (B : Nat) (v : Value) (zs : List Int) (h : IS w B v zs) : Calls Try.prog 80 #[v, .int .i64 (-3), .int .i64 3] w fun e w' => e = .returned (.bool (zs.all in3)) ∧ w = w' := by
  obtain ⟨A, cap, rfl, hm, hp⟩ := h.parts
  unfold maxLen at hm
  have HP := Lib.hid hp
  clear hp h
  go_enter Try.func80, Try.ntmps80
  go_wp2
  go_loop [11] (fun i => ∃ k : Nat, k ≤ zs.length ∧ i = .int .i64 k ∧ Hid ((zs.take k).all in3 = true)) (fun i => zs.length - (intOf i).toNat)
  case atStart => exact ⟨0, by omega, rfl, Lib.hid rfl⟩
  case round =>
    obtain ⟨k, hk, rfl, hall⟩ := hrel
    by_cases hlt : k < zs.length
    · obtain ⟨g, rfl, hc⟩ := HP.out k hlt
      cases hn : in3 (gd zs k)
      · have hb : inB (gd zs k) (-3) 3 = false := hn
        have HB := Lib.hid hn
        clear hn
        go_wp2_with (go_at_call 77; refine (l1In_any _ _ _ _).mono ?_; rintro e w' ⟨rfl, rfl⟩)
        go_ret
        exact ⟨ret_bool (allF_bad zs k hlt HB.out).symm, rfl⟩
      · have hb : inB (gd zs k) (-3) 3 = true := hn
        have HB := Lib.hid hn
        clear hn
        go_wp2_with (go_at_call 77; refine (l1In_any _ _ _ _).mono ?_; rintro e w' ⟨rfl, rfl⟩)
        go_round
        case rel => exact ⟨k + 1, by omega, by go_num, Lib.hid (allF_next zs k hlt hall.out HB.out)⟩
        case measure => simp [intOf]; omega
    · obtain rfl : k = zs.length := by omega
      go_wp2
      go_ret
      exact ⟨ret_bool (by have := hall.out; rw [List.take_length] at this; exact this.symm), rfl⟩
theorem all4 (a b c d : Int) : [a, b, c, d].all in3 = (in3 a && (in3 b && (in3 c && in3 d))) := by simp
theorem IS.lit4 (w : World) (x y z u : Int) : IS (w.alloc (.cells #[.int .i64 x, .int .i64 y, .int .i64 z, .int .i64 u] 3)) w.heap.size (.slice (some ⟨w.heap.size, 0, none⟩) 4 4) [x, y, z, u] :=
  World.ownsRow_lit w #[.int .i64 x, .int .i64 y, .int .i64 z, .int .i64 u] 4 (Nat.le_refl _) (by decide) rfl
theorem norm_map {f : Tm → Tm} (l : List Tm) (j : Nat) (hj : j < l.length) : normR ((l.take (j + 1)).map f) = putR (normR ((l.take j).map f)) (f (td l j)) := by
  rw [take_td l j hj, List.map_append]
  exact normR_snoc _ _
set_option maxHeartbeats 4000000 in
set_option maxRecDepth 100000 in
theorem specMapStar_any (w : World) (B : Nat) (v : Value) (l : List Tm) (a b c d : Int) (h : RyS w B v l) : Calls Try.prog 40 #[v, .int .i64 a, .int .i64 b, .int .i64 c, .int .i64 d] w fun e w' => GivesRyB (mpB l a b c d) (mpR l a b c d) w e w' := by
  have HI := Lib.hid (stGood_any w B v l h)
  cases hl : ryB l
  · obtain ⟨n1, n2⟩ := mp_no1 (a := a) (b := b) (c := c) (d := d) hl
    have HN1 := Lib.hid n1
    have HN2 := Lib.hid n2
    rw [hl] at HI
    clear hl n1 n2 h
    go_enter Try.func40, Try.ntmps40
    go_wp2_with fail
    refine HI.out.mono ?_
    rintro e w1 ⟨rfl, b1⟩
    go_wp2
    go_ret2
    exact givesRyB_nil HN1.out HN2.out b1
  · rw [hl] at HI
    have HA := Lib.hid (fun W => show Calls Try.prog 80 #[.slice (some ⟨World.heap W |>.size, 0, none⟩) 4 4, .int .i64 (-3), .int .i64 3] (W.alloc (.cells #[.int .i64 a, .int .i64 b, .int .i64 c, .int .i64 d] 3)) fun e w' => e = .returned (.bool ([a, b, c, d].all in3)) ∧ W.alloc (.cells #[.int .i64 a, .int .i64 b, .int .i64 c, .int .i64 d] 3) = w' from l1AllR_any _ _ _ [a, b, c, d] (IS.lit4 W a b c d))
    cases h4 : [a, b, c, d].all in3
    · have hno : mpOk a b c d = false := by
        rw [all4] at h4
        cases q1 : in3 a
        · exact mpOk_a q1
        · cases q2 : in3 b
          · exact mpOk_b q2
          · cases q3 : in3 c
            · exact mpOk_c q3
            · refine mpOk_d ?_
              rw [q1, q2, q3] at h4
              simpa using h4
      obtain ⟨n1, n2⟩ := mp_no2 (l := l) hno
      have HN1 := Lib.hid n1
      have HN2 := Lib.hid n2
      rw [h4] at HA
      clear hl n1 n2 h h4 hno
      go_enter Try.func40, Try.ntmps40
      go_wp2_with fail
      refine HI.out.mono ?_
      rintro e w1 ⟨rfl, b1⟩
      have B1 := b1.alloc b1.size (.cells #[.int .i64 a, .int .i64 b, .int .i64 c, .int .i64 d] 3)
      go_wp2_with fail
      refine (HA.out _).mono ?_
      rintro e w' ⟨rfl, rfl⟩
      go_wp2
      go_ret2
      exact givesRyB_nil HN1.out HN2.out B1
    · have hq := h4
      rw [all4] at hq
      simp only [Bool.and_eq_true] at hq
      obtain ⟨ha, hb, hc, hd⟩ := hq
      rw [h4] at HA
      have m1 := in3_mul ha hd
      have m2 := in3_mul hb hc
      have z1 : IntKind.i64.wrap (a * d) = a * d := IntWalk.i64_in _ (by omega)
      have z2 : IntKind.i64.wrap (b * c) = b * c := IntWalk.i64_in _ (by omega)
      have z3 : IntKind.i64.wrap (a * d - b * c) = a * d - b * c := IntWalk.i64_in _ (by omega)
      have HAB := Lib.hid (fun W => l1Abs_any (a * d - b * c) W (by unfold wide; omega))
      cases hD : detB a b c d
      · obtain ⟨n1, n2⟩ := mp_no2 (l := l) ((mpOk_is ha hb hc hd).trans hD)
        have HN1 := Lib.hid n1
        have HN2 := Lib.hid n2
        have hD1 : ¬ (a * d - b * c = 1 ∨ a * d - b * c = -1) := fun e => by have := (detB_iff a b c d).2 e; rw [hD] at this; cases this
        have hB1 : (((a * d - b * c).natAbs : Int) != 1) = true := by
          simp only [bne_iff_ne, ne_eq]; omega
        clear hl n1 n2 h h4 hD m1 m2 ha hb hc hd
        go_enter Try.func40, Try.ntmps40
        go_wp2_with fail
        refine HI.out.mono ?_
        rintro e w1 ⟨rfl, b1⟩
        have B1 := b1.alloc b1.size (.cells #[.int .i64 a, .int .i64 b, .int .i64 c, .int .i64 d] 3)
        go_wp2_with fail
        refine (HA.out _).mono ?_
        rintro e w' ⟨rfl, rfl⟩
        go_wp2_with fail
        refine (HAB.out _).mono ?_
        rintro e w' ⟨rfl, rfl⟩
        go_wp2
        go_ret2
        exact givesRyB_nil HN1.out HN2.out B1
      · have HSR := Lib.hid (mpR_is hl ((mpOk_is ha hb hc hd).trans hD))
        have hB1 : (((a * d - b * c).natAbs : Int) != 1) = false := by
          have := (detB_iff a b c d).1 hD
          simp only [bne_eq_false_iff_eq]; omega
        have HRT := Lib.hid (fun j (hj : j < l.length) => ryT_parts (ryB_at hl hj))
        have HWT := Lib.hid (mp_wts a b c d (ryB_wts hl))
        have H3 := Lib.hid (And.intro ((in3_iff a).1 ha) (And.intro ((in3_iff b).1 hb) (And.intro ((in3_iff c).1 hc) ((in3_iff d).1 hd))))
        obtain ⟨A, cap, rfl, hm, hp⟩ := RyS.parts h
        have HP := Lib.hid hp
        obtain ⟨n, hn⟩ : ∃ n, n = l.length := ⟨_, rfl⟩
        have HN := Lib.hid hn
        have hle := ryB_le hl
        rw [← hn] at hm hle HI ⊢
        clear hl h h4 hD m1 m2 ha hb hc hd hp hn hm
        go_enter Try.func40, Try.ntmps40
        go_wp2_with fail
        refine HI.out.mono ?_
        rintro e w1 ⟨rfl, b1⟩
        have B1 := b1.alloc b1.size (.cells #[.int .i64 a, .int .i64 b, .int .i64 c, .int .i64 d] 3)
        go_wp2_with fail
        refine (HA.out _).mono ?_
        rintro e w' ⟨rfl, rfl⟩
        go_wp2_with fail
        refine (HAB.out _).mono ?_
        rintro e w' ⟨rfl, rfl⟩
        generalize w1.alloc (.cells #[.int .i64 a, .int .i64 b, .int .i64 c, .int .i64 d] 3) = W1 at B1 ⊢
        clear b1 z1 z2 z3
        go_wp2
        go_loopw [12, 40] (fun o i wr => ∃ j : Nat, j ≤ n ∧ i = .int .i64 j ∧ RyS wr w.heap.size o (normR ((l.take j).map (mpT a b c d))) ∧ Below w.heap.size w wr) (fun _ i _ => n - (intOf i).toNat)
        case atStart => exact ⟨0, by omega, rfl, FS.nil_ _ _ _ _, B1⟩
        case round =>
          obtain ⟨j, hj, rfl, ho, hbw⟩ := hrel
          clear B1
          by_cases hlt : j < n
          · have hjl : j < l.length := by rw [← HN.out]; exact hlt
            obtain ⟨g, rfl, hc0⟩ := HP.out j hjl
            have hcx := X3.below hc0 hbw
            have HM := Lib.hid (norm_map (f := mpT a b c d) l j hjl)
            have hlen := normR_len ((l.take j).map (mpT a b c d))
            rw [List.length_map, List.length_take] at hlen
            have HLN := Lib.hid (show (normR ((l.take j).map (mpT a b c d))).length ≤ 1000 by omega)
            have HW2 := Lib.hid (normR_wts (m := (l.take j).map (mpT a b c d)) (by rw [List.length_map, List.length_take]; omega) (by rw [List.map_take]; exact wts_take HWT.out j))
            have hrp := HRT.out j hjl
            obtain ⟨x, y, u, ht⟩ : ∃ x y u, td l j = (x, y, u) := ⟨_, _, _, rfl⟩
            rw [ht] at hcx hrp HM
            have HTV := Lib.hid (show mpT a b c d (x, y, u) = (a * x + b * y, c * x + d * y, u) from rfl)
            dsimp only at hcx hrp
            obtain ⟨r1, r2, r3, r4, -, r6, r7⟩ := hrp
            have e1 := st_bd (a := a) (x := x) (by have := H3.out.1; omega) (by omega)
            have e2 := st_bd (a := b) (x := y) (by have := H3.out.2.1; omega) (by omega)
            have e3 := st_bd (a := c) (x := x) (by have := H3.out.2.2.1; omega) (by omega)
            have e4 := st_bd (a := d) (x := y) (by have := H3.out.2.2.2; omega) (by omega)
            have y1 : IntKind.i64.wrap (a * x) = a * x := IntWalk.i64_in _ (by omega)
            have y2 : IntKind.i64.wrap (b * y) = b * y := IntWalk.i64_in _ (by omega)
            have y3 : IntKind.i64.wrap (a * x + b * y) = a * x + b * y := IntWalk.i64_in _ (by omega)
            have y4 : IntKind.i64.wrap (c * x) = c * x := IntWalk.i64_in _ (by omega)
            have y5 : IntKind.i64.wrap (d * y) = d * y := IntWalk.i64_in _ (by omega)
            have y6 : IntKind.i64.wrap (c * x + d * y) = c * x + d * y := IntWalk.i64_in _ (by omega)
            have HU := Lib.hid (show -1000000 ≤ (a * x + b * y, c * x + d * y, u).2.2 ∧ (a * x + b * y, c * x + d * y, u).2.2 ≤ 1000000 by simp only; omega)
            obtain ⟨c0, c1, c2⟩ := hcx
            have hgl : g < wr.heap.size := cell_lt c0
            have hbA := hbw.alloc hbw.size (.cells #[.int .i64 x, .int .i64 y, .int .i64 u] 39)
            have HOA := Lib.hid (FS.alloc ho (.cells #[.int .i64 x, .int .i64 y, .int .i64 u] 39))
            clear hc0 ht e1 e2 e3 e4 r1 r2 r3 r4 r6 r7 hlen
            go_wp2_with fail
            refine (stPut_all _ w.heap.size _ (normR ((l.take j).map (mpT a b c d))) (a * x + b * y, c * x + d * y, u) HOA.out HLN.out HU.out HW2.out).mono ?_
            rintro e w3 ⟨r, rfl, hr, b3⟩
            rw [← HTV.out, ← HM.out] at hr
            have HR3 := Lib.hid (FS.base hr hbA.size)
            have HB3 := Lib.hid (bel2 hbA b3)
            clear y1 y2 y3 y4 y5 y6 hr b3 hbA
            go_wp2
            go_roundw
            case rel => exact ⟨j + 1, by omega, by go_num, HR3.out, HB3.out⟩
            case measure => simp [intOf]; omega
          · obtain rfl : j = n := by omega
            rw [HN.out, List.take_length] at ho
            go_wp2_with fail
            refine (stIf_any _ _ _ _ ho).mono ?_
            rintro e w3 ⟨r, rfl, hr, b3⟩
            go_wp2
            go_ret2
            exact givesRyB_is HSR.out.1.symm HSR.out.2 hr (bel2 hbw b3)
end Go.Proofs.Ythegkifhbgopoaa

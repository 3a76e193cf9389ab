/-
  Scaled and mapped stars of the program: what the calls return.
  Condition: the slice reads as the list that is named.
-/
import Derived.Test.YthegkifhbgopoaaStC
namespace Go.Proofs.Ythegkifhbgopoaa
set_option linter.unusedSimpArgs false
set_option linter.unusedVariables false
open Go.ChangeShapes Go.WideShapes Go.ChangeAt Go.RowKit
open Go.Sort (grow)

theorem givesRyB_is {ok ok' : Bool} {l m : List Tm} {r : Value} {w w' : World} (h1 : ok' = ok) (h2 : l = m) (h3 : RyS w' w.heap.size r m) (hb : Below w.heap.size w w') : GivesRyB ok l w (.returned (.tuple #[r, .bool ok'])) w' := by
  subst h1; subst h2; exact ⟨_, rfl, h3, hb⟩
theorem mul20 {u k : Int} (hu : 1 ≤ u ∧ u ≤ 20) (hk : 1 ≤ k ∧ k ≤ 20) : IntKind.i64.wrap (u * k) = u * k := by
  have h1 := Int.mul_le_mul_of_nonneg_left hk.2 (show 0 ≤ u by omega)
  have h2 := Int.mul_nonneg (show 0 ≤ u by omega) (show 0 ≤ k by omega)
  exact IntWalk.i64_in _ (by omega)
set_option maxRecDepth 100000 in
theorem scale1_any (t : Tm) (k : Int) (q : Nat) (w : World) (hq : IntKind.i64.wrap (t.2.2 * k) = t.2.2 * k) (cq : w.cell? ⟨q, 0, none⟩ = some (.int .i64 k)) : Calls Try.prog 79 #[tmV t, .pointer (some ⟨q, 0, none⟩)] w fun e w' => e = .returned (tmV (scT k t)) ∧ Below w.heap.size w w' := by
  have hp := cell_lt cq
  obtain ⟨a, b, c⟩ := t
  simp only at hq
  show Calls Try.prog 79 #[tmV (a, b, c), .pointer (some ⟨q, 0, none⟩)] w fun e w' => e = .returned (tmV (a, b, c * k)) ∧ Below w.heap.size w w'
  go_enter Try.func79, Try.ntmps79
  go_wp2
  refine bodyPost_ret (T3.resultR (t := (a, b, c * k)) (g := w.heap.size + 1) ?_ rfl rfl) rfl ⟨rfl, by go_grown⟩
  have := T3.new (w.alloc (.cells #[.int .i64 a, .int .i64 b, .int .i64 (c * k)] 39)) (a, b, c * k) 39
  rwa [World.size_alloc] at this
theorem ent_scale : ∀ (args : Array Value) (w : World), (callFunc 79 args).run Try.prog w = .ok (.enter 79 args) w := enters_of Try.func79 (by kernel_rfl) rfl
set_option maxHeartbeats 1000000 in
set_option maxRecDepth 100000 in
theorem implScaleStar_any (w : World) (B : Nat) (v : Value) (l : List Tm) (k : Int) (h : RyS w B v l) : Calls Try.prog 39 #[v, .int .i64 k] w fun e w' => GivesRyB (scB l k) (scR l k) w e w' := by
  have hb0 : Below w.heap.size w (w.alloc (.cells #[.int .i64 k] 3)) := (Below.refl _ _).alloc (Nat.le_refl _) _
  have h0 := FS.below h hb0
  have cq : (w.alloc (.cells #[.int .i64 k] 3)).cell? ⟨w.heap.size, 0, none⟩ = some (.int .i64 k) := by simp [go_sem]
  have HI := Lib.hid (isStar_any _ B v l h0)
  have HZ := Lib.hid (And.intro hb0 (And.intro h0 cq))
  clear h0 cq hb0
  cases hl : ryB l
  · obtain ⟨n1, n2⟩ := sc_no1 (k := k) hl
    have HN1 := Lib.hid n1
    have HN2 := Lib.hid n2
    rw [hl] at HI
    clear hl n1 n2 h
    go_enter Try.func39, Try.ntmps39
    go_wp2_with fail
    refine HI.out.mono ?_
    rintro e w1 ⟨rfl, b1⟩
    go_wp2
    go_ret2
    exact givesRyB_nil HN1.out HN2.out (bel2 HZ.out.1 b1)
  · have HL := Lib.hid hl
    rw [hl] at HI
    cases hk : inB k 1 20
    · obtain ⟨n1, n2⟩ := sc_no2 (l := l) hk
      have HN1 := Lib.hid n1
      have HN2 := Lib.hid n2
      have hk' : ¬ (1 ≤ k ∧ k ≤ 20) := by rw [← inB_iff, hk]; simp
      clear hl n1 n2 h hk
      by_cases k1 : k < 1
      · go_enter Try.func39, Try.ntmps39
        go_wp2_with fail
        refine HI.out.mono ?_
        rintro e w1 ⟨rfl, b1⟩
        have c1 := box_o HZ.out.2.2 b1
        have hp := cell_lt c1
        go_wp2
        go_ret2
        exact givesRyB_nil HN1.out HN2.out (bel2 HZ.out.1 b1)
      · have k2 : 20 < k := by omega
        go_enter Try.func39, Try.ntmps39
        go_wp2_with fail
        refine HI.out.mono ?_
        rintro e w1 ⟨rfl, b1⟩
        have c1 := box_o HZ.out.2.2 b1
        have hp := cell_lt c1
        go_wp2
        go_ret2
        exact givesRyB_nil HN1.out HN2.out (bel2 HZ.out.1 b1)
    · have hkk := (inB_iff _ _ _).1 hk
      obtain ⟨k1, k2⟩ := hkk
      have HSR := Lib.hid (scR_is hl hk)
      have HD := Lib.hid (srt_diff (sc_srt k (ryB_srt hl)))
      have HNR := Lib.hid (normR_srt (sc_srt k (ryB_srt hl)))
      have HLE := Lib.hid (show l.length ≤ 1000 by have := ryB_le hl; omega)
      have HQ := Lib.hid (fun j (hj : j < l.length) => mul20 (u := (td l j).2.2) (k := k) (by have := ryT_parts (ryB_at hl hj); omega) ⟨k1, k2⟩)
      clear hl h hk
      go_enter Try.func39, Try.ntmps39
      go_wp2_with fail
      refine HI.out.mono ?_
      rintro e w1 ⟨rfl, b1⟩
      have c1 := box_o HZ.out.2.2 b1
      have h1 := Lib.hid (FS.below HZ.out.2.1 b1)
      have B1 := bel2 HZ.out.1 b1
      have hp := cell_lt c1
      have HF := Lib.hid (show FnRy 79 #[.pointer (some ⟨w.heap.size, 0, none⟩)] l (scT k) w1 from fun W j hj hW => by
        have h2 := scale1_any (td l j) k w.heap.size W (HQ.out j hj) (box_o c1 hW)
        exact h2)
      clear b1
      go_wp2_with fail
      refine (changedStar_any _ _ _ l h1.out HLE.out _ _ ent_scale (scT k) HF.out HD.out).mono ?_
      rintro e w2 ⟨r, rfl, hr, b2⟩
      rw [HNR.out] at hr ⊢
      go_wp2
      go_ret2
      exact givesRyB_is HSR.out.1.symm HSR.out.2 (FS.base hr B1.size) (bel2 B1 b2)
set_option maxRecDepth 100000 in
set_option maxHeartbeats 1000000 in
theorem map1_any (t : Tm) (a b c d : Int) (q0 q1 q2 q3 : Nat) (w : World) (ht : ryT t = true) (ha : in3 a = true) (hb : in3 b = true) (hc : in3 c = true) (hd : in3 d = true) (c0 : w.cell? ⟨q0, 0, none⟩ = some (.int .i64 a)) (c1 : w.cell? ⟨q1, 0, none⟩ = some (.int .i64 b)) (c2 : w.cell? ⟨q2, 0, none⟩ = some (.int .i64 c)) (c3 : w.cell? ⟨q3, 0, none⟩ = some (.int .i64 d)) : Calls Try.prog 82 #[tmV t, .pointer (some ⟨q0, 0, none⟩), .pointer (some ⟨q1, 0, none⟩), .pointer (some ⟨q2, 0, none⟩), .pointer (some ⟨q3, 0, none⟩)] w fun e w' => e = .returned (tmV (mpT a b c d t)) ∧ Below w.heap.size w w' := by
  have p0 := cell_lt c0
  have p1 := cell_lt c1
  have p2 := cell_lt c2
  have p3 := cell_lt c3
  obtain ⟨h1, h2, h3, h4, -, -, -⟩ := ryT_parts ht
  obtain ⟨x, y, u⟩ := t
  simp only at h1 h2 h3 h4
  have ha := (in3_iff _).1 ha
  have hb := (in3_iff _).1 hb
  have hc := (in3_iff _).1 hc
  have hd := (in3_iff _).1 hd
  have b1 := st_bd (a := a) (x := x) (by omega) (by omega)
  have b2 := st_bd (a := b) (x := y) (by omega) (by omega)
  have b3 := st_bd (a := c) (x := x) (by omega) (by omega)
  have b4 := st_bd (a := d) (x := y) (by omega) (by omega)
  show Calls Try.prog 82 #[tmV (x, y, u), .pointer (some ⟨q0, 0, none⟩), .pointer (some ⟨q1, 0, none⟩), .pointer (some ⟨q2, 0, none⟩), .pointer (some ⟨q3, 0, none⟩)] w fun e w' => e = .returned (tmV (a * x + b * y, c * x + d * y, u)) ∧ Below w.heap.size w w'
  have z1 : IntKind.i64.wrap (a * x) = a * x := IntWalk.i64_in _ (by omega)
  have z2 : IntKind.i64.wrap (b * y) = b * y := IntWalk.i64_in _ (by omega)
  have z3 : IntKind.i64.wrap (a * x + b * y) = a * x + b * y := IntWalk.i64_in _ (by omega)
  have z4 : IntKind.i64.wrap (c * x) = c * x := IntWalk.i64_in _ (by omega)
  have z5 : IntKind.i64.wrap (d * y) = d * y := IntWalk.i64_in _ (by omega)
  have z6 : IntKind.i64.wrap (c * x + d * y) = c * x + d * y := IntWalk.i64_in _ (by omega)
  clear ht ha hb hc hd b1 b2 b3 b4 h1 h2 h3 h4
  go_enter Try.func82, Try.ntmps82
  go_wp2
  refine bodyPost_ret (T3.resultR (t := (a * x + b * y, c * x + d * y, u)) (g := w.heap.size + 1) ?_ rfl rfl) rfl ⟨rfl, by go_grown⟩
  have := T3.new (w.alloc (.cells #[.int .i64 x, .int .i64 y, .int .i64 u] 39)) (a * x + b * y, c * x + d * y, u) 39
  rwa [World.size_alloc] at this
theorem ent_map : ∀ (args : Array Value) (w : World), (callFunc 82 args).run Try.prog w = .ok (.enter 82 args) w := enters_of Try.func82 (by kernel_rfl) rfl
theorem in3_mul {a b : Int} (ha : in3 a = true) (hb : in3 b = true) : -9 ≤ a * b ∧ a * b ≤ 9 := by
  have ha := (in3_iff _).1 ha
  have hb := (in3_iff _).1 hb
  have h1 := Int.mul_nonneg (show 0 ≤ 3 - a by omega) (show 0 ≤ 3 + b by omega)
  have h2 := Int.mul_nonneg (show 0 ≤ 3 + a by omega) (show 0 ≤ 3 - b by omega)
  have h3 := Int.mul_nonneg (show 0 ≤ 3 - a by omega) (show 0 ≤ 3 - b by omega)
  have h4 := Int.mul_nonneg (show 0 ≤ 3 + a by omega) (show 0 ≤ 3 + b by omega)
  simp only [Int.sub_mul, Int.add_mul, Int.mul_sub, Int.mul_add] at h1 h2 h3 h4
  omega
theorem mpOk_is {a b c d : Int} (ha : in3 a = true) (hb : in3 b = true) (hc : in3 c = true) (hd : in3 d = true) : mpOk a b c d = detB a b c d := by unfold mpOk; rw [ha, hb, hc, hd]; rfl
theorem mpOk_a {a b c d : Int} (h : in3 a = false) : mpOk a b c d = false := by unfold mpOk; rw [h]; rfl
theorem mpOk_b {a b c d : Int} (h : in3 b = false) : mpOk a b c d = false := by unfold mpOk; rw [h]; simp
theorem mpOk_c {a b c d : Int} (h : in3 c = false) : mpOk a b c d = false := by unfold mpOk; rw [h]; simp
theorem mpOk_d {a b c d : Int} (h : in3 d = false) : mpOk a b c d = false := by unfold mpOk; rw [h]; simp
abbrev W4 (w : World) (a b c d : Int) : World := (((w.alloc (.cells #[.int .i64 a] 3)).alloc (.cells #[.int .i64 b] 3)).alloc (.cells #[.int .i64 c] 3)).alloc (.cells #[.int .i64 d] 3)
set_option maxHeartbeats 4000000 in
set_option maxRecDepth 100000 in
theorem implMapStar_any (w : World) (B : Nat) (v : Value) (l : List Tm) (a b c d : Int) (h : RyS w B v l) : Calls Try.prog 41 #[v, .int .i64 a, .int .i64 b, .int .i64 c, .int .i64 d] w fun e w' => GivesRyB (mpB l a b c d) (mpR l a b c d) w e w' := by
  have hb0 : Below w.heap.size w (W4 w a b c d) := by go_grown
  have i0 : ∀ w, (Instr.index 105 (.agg #[.int .i64 a, .int .i64 b, .int .i64 c, .int .i64 d]) (.int .i64 0)).run Try.prog w = .ok (.int .i64 a) w := fun _ => by kernel_rfl
  have i1 : ∀ w, (Instr.index 105 (.agg #[.int .i64 a, .int .i64 b, .int .i64 c, .int .i64 d]) (.int .i64 1)).run Try.prog w = .ok (.int .i64 b) w := fun _ => by kernel_rfl
  have i2 : ∀ w, (Instr.index 105 (.agg #[.int .i64 a, .int .i64 b, .int .i64 c, .int .i64 d]) (.int .i64 2)).run Try.prog w = .ok (.int .i64 c) w := fun _ => by kernel_rfl
  have i3 : ∀ w, (Instr.index 105 (.agg #[.int .i64 a, .int .i64 b, .int .i64 c, .int .i64 d]) (.int .i64 3)).run Try.prog w = .ok (.int .i64 d) w := fun _ => by kernel_rfl
  have h0 := FS.below h hb0
  have c0 : (W4 w a b c d).cell? ⟨w.heap.size, 0, none⟩ = some (.int .i64 a) := by simp [go_sem]
  have c1 : (W4 w a b c d).cell? ⟨w.heap.size + 1, 0, none⟩ = some (.int .i64 b) := by simp [go_sem]
  have c2 : (W4 w a b c d).cell? ⟨w.heap.size + 2, 0, none⟩ = some (.int .i64 c) := by simp [go_sem]
  have c3 : (W4 w a b c d).cell? ⟨w.heap.size + 3, 0, none⟩ = some (.int .i64 d) := by simp [go_sem]
  have HI := Lib.hid (isStar_any _ B v l h0)
  have HZ := Lib.hid (And.intro hb0 (And.intro h0 (And.intro c0 (And.intro c1 (And.intro c2 c3)))))
  clear h0 c0 c1 c2 c3 hb0
  cases hl : ryB l
  · obtain ⟨n1, n2⟩ := mp_no1 (a := a) (b := b) (c := c) (d := d) hl
    have HN1 := Lib.hid n1
    have HN2 := Lib.hid n2
    rw [hl] at HI
    clear hl n1 n2 h
    go_enter Try.func41, Try.ntmps41
    go_wp2_with fail
    refine HI.out.mono ?_
    rintro e w1 ⟨rfl, b1⟩
    go_wp2
    go_ret2
    exact givesRyB_nil HN1.out HN2.out (bel2 HZ.out.1 b1)
  · rw [hl] at HI
    have HWA := Lib.hid (fun W => show Calls Try.prog 81 #[.int .i64 a, .int .i64 3] W fun e w' => e = .returned (.bool (in3 a)) ∧ W = w' from isWithin_any a 3 (by omega) W)
    have HWB := Lib.hid (fun W => show Calls Try.prog 81 #[.int .i64 b, .int .i64 3] W fun e w' => e = .returned (.bool (in3 b)) ∧ W = w' from isWithin_any b 3 (by omega) W)
    have HWC := Lib.hid (fun W => show Calls Try.prog 81 #[.int .i64 c, .int .i64 3] W fun e w' => e = .returned (.bool (in3 c)) ∧ W = w' from isWithin_any c 3 (by omega) W)
    have HWD := Lib.hid (fun W => show Calls Try.prog 81 #[.int .i64 d, .int .i64 3] W fun e w' => e = .returned (.bool (in3 d)) ∧ W = w' from isWithin_any d 3 (by omega) W)
    cases ha : in3 a
    · obtain ⟨n1, n2⟩ := mp_no2 (l := l) (mpOk_a (a := a) (b := b) (c := c) (d := d) ha)
      have HN1 := Lib.hid n1
      have HN2 := Lib.hid n2
      rw [ha] at HWA
      clear hl h n1 n2
      go_enter Try.func41, Try.ntmps41
      go_wp2_with fail
      refine HI.out.mono ?_
      rintro e w1 ⟨rfl, b1⟩
      have d0 := box_o HZ.out.2.2.1 b1
      have d1 := box_o HZ.out.2.2.2.1 b1
      have d2 := box_o HZ.out.2.2.2.2.1 b1
      have d3 := box_o HZ.out.2.2.2.2.2 b1
      have p0 := cell_lt d0
      have p1 := cell_lt d1
      have p2 := cell_lt d2
      have p3 := cell_lt d3
      go_wp2_with fail
      refine wp_loop_rounds 5 ?_
      rw [rounds_succ]
      go_wp2_with fail
      refine (HWA.out _).mono ?_
      rintro e w' ⟨rfl, rfl⟩
      go_wp2
      go_ret2
      exact givesRyB_nil HN1.out HN2.out (bel2 HZ.out.1 b1)
    · rw [ha] at HWA
      cases hb : in3 b
      · obtain ⟨n1, n2⟩ := mp_no2 (l := l) (mpOk_b (a := a) (b := b) (c := c) (d := d) hb)
        have HN1 := Lib.hid n1
        have HN2 := Lib.hid n2
        rw [hb] at HWB
        clear hl h n1 n2
        go_enter Try.func41, Try.ntmps41
        go_wp2_with fail
        refine HI.out.mono ?_
        rintro e w1 ⟨rfl, b1⟩
        have d0 := box_o HZ.out.2.2.1 b1
        have d1 := box_o HZ.out.2.2.2.1 b1
        have d2 := box_o HZ.out.2.2.2.2.1 b1
        have d3 := box_o HZ.out.2.2.2.2.2 b1
        have p0 := cell_lt d0
        have p1 := cell_lt d1
        have p2 := cell_lt d2
        have p3 := cell_lt d3
        go_wp2_with fail
        refine wp_loop_rounds 5 ?_
        rw [rounds_succ]
        go_wp2_with fail
        refine (HWA.out _).mono ?_
        rintro e w' ⟨rfl, rfl⟩
        go_wp2_with fail
        rw [rounds_succ]
        go_wp2_with fail
        refine (HWB.out _).mono ?_
        rintro e w' ⟨rfl, rfl⟩
        go_wp2
        go_ret2
        exact givesRyB_nil HN1.out HN2.out (bel2 HZ.out.1 b1)
      · rw [hb] at HWB
        cases hc : in3 c
        · obtain ⟨n1, n2⟩ := mp_no2 (l := l) (mpOk_c (a := a) (b := b) (c := c) (d := d) hc)
          have HN1 := Lib.hid n1
          have HN2 := Lib.hid n2
          rw [hc] at HWC
          clear hl h n1 n2
          go_enter Try.func41, Try.ntmps41
          go_wp2_with fail
          refine HI.out.mono ?_
          rintro e w1 ⟨rfl, b1⟩
          have d0 := box_o HZ.out.2.2.1 b1
          have d1 := box_o HZ.out.2.2.2.1 b1
          have d2 := box_o HZ.out.2.2.2.2.1 b1
          have d3 := box_o HZ.out.2.2.2.2.2 b1
          have p0 := cell_lt d0
          have p1 := cell_lt d1
          have p2 := cell_lt d2
          have p3 := cell_lt d3
          go_wp2_with fail
          refine wp_loop_rounds 5 ?_
          rw [rounds_succ]
          go_wp2_with fail
          refine (HWA.out _).mono ?_
          rintro e w' ⟨rfl, rfl⟩
          go_wp2_with fail
          rw [rounds_succ]
          go_wp2_with fail
          refine (HWB.out _).mono ?_
          rintro e w' ⟨rfl, rfl⟩
          go_wp2_with fail
          rw [rounds_succ]
          go_wp2_with fail
          refine (HWC.out _).mono ?_
          rintro e w' ⟨rfl, rfl⟩
          go_wp2
          go_ret2
          exact givesRyB_nil HN1.out HN2.out (bel2 HZ.out.1 b1)
        · rw [hc] at HWC
          cases hd : in3 d
          · obtain ⟨n1, n2⟩ := mp_no2 (l := l) (mpOk_d (a := a) (b := b) (c := c) (d := d) hd)
            have HN1 := Lib.hid n1
            have HN2 := Lib.hid n2
            rw [hd] at HWD
            clear hl h n1 n2
            go_enter Try.func41, Try.ntmps41
            go_wp2_with fail
            refine HI.out.mono ?_
            rintro e w1 ⟨rfl, b1⟩
            have d0 := box_o HZ.out.2.2.1 b1
            have d1 := box_o HZ.out.2.2.2.1 b1
            have d2 := box_o HZ.out.2.2.2.2.1 b1
            have d3 := box_o HZ.out.2.2.2.2.2 b1
            have p0 := cell_lt d0
            have p1 := cell_lt d1
            have p2 := cell_lt d2
            have p3 := cell_lt d3
            go_wp2_with fail
            refine wp_loop_rounds 5 ?_
            rw [rounds_succ]
            go_wp2_with fail
            refine (HWA.out _).mono ?_
            rintro e w' ⟨rfl, rfl⟩
            go_wp2_with fail
            rw [rounds_succ]
            go_wp2_with fail
            refine (HWB.out _).mono ?_
            rintro e w' ⟨rfl, rfl⟩
            go_wp2_with fail
            rw [rounds_succ]
            go_wp2_with fail
            refine (HWC.out _).mono ?_
            rintro e w' ⟨rfl, rfl⟩
            go_wp2_with fail
            rw [rounds_succ]
            go_wp2_with fail
            refine (HWD.out _).mono ?_
            rintro e w' ⟨rfl, rfl⟩
            go_wp2
            go_ret2
            exact givesRyB_nil HN1.out HN2.out (bel2 HZ.out.1 b1)
          · rw [hd] at HWD
            have m1 := in3_mul ha hd
            have m2 := in3_mul hb hc
            have z1 : IntKind.i64.wrap (a * d) = a * d := IntWalk.i64_in _ (by omega)
            have z2 : IntKind.i64.wrap (b * c) = b * c := IntWalk.i64_in _ (by omega)
            have z3 : IntKind.i64.wrap (a * d - b * c) = a * d - b * c := IntWalk.i64_in _ (by omega)
            cases hD : detB a b c d
            · obtain ⟨n1, n2⟩ := mp_no2 (l := l) ((mpOk_is ha hb hc hd).trans hD)
              have HN1 := Lib.hid n1
              have HN2 := Lib.hid n2
              have hD1 : ¬ (a * d - b * c = 1) := fun e => by have := (detB_iff a b c d).2 (.inl e); rw [hD] at this; cases this
              have hD2 : ¬ (a * d - b * c = -1) := fun e => by have := (detB_iff a b c d).2 (.inr e); rw [hD] at this; cases this
              have hB1 : (a * d - b * c != 1) = true := by simpa using hD1
              have hB2 : (a * d - b * c != -1) = true := by simpa using hD2
              clear hl h n1 n2 m1 m2
              go_enter Try.func41, Try.ntmps41
              go_wp2_with fail
              refine HI.out.mono ?_
              rintro e w1 ⟨rfl, b1⟩
              have d0 := box_o HZ.out.2.2.1 b1
              have d1 := box_o HZ.out.2.2.2.1 b1
              have d2 := box_o HZ.out.2.2.2.2.1 b1
              have d3 := box_o HZ.out.2.2.2.2.2 b1
              have p0 := cell_lt d0
              have p1 := cell_lt d1
              have p2 := cell_lt d2
              have p3 := cell_lt d3
              go_wp2_with fail
              refine wp_loop_rounds 5 ?_
              rw [rounds_succ]
              go_wp2_with fail
              refine (HWA.out _).mono ?_
              rintro e w' ⟨rfl, rfl⟩
              go_wp2_with fail
              rw [rounds_succ]
              go_wp2_with fail
              refine (HWB.out _).mono ?_
              rintro e w' ⟨rfl, rfl⟩
              go_wp2_with fail
              rw [rounds_succ]
              go_wp2_with fail
              refine (HWC.out _).mono ?_
              rintro e w' ⟨rfl, rfl⟩
              go_wp2_with fail
              rw [rounds_succ]
              go_wp2_with fail
              refine (HWD.out _).mono ?_
              rintro e w' ⟨rfl, rfl⟩
              go_wp2_with fail
              rw [rounds_succ]
              go_wp2
              go_ret2
              exact givesRyB_nil HN1.out HN2.out (bel2 HZ.out.1 b1)
            · have HSR := Lib.hid (mpR_is hl ((mpOk_is ha hb hc hd).trans hD))
              have HDF := Lib.hid (mp_diff hD (ryB_srt hl))
              have HLE := Lib.hid (show l.length ≤ 1000 by have := ryB_le hl; omega)
              have HRT := Lib.hid (fun j (hj : j < l.length) => ryB_at hl hj)
              have H4 := Lib.hid (And.intro ha (And.intro hb (And.intro hc hd)))
              rcases (detB_iff a b c d).1 hD with hE | hE
              · clear hl h m1 m2 hD
                go_enter Try.func41, Try.ntmps41
                go_wp2_with fail
                refine HI.out.mono ?_
                rintro e w1 ⟨rfl, b1⟩
                have d0 := box_o HZ.out.2.2.1 b1
                have d1 := box_o HZ.out.2.2.2.1 b1
                have d2 := box_o HZ.out.2.2.2.2.1 b1
                have d3 := box_o HZ.out.2.2.2.2.2 b1
                have p0 := cell_lt d0
                have p1 := cell_lt d1
                have p2 := cell_lt d2
                have p3 := cell_lt d3
                go_wp2_with fail
                refine wp_loop_rounds 5 ?_
                rw [rounds_succ]
                go_wp2_with fail
                refine (HWA.out _).mono ?_
                rintro e w' ⟨rfl, rfl⟩
                go_wp2_with fail
                rw [rounds_succ]
                go_wp2_with fail
                refine (HWB.out _).mono ?_
                rintro e w' ⟨rfl, rfl⟩
                go_wp2_with fail
                rw [rounds_succ]
                go_wp2_with fail
                refine (HWC.out _).mono ?_
                rintro e w' ⟨rfl, rfl⟩
                go_wp2_with fail
                rw [rounds_succ]
                go_wp2_with fail
                refine (HWD.out _).mono ?_
                rintro e w' ⟨rfl, rfl⟩
                go_wp2_with fail
                rw [rounds_succ]
                have h1 := Lib.hid (FS.below HZ.out.2.1 b1)
                have B1 := bel2 HZ.out.1 b1
                have HF := Lib.hid (show FnRy 82 #[.pointer (some ⟨w.heap.size, 0, none⟩), .pointer (some ⟨w.heap.size + 1, 0, none⟩), .pointer (some ⟨w.heap.size + 2, 0, none⟩), .pointer (some ⟨w.heap.size + 3, 0, none⟩)] l (mpT a b c d) w1 from fun W j hj hW => by
                  have h2 := map1_any (td l j) a b c d w.heap.size (w.heap.size + 1) (w.heap.size + 2) (w.heap.size + 3) W (HRT.out j hj) H4.out.1 H4.out.2.1 H4.out.2.2.1 H4.out.2.2.2 (box_o d0 hW) (box_o d1 hW) (box_o d2 hW) (box_o d3 hW)
                  exact h2)
                clear b1
                go_wp2_with fail
                refine (changedStar_any _ _ _ l h1.out HLE.out _ _ ent_map (mpT a b c d) HF.out HDF.out).mono ?_
                rintro e w2 ⟨r, rfl, hr, b2⟩
                go_wp2
                go_ret2
                exact givesRyB_is HSR.out.1.symm HSR.out.2 (FS.base hr B1.size) (bel2 B1 b2)
              · clear hl h m1 m2 hD
                go_enter Try.func41, Try.ntmps41
                go_wp2_with fail
                refine HI.out.mono ?_
                rintro e w1 ⟨rfl, b1⟩
                have d0 := box_o HZ.out.2.2.1 b1
                have d1 := box_o HZ.out.2.2.2.1 b1
                have d2 := box_o HZ.out.2.2.2.2.1 b1
                have d3 := box_o HZ.out.2.2.2.2.2 b1
                have p0 := cell_lt d0
                have p1 := cell_lt d1
                have p2 := cell_lt d2
                have p3 := cell_lt d3
                go_wp2_with fail
                refine wp_loop_rounds 5 ?_
                rw [rounds_succ]
                go_wp2_with fail
                refine (HWA.out _).mono ?_
                rintro e w' ⟨rfl, rfl⟩
                go_wp2_with fail
                rw [rounds_succ]
                go_wp2_with fail
                refine (HWB.out _).mono ?_
                rintro e w' ⟨rfl, rfl⟩
                go_wp2_with fail
                rw [rounds_succ]
                go_wp2_with fail
                refine (HWC.out _).mono ?_
                rintro e w' ⟨rfl, rfl⟩
                go_wp2_with fail
                rw [rounds_succ]
                go_wp2_with fail
                refine (HWD.out _).mono ?_
                rintro e w' ⟨rfl, rfl⟩
                go_wp2_with fail
                rw [rounds_succ]
                have h1 := Lib.hid (FS.below HZ.out.2.1 b1)
                have B1 := bel2 HZ.out.1 b1
                have HF := Lib.hid (show FnRy 82 #[.pointer (some ⟨w.heap.size, 0, none⟩), .pointer (some ⟨w.heap.size + 1, 0, none⟩), .pointer (some ⟨w.heap.size + 2, 0, none⟩), .pointer (some ⟨w.heap.size + 3, 0, none⟩)] l (mpT a b c d) w1 from fun W j hj hW => by
                  have h2 := map1_any (td l j) a b c d w.heap.size (w.heap.size + 1) (w.heap.size + 2) (w.heap.size + 3) W (HRT.out j hj) H4.out.1 H4.out.2.1 H4.out.2.2.1 H4.out.2.2.2 (box_o d0 hW) (box_o d1 hW) (box_o d2 hW) (box_o d3 hW)
                  exact h2)
                clear b1
                go_wp2_with fail
                refine (changedStar_any _ _ _ l h1.out HLE.out _ _ ent_map (mpT a b c d) HF.out HDF.out).mono ?_
                rintro e w2 ⟨r, rfl, hr, b2⟩
                go_wp2
                go_ret2
                exact givesRyB_is HSR.out.1.symm HSR.out.2 (FS.base hr B1.size) (bel2 B1 b2)
end Go.Proofs.Ythegkifhbgopoaa

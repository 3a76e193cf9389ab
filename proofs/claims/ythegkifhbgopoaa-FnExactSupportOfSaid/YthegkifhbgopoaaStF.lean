/-
  Supports: what the program's and the model's calls return.
  Condition: the slice reads as the list that is named.
-/
import Derived.Test.YthegkifhbgopoaaStE
import Derived.Test.YthegkifhbgopoaaStL
namespace Go.Proofs.Ythegkifhbgopoaa
set_option linter.unusedSimpArgs false
set_option linter.unusedVariables false
open Go.ChangeShapes Go.WideShapes Go.ChangeAt Go.RowKit
open Go.Sort (grow)

theorem sp_next (l : List Tm) (x y : Int) (k : Nat) : spA l x y (k + 1) = spA l x y k + (td l k).2.2 * max 0 ((td l k).1 * x + (td l k).2.1 * y) := rfl
set_option maxHeartbeats 2000000 in
set_option maxRecDepth 100000 in
theorem specSupportOf_any (w : World) (B : Nat) (v : Value) (l : List Tm) (x y : Int) (h : RyS w B v l) : Calls Try.prog 42 #[v, .int .i64 x, .int .i64 y] w fun e w' => e = .returned (.tuple #[.int .i64 (suR l x y), .bool (suB l x y)]) ∧ Below w.heap.size w w' := by
  have HI := Lib.hid (stGood_any w B v l h)
  cases hl : ryB l
  · have HN := Lib.hid (suB_no1 (x := x) (y := y) hl)
    rw [hl] at HI
    clear hl h
    go_enter Try.func42, Try.ntmps42
    go_wp2_with fail
    refine HI.out.mono ?_
    rintro e w1 ⟨rfl, b1⟩
    go_wp2
    go_ret2
    exact ⟨ret_ib9 (suR_no HN.out).symm HN.out.symm, b1⟩
  · have HSB := Lib.hid (suB_is (x := x) (y := y) hl)
    have HSS := Lib.hid (fun W => stSteps_any x y W)
    rw [hl] at HI
    cases hs : okS x y
    · have HN := Lib.hid (HSB.out.trans hs)
      rw [hs] at HSS
      clear hl h hs HSB
      go_enter Try.func42, Try.ntmps42
      go_wp2_with fail
      refine HI.out.mono ?_
      rintro e w1 ⟨rfl, b1⟩
      go_wp2_with fail
      refine (HSS.out _).mono ?_
      rintro e w' ⟨rfl, rfl⟩
      go_wp2
      go_ret2
      exact ⟨ret_ib9 (suR_no HN.out).symm HN.out.symm, b1⟩
    · have HY := Lib.hid (HSB.out.trans hs)
      rw [hs] at HSS
      obtain ⟨x1, x2, y1, y2, -⟩ := (okS_iff _ _).1 hs
      have HXY := Lib.hid (And.intro (And.intro x1 x2) (And.intro y1 y2))
      obtain ⟨A, cap, rfl, hm, hp⟩ := RyS.parts h
      have HP := Lib.hid hp
      obtain ⟨n, hn⟩ : ∃ n, n = l.length := ⟨_, rfl⟩
      have HN := Lib.hid hn
      have hle := ryB_le hl
      have HL := Lib.hid hl
      rw [← hn] at hm hle HI ⊢
      clear hp h hn hm hl hs x1 x2 y1 y2 HSB
      go_enter Try.func42, Try.ntmps42
      go_wp2_with fail
      refine HI.out.mono ?_
      rintro e w1 ⟨rfl, b1⟩
      go_wp2_with fail
      refine (HSS.out _).mono ?_
      rintro e w' ⟨rfl, rfl⟩
      go_wp2
      go_loopw [8, 22] (fun s i wr => ∃ k : Nat, k ≤ n ∧ s = .int .i64 (spA l x y k) ∧ i = .int .i64 k ∧ Below w.heap.size w wr) (fun _ i _ => n - (intOf i).toNat)
      case atStart => exact ⟨0, by omega, rfl, rfl, b1⟩
      case round =>
        obtain ⟨k, hk, rfl, rfl, hb⟩ := hrel
        by_cases hlt : k < n
        · have hkl : k < l.length := by rw [← HN.out]; exact hlt
          obtain ⟨g, rfl, hc0⟩ := HP.out k hkl
          have hc := X3.below hc0 hb
          have s1 := spA_bd HL.out HXY.out.1 HXY.out.2 k (by omega)
          obtain ⟨p1, p2, p3, p4⟩ := sp_bd (ryB_at HL.out hkl) HXY.out.1 HXY.out.2
          have HX := Lib.hid (sp_next l x y k)
          generalize spA l x y k = S at s1 HX ⊢
          generalize td l k = t at hc p1 p2 p3 p4 HX
          obtain ⟨a, b, c⟩ := t
          dsimp only at hc p1 p2 p3 p4 HX
          have q1 : IntKind.i64.wrap (a * x) = a * x := IntWalk.i64_in _ (by omega)
          have q2 : IntKind.i64.wrap (b * y) = b * y := IntWalk.i64_in _ (by omega)
          have q3 : IntKind.i64.wrap (a * x + b * y) = a * x + b * y := IntWalk.i64_in _ (by omega)
          have q4 : IntKind.i64.wrap (c * max 0 (a * x + b * y)) = c * max 0 (a * x + b * y) := IntWalk.i64_in _ (by omega)
          have q5 : IntKind.i64.wrap (S + c * max 0 (a * x + b * y)) = S + c * max 0 (a * x + b * y) := IntWalk.i64_in _ (by omega)
          obtain ⟨c0, c1, c2⟩ := hc
          have hbA := hb.alloc hb.size (.cells #[.int .i64 a, .int .i64 b, .int .i64 c] 39)
          have hgl : g < wr.heap.size := cell_lt c0
          have HQ := Lib.hid (fun k' => show Calls Try.prog 83 #[.int .i64 0, .int .i64 (a * x + b * y)] ((wr.alloc (.cells #[.int .i64 a, .int .i64 b, .int .i64 c] 39)).drewN k') fun e w' => e = .returned (.int .i64 (max 0 (a * x + b * y))) ∧ w' = (wr.alloc (.cells #[.int .i64 a, .int .i64 b, .int .i64 c] 39)).drewN k' from (l1Most_any 0 (a * x + b * y) _).mono fun e w' h => ⟨h.1, h.2.symm⟩)
          have hn3 := T3.new wr (a, b, c) 39
          clear hc0 s1 p1 p2 p3 p4
          go_upto_region 7 with fail
          generalize wr.alloc (.cells #[.int .i64 a, .int .i64 b, .int .i64 c] 39) = W0 at hbA HQ hn3 ⊢
          obtain ⟨n0, n1, n2⟩ := hn3
          dsimp only at n0 n1 n2
          have hnl := cell_lt n0
          go_wp2
          go_quiet (first | (with_reducible exact Calls.quiet_of_same (HQ.out _)))
          go_wp2
          go_roundw
          case rel => exact ⟨k + 1, by omega, by rw [HX.out], by go_num, belN hbA _⟩
          case measure => simp [intOf]; omega
        · go_wp2
          go_ret2
          obtain rfl : k = n := by omega
          exact ⟨ret_ib9 (by rw [suR_yes HY.out, ← HN.out]) HY.out.symm, hb⟩
set_option maxHeartbeats 2000000 in
set_option maxRecDepth 100000 in
theorem implSupportOf_any (w : World) (B : Nat) (v : Value) (l : List Tm) (x y : Int) (h : RyS w B v l) : Calls Try.prog 43 #[v, .int .i64 x, .int .i64 y] w fun e w' => e = .returned (.tuple #[.int .i64 (suR l x y), .bool (suB l x y)]) ∧ Below w.heap.size w w' := by
  have HI := Lib.hid (isStar_any w B v l h)
  cases hl : ryB l
  · have HN := Lib.hid (suB_no1 (x := x) (y := y) hl)
    rw [hl] at HI
    clear hl h
    go_enter Try.func43, Try.ntmps43
    go_wp2_with fail
    refine HI.out.mono ?_
    rintro e w1 ⟨rfl, b1⟩
    go_wp2
    go_ret2
    exact ⟨ret_ib9 (suR_no HN.out).symm HN.out.symm, b1⟩
  · have HSB := Lib.hid (suB_is (x := x) (y := y) hl)
    have HSS := Lib.hid (fun W => areSteps_any x y W)
    rw [hl] at HI
    cases hs : okS x y
    · have HN := Lib.hid (HSB.out.trans hs)
      rw [hs] at HSS
      clear hl h hs HSB
      go_enter Try.func43, Try.ntmps43
      go_wp2_with fail
      refine HI.out.mono ?_
      rintro e w1 ⟨rfl, b1⟩
      go_wp2_with fail
      refine (HSS.out _).mono ?_
      rintro e w' ⟨rfl, rfl⟩
      go_wp2
      go_ret2
      exact ⟨ret_ib9 (suR_no HN.out).symm HN.out.symm, b1⟩
    · have HY := Lib.hid (HSB.out.trans hs)
      rw [hs] at HSS
      obtain ⟨x1, x2, y1, y2, -⟩ := (okS_iff _ _).1 hs
      have HXY := Lib.hid (And.intro (And.intro x1 x2) (And.intro y1 y2))
      obtain ⟨A, cap, rfl, hm, hp⟩ := RyS.parts h
      have HP := Lib.hid hp
      obtain ⟨n, hn⟩ : ∃ n, n = l.length := ⟨_, rfl⟩
      have HN := Lib.hid hn
      have hle := ryB_le hl
      have HL := Lib.hid hl
      rw [← hn] at hm hle HI ⊢
      clear hp h hn hm hl hs x1 x2 y1 y2 HSB
      go_enter Try.func43, Try.ntmps43
      go_wp2_with fail
      refine HI.out.mono ?_
      rintro e w1 ⟨rfl, b1⟩
      go_wp2_with fail
      refine (HSS.out _).mono ?_
      rintro e w' ⟨rfl, rfl⟩
      go_wp2
      go_loopw [8, 22] (fun s i wr => ∃ k : Nat, k ≤ n ∧ s = .int .i64 (spA l x y k) ∧ i = .int .i64 k ∧ Below w.heap.size w wr) (fun _ i _ => n - (intOf i).toNat)
      case atStart => exact ⟨0, by omega, rfl, rfl, b1⟩
      case round =>
        obtain ⟨k, hk, rfl, rfl, hb⟩ := hrel
        by_cases hlt : k < n
        · have hkl : k < l.length := by rw [← HN.out]; exact hlt
          obtain ⟨g, rfl, hc0⟩ := HP.out k hkl
          have hc := X3.below hc0 hb
          have s1 := spA_bd HL.out HXY.out.1 HXY.out.2 k (by omega)
          obtain ⟨p1, p2, p3, p4⟩ := sp_bd (ryB_at HL.out hkl) HXY.out.1 HXY.out.2
          have p6 := (ryT_parts (ryB_at HL.out hkl)).2.2.2.2.2.1
          have HX := Lib.hid (sp_next l x y k)
          generalize spA l x y k = S at s1 HX ⊢
          generalize td l k = t at hc p1 p2 p3 p4 p6 HX
          obtain ⟨a, b, c⟩ := t
          dsimp only at hc p1 p2 p3 p4 p6 HX
          rw [← max_mul (show 0 ≤ c by omega)] at HX p4
          have q1 : IntKind.i64.wrap (a * x) = a * x := IntWalk.i64_in _ (by omega)
          have q2 : IntKind.i64.wrap (b * y) = b * y := IntWalk.i64_in _ (by omega)
          have q3 : IntKind.i64.wrap (a * x + b * y) = a * x + b * y := IntWalk.i64_in _ (by omega)
          have q4 : IntKind.i64.wrap (c * (a * x + b * y)) = c * (a * x + b * y) := IntWalk.i64_in _ (by omega)
          have q5 : IntKind.i64.wrap (S + max 0 (c * (a * x + b * y))) = S + max 0 (c * (a * x + b * y)) := IntWalk.i64_in _ (by omega)
          have hM : (if 0 < c * (a * x + b * y) then c * (a * x + b * y) else 0) = max 0 (c * (a * x + b * y)) := by split <;> omega
          obtain ⟨c0, c1, c2⟩ := hc
          have hbA := hb.alloc hb.size (.cells #[.int .i64 a, .int .i64 b, .int .i64 c] 39)
          have hgl : g < wr.heap.size := cell_lt c0
          clear hc0 s1 p1 p2 p3 p4 p6
          go_wp2
          all_goals
            go_roundw
            case rel => exact ⟨k + 1, by omega, by rw [HX.out], by go_num, hbA⟩
            case measure => simp [intOf]; omega
        · go_wp2
          go_ret2
          obtain rfl : k = n := by omega
          exact ⟨ret_ib9 (by rw [suR_yes HY.out, ← HN.out]) HY.out.symm, hb⟩
end Go.Proofs.Ythegkifhbgopoaa

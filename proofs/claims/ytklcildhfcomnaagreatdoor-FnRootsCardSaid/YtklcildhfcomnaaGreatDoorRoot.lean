/-
  Points and corners, in the program and in the model: what each call returns.
-/
import Derived.Test.YtklcildhfcomnaaGreatDoorRootM
import Derived.Test.YtklcildhfcomnaaGreatDoorPolyC
namespace Go.Proofs.YtklcildhfcomnaaGreatDoor
set_option linter.unusedSimpArgs false
set_option linter.unusedVariables false
open Go.ChangeShapes Go.WideShapes Go.ChangeAt Go.RowKit

/-- Without its last element, an owned row is one still. -/
theorem IS.pop {w : World} {B : Nat} {v : Value} {xs : List Int} {x : Int} (h : IS w B v (xs ++ [x])) : ∃ g cap, v = .slice (some ⟨g, 0, none⟩) (xs.length + 1) cap ∧ B ≤ g ∧ xs.length + 1 ≤ cap ∧ cap ≤ maxLen ∧ IS w B (.slice (some ⟨g, 0, none⟩) xs.length cap) xs := by
  unfold IS at h ⊢
  obtain ⟨h0, h1⟩ := h
  rcases h1 with ⟨-, hn⟩ | ⟨g, cap, cur, rfl, hb, hg, hn, hm, hc, ht⟩
  · simp at hn
  · rw [List.length_append, List.length_singleton] at hn ht
    refine ⟨g, cap, by simp, hb, hn, hm, by simp [ints], .inr ⟨g, cap, cur, rfl, hb, hg, by omega, hm, hc, ?_⟩⟩
    have := congrArg (List.take xs.length) ht
    rw [List.take_take, Nat.mul_one, Nat.min_eq_left (by omega)] at this
    rw [Nat.mul_one, this, ints, List.map_append]
    exact List.take_left' (by simp)
def slN : Value → Nat
  | .slice _ n _ => n
  | _ => 0
theorem IS.slN {w : World} {B : Nat} {v : Value} {xs : List Int} (h : IS w B v xs) : slN v = xs.length := by
  obtain ⟨A, cap, rfl, -, -⟩ := h.parts; rfl
theorem pts_no {zs : List Int} {k : Nat} (h : (gd zs k == 1000000000) = true) : pts zs (k + 1) = pts zs k := by rw [pts_next, if_pos h, List.append_nil]
theorem pts_yes {zs : List Int} {k : Nat} (h : (gd zs k == 1000000000) = false) : pts zs (k + 1) = pts zs k ++ [(k : Int)] := by rw [pts_next, if_neg (by simp [h])]
set_option maxHeartbeats 400000 in
set_option maxRecDepth 100000 in
theorem rtPoints_any (w : World) (B : Nat) (v : Value) (zs : List Int) (h : IS w B v zs) (hl : zs.length ≤ 13) : Calls Tryz.prog 66 #[v] w fun e w' => GivesI (pts zs zs.length) w e w' := by
  obtain ⟨A, cap, rfl, hm, hp⟩ := h.parts
  have HP := Lib.hid hp
  clear hp h hm
  obtain ⟨i0, hi, hz0, hz1, hz2⟩ := info_parts infoInt
  go_enter Tryz.func66, Tryz.ntmps66
  go_wp2
  go_loopw [3, 8] (fun o i wr => ∃ k : Nat, k ≤ zs.length ∧ i = .int .i64 k ∧ IS wr w.heap.size o (pts zs k) ∧ Below w.heap.size w wr) (fun _ i _ => zs.length - (intOf i).toNat)
  case atStart => exact ⟨0, by omega, rfl, IS.nil_ _ _, Below.refl _ _⟩
  case round =>
    obtain ⟨k, hk, rfl, ho, hb⟩ := hrel
    by_cases hlt : k < zs.length
    · obtain ⟨g, rfl, hc0⟩ := HP.out k hlt
      have hc := (hb.cell (p := ⟨g, k, none⟩) (cell_lt hc0)).trans hc0
      clear hc0
      cases hn : gd zs k == 1000000000
      · have HTN := Lib.hid (pts_yes hn)
        obtain ⟨u, hu⟩ : ∃ u, u = (pts zs k).length := ⟨_, rfl⟩
        have hul : u ≤ k := by rw [hu]; exact pts_len _ _
        have ho' : wr.ownsRow w.heap.size 3 1 u3 u (ints (pts zs k)) := by have := ho; unfold IS at this; rwa [← hu] at this
        go_wp2_with (at_builtin; refine wpList_append_own _ rfl _ _ 23 rfl w.heap.size 3 i0 (.int .i64 0) 1 8 Tryz.underlying23 hi hz0 hz1 hz2 rfl (by decide) _ _ _ rfl (ho'.alloc _) ⟨wr.heap.size, 0, none⟩ 1 1 [.int .i64 (k : Int)] rfl rfl (one_new _ _) (by simp [Value.oneCell']) (by unfold maxLen; omega) (by omega) (by have := hb.size; simp; omega) ?_; intro v' w1 hown' hgrow hnil)
        have hb' : Below w.heap.size w w1 := (hb.alloc hb.size _).grown hgrow (by have := hb.size; simp; omega) (fun g' hg' => (World.ownsRow.lt ho' g' hg').1)
        have hrow := IS.snoc hu hown'
        rw [← HTN.out] at hrow
        go_wp2
        go_roundw
        case rel => exact ⟨k + 1, by omega, by go_num, hrow, hb'⟩
        case measure => simp [intOf]; omega
      · have HTN := Lib.hid (pts_no hn)
        go_wp2
        go_roundw
        case rel => exact ⟨k + 1, by omega, by go_num, by rw [HTN.out]; exact ho, hb⟩
        case measure => simp [intOf]; omega
    · go_wp2
      go_ret
      obtain rfl : k = zs.length := by omega
      exact ⟨_, rfl, ho, hb⟩
set_option maxHeartbeats 400000 in
set_option maxRecDepth 100000 in
theorem exponentsOf_any (w : World) (B : Nat) (v : Value) (zs : List Int) (h : IS w B v zs) (hl : zs.length ≤ 13) : Calls Tryz.prog 62 #[v] w fun e w' => GivesI (pts zs zs.length) w e w' := by
  obtain ⟨A, cap, rfl, hm, hp⟩ := h.parts
  have HP := Lib.hid hp
  clear hp h hm
  obtain ⟨i0, hi, hz0, hz1, hz2⟩ := info_parts infoInt
  go_enter Tryz.func62, Tryz.ntmps62
  go_wp2
  go_loopw [3, 8] (fun o i wr => ∃ k : Nat, k ≤ zs.length ∧ i = .int .i64 k ∧ IS wr w.heap.size o (pts zs k) ∧ Below w.heap.size w wr) (fun _ i _ => zs.length - (intOf i).toNat)
  case atStart => exact ⟨0, by omega, rfl, IS.nil_ _ _, Below.refl _ _⟩
  case round =>
    obtain ⟨k, hk, rfl, ho, hb⟩ := hrel
    by_cases hlt : k < zs.length
    · obtain ⟨g, rfl, hc0⟩ := HP.out k hlt
      have hc := (hb.cell (p := ⟨g, k, none⟩) (cell_lt hc0)).trans hc0
      clear hc0
      cases hn : gd zs k == 1000000000
      · have HTN := Lib.hid (pts_yes hn)
        obtain ⟨u, hu⟩ : ∃ u, u = (pts zs k).length := ⟨_, rfl⟩
        have hul : u ≤ k := by rw [hu]; exact pts_len _ _
        have ho' : wr.ownsRow w.heap.size 3 1 u3 u (ints (pts zs k)) := by have := ho; unfold IS at this; rwa [← hu] at this
        go_wp2_with (at_builtin; refine wpList_append_own _ rfl _ _ 23 rfl w.heap.size 3 i0 (.int .i64 0) 1 8 Tryz.underlying23 hi hz0 hz1 hz2 rfl (by decide) _ _ _ rfl (ho'.alloc _) ⟨wr.heap.size, 0, none⟩ 1 1 [.int .i64 (k : Int)] rfl rfl (one_new _ _) (by simp [Value.oneCell']) (by unfold maxLen; omega) (by omega) (by have := hb.size; simp; omega) ?_; intro v' w1 hown' hgrow hnil)
        have hb' : Below w.heap.size w w1 := (hb.alloc hb.size _).grown hgrow (by have := hb.size; simp; omega) (fun g' hg' => (World.ownsRow.lt ho' g' hg').1)
        have hrow := IS.snoc hu hown'
        rw [← HTN.out] at hrow
        go_wp2
        go_roundw
        case rel => exact ⟨k + 1, by omega, by go_num, hrow, hb'⟩
        case measure => simp [intOf]; omega
      · have HTN := Lib.hid (pts_no hn)
        go_wp2
        go_roundw
        case rel => exact ⟨k + 1, by omega, by go_num, by rw [HTN.out]; exact ho, hb⟩
        case measure => simp [intOf]; omega
    · go_wp2
      go_ret
      obtain rfl : k = zs.length := by omega
      exact ⟨_, rfl, ho, hb⟩
/-! ### The stack of the model -/
/-- What the exponents on a stack are. -/
def Stk (zs : List Int) (k : Int) (s : List Int) : Prop := Cx zs s ∧ ∀ x ∈ s, 0 ≤ x ∧ x < k ∧ x < zs.length ∧ -1000000 ≤ pv zs x ∧ pv zs x ≤ 1000000
theorem Stk.tail {zs : List Int} {k j : Int} {s : List Int} (h : Stk zs k (j :: s)) : Stk zs k s := ⟨h.1.tail, fun x hx => h.2 x (List.mem_cons_of_mem _ hx)⟩
theorem stk_of {zs : List Int} (hz : poB zs = true) {n : Nat} (hn : n < (pts zs zs.length).length) : Stk zs (gd (pts zs zs.length) n) (corR zs ((pts zs zs.length).take n)) := by
  have hs := pts_sorted zs zs.length
  refine ⟨corR_cx _ (hs.sublist (List.take_sublist _ _)), fun x hx => ?_⟩
  have hm := corR_sub _ x hx
  have hk := pts_mem.1 (List.mem_of_mem_take hm)
  refine ⟨hk.1, ?_, hk.2.1, pv_fin hz hk.1 hk.2.1 hk.2.2⟩
  rw [← List.take_append_drop n (pts zs zs.length), List.pairwise_append] at hs
  refine hs.2.2 x hm _ ?_
  rw [gd_eq _ n hn]
  exact List.mem_drop_iff_getElem.2 ⟨0, by simpa using hn, by simp⟩
theorem pts_at {zs : List Int} (hz : poB zs = true) {n : Nat} (hn : n < (pts zs zs.length).length) : ∃ k : Nat, gd (pts zs zs.length) n = k ∧ k < zs.length ∧ -1000000 ≤ gd zs k ∧ gd zs k ≤ 1000000 := by
  have hm := pts_mem.1 (gd_mem hn)
  have hf := pv_fin hz hm.1 hm.2.1 hm.2.2
  refine ⟨(gd (pts zs zs.length) n).toNat, by omega, by omega, ?_⟩
  exact hf
theorem rev_two {j i : Int} {t : List Int} : gd (j :: i :: t).reverse (t.length + 1) = j ∧ gd (j :: i :: t).reverse t.length = i := by
  rw [List.reverse_cons, gd_app_r (by simp), gd_app_l (by simp), List.reverse_cons, gd_app_r (by simp)]
  exact ⟨rfl, rfl⟩
set_option maxHeartbeats 1000000 in
set_option maxRecDepth 100000 in
theorem rtCorners_any (w : World) (B : Nat) (v : Value) (zs : List Int) (h : IS w B v zs) (hz : poB zs = true) : Calls Tryz.prog 27 #[v] w fun e w' => GivesI (corL zs) w e w' := by
  have hl := (po_parts hz).2.2.1
  have HZ := Lib.hid hz
  have H := Lib.hid h
  obtain ⟨A, cap, rfl, hm, hp⟩ := h.parts
  have HP := Lib.hid hp
  clear hp h hm hz
  obtain ⟨i0, hi, hz0, hz1, hz2⟩ := info_parts infoInt
  go_enter Tryz.func27, Tryz.ntmps27
  go_wp2_with fail
  refine (rtPoints_any _ B _ zs H.out hl).mono ?_
  rintro e w1 ⟨r, rfl, hr, hb1⟩
  obtain ⟨ps, hps⟩ : ∃ ps, ps = pts zs zs.length := ⟨_, rfl⟩
  have hpl : ps.length ≤ 13 := by rw [hps]; exact Nat.le_trans (pts_len _ _) hl
  rw [← hps] at hr
  have HS := Lib.hid hps
  clear hps
  obtain ⟨A2, cap2, rfl, -, hp2⟩ := hr.parts
  have HP2 := Lib.hid hp2
  clear hp2
  go_wp2
  go_loopw [3, 11] (fun o i wr => ∃ n : Nat, n ≤ ps.length ∧ i = .int .i64 n ∧ IS wr w1.heap.size o (corR zs (ps.take n)).reverse ∧ Below w1.heap.size w1 wr) (fun _ i _ => ps.length - (intOf i).toNat)
  case atStart => exact ⟨0, by omega, rfl, IS.nil_ _ _, Below.refl _ _⟩
  case round =>
    obtain ⟨n, hn, rfl, ho, hb⟩ := hrel
    by_cases hlt : n < ps.length
    · obtain ⟨g, rfl, hc0⟩ := HP2.out n hlt
      have hc := (hb.cell (p := ⟨g, n, none⟩) (cell_lt hc0)).trans hc0
      clear hc0
      obtain ⟨k, hk, hkl, hk1, hk2⟩ := pts_at HZ.out (n := n) (by rw [← HS.out]; exact hlt)
      rw [← HS.out] at hk
      rw [hk] at hc
      obtain ⟨s0, hs0⟩ : ∃ s0, s0 = corR zs (ps.take n) := ⟨_, rfl⟩
      have hst : Stk zs k s0 := by rw [hs0, ← hk, HS.out]; exact stk_of HZ.out (by rw [← HS.out]; exact hlt)
      have hsl : s0.length ≤ n := by rw [hs0]; exact Nat.le_trans (corR_len _ _) (by simp; omega)
      rw [← hs0] at ho
      have HN := Lib.hid (show corR zs (ps.take (n + 1)) = (k : Int) :: popR zs k s0 by rw [take_succ_gd ps n hlt, corR_next, ← hs0, hk])
      clear hs0 hk
      go_wp2
      go_loopw [3] (fun o wr2 => ∃ s, IS wr2 w1.heap.size o s.reverse ∧ Stk zs k s ∧ s.length ≤ n ∧ Hid (popR zs k s = popR zs k s0) ∧ Below w1.heap.size w1 wr2) (fun o _ => slN o)
      case atStart => exact ⟨s0, ho, hst, hsl, Lib.hid rfl, hb⟩
      case round =>
        obtain ⟨s, ho2, hst2, hsl2, hpop, hb2⟩ := hrel
        clear ho hst hsl hb
        have done : s.length < 2 ∨ (∃ j i t, s = j :: i :: t) := by
          match s with
          | [] => exact .inl (by simp)
          | [_] => exact .inl (by simp)
          | j :: i :: t => exact .inr ⟨j, i, t, rfl⟩
        rcases done with hsh | ⟨j, i, t, rfl⟩
        · have HPS := Lib.hid (popR_short (zs := zs) (k := (k : Int)) hsh)
          obtain ⟨u, hu⟩ : ∃ u, u = s.length := ⟨_, rfl⟩
          rw [← hu] at hsh hsl2
          obtain ⟨A3, cap3, hv, -, -⟩ := ho2.parts
          rw [List.length_reverse, ← hu] at hv
          subst hv
          have HU := Lib.hid hu
          clear hu
          have HR := Lib.hid (show (corR zs (ps.take (n + 1))).reverse = (s).reverse ++ [(k : Int)] by rw [HN.out, ← hpop.out, HPS.out, List.reverse_cons])
          have ho3 : wr.ownsRow w1.heap.size 3 1 (.slice A3 u cap3) u (ints (s).reverse) := by have := ho2; unfold IS at this; rw [List.length_reverse, ← HU.out] at this; exact this
          go_wp2_with (at_builtin; refine wpList_append_own _ rfl _ _ 23 rfl w1.heap.size 3 i0 (.int .i64 0) 1 8 Tryz.underlying23 hi hz0 hz1 hz2 rfl (by decide) _ _ _ rfl (ho3.alloc _) ⟨wr.heap.size, 0, none⟩ 1 1 [.int .i64 (k : Int)] rfl rfl (one_new _ _) (by simp [Value.oneCell']) (by unfold maxLen; omega) (by omega) (by have := hb2.size; simp; omega) ?_; intro v' w2 hown' hgrow hnil)
          have hb' : Below w1.heap.size w1 w2 := (hb2.alloc hb2.size _).grown hgrow (by have := hb2.size; simp; omega) (fun g' hg' => (World.ownsRow.lt ho3 g' hg').1)
          have hrow := IS.snoc (by rw [List.length_reverse]; exact HU.out) hown'
          rw [← HR.out] at hrow
          go_wp2
          go_roundw
          case rel => exact ⟨n + 1, by omega, by go_num, hrow, hb'⟩
          case measure => simp [intOf]; omega
        · obtain ⟨j1, j2, j3, j4, j5⟩ := hst2.2 j (by simp)
          obtain ⟨i1, i2, i3, i4, i5⟩ := hst2.2 i (by simp)
          have hij := hst2.1.lt
          obtain ⟨j, rfl⟩ : ∃ jn : Nat, j = jn := ⟨j.toNat, by omega⟩
          obtain ⟨i, rfl⟩ : ∃ jn : Nat, i = jn := ⟨i.toNat, by omega⟩
          obtain ⟨u, hu⟩ : ∃ u, u = t.length + 2 := ⟨_, rfl⟩
          have hsl3 : u ≤ n := by simp at hsl2; omega
          obtain ⟨A3, cap3, hv, -, hp3⟩ := ho2.parts
          rw [List.length_reverse, List.length_cons, List.length_cons, ← hu] at hv
          subst hv
          obtain ⟨g3, rfl, cj⟩ := hp3 (u - 1) (by simp; omega)
          obtain ⟨g4, hg4, ci⟩ := hp3 (u - 2) (by simp; omega)
          cases hg4
          obtain ⟨rv1, rv2⟩ := rev_two (j := (j : Int)) (i := i) (t := t)
          rw [show u - 1 = t.length + 1 by omega, rv1] at cj
          rw [show u - 2 = t.length by omega, rv2] at ci
          have HU := Lib.hid hu
          have h2u : 2 ≤ u := by omega
          clear hu rv1 rv2 hp3
          obtain ⟨gp, rfl, pj0⟩ := HP.out j (by omega)
          obtain ⟨gp', hgp, pi0⟩ := HP.out i (by omega)
          cases hgp
          obtain ⟨gp', hgp, pk0⟩ := HP.out k (by omega)
          cases hgp
          have B2 := bel2 hb1 hb2
          have pj := (B2.cell (cell_lt pj0)).trans pj0
          have pi := (B2.cell (cell_lt pi0)).trans pi0
          have pk := (B2.cell (cell_lt pk0)).trans pk0
          clear pj0 pi0 pk0
          simp only [pv, Int.toNat_natCast] at i4 i5 j4 j5
          have m1 := mul12 (a := gd zs j - gd zs i) (d := (k : Int) - i) (M := 2000000) (by omega) (by omega) (by omega)
          have m2 := mul12 (a := gd zs k - gd zs i) (d := (j : Int) - i) (M := 2000000) (by omega) (by omega) (by omega)
          have HC := Lib.hid (show corB zs i j k = decide ((gd zs j - gd zs i) * ((k : Int) - i) < (gd zs k - gd zs i) * ((j : Int) - i)) from rfl)
          obtain ⟨X, hX⟩ : ∃ X, X = (gd zs j - gd zs i) * ((k : Int) - i) := ⟨_, rfl⟩
          obtain ⟨Y, hY⟩ : ∃ Y, Y = (gd zs k - gd zs i) * ((j : Int) - i) := ⟨_, rfl⟩
          rw [← hX] at m1
          rw [← hY] at m2
          have q1 : IntKind.i64.wrap (gd zs j - gd zs i) = gd zs j - gd zs i := IntWalk.i64_in _ (by omega)
          have q2 : IntKind.i64.wrap ((k : Int) - i) = (k : Int) - i := IntWalk.i64_in _ (by omega)
          have q3 : IntKind.i64.wrap ((gd zs j - gd zs i) * ((k : Int) - i)) = X := by rw [← hX]; exact IntWalk.i64_in _ (by omega)
          have q4 : IntKind.i64.wrap (gd zs k - gd zs i) = gd zs k - gd zs i := IntWalk.i64_in _ (by omega)
          have q5 : IntKind.i64.wrap ((j : Int) - i) = (j : Int) - i := IntWalk.i64_in _ (by omega)
          have q6 : IntKind.i64.wrap ((gd zs k - gd zs i) * ((j : Int) - i)) = Y := by rw [← hY]; exact IntWalk.i64_in _ (by omega)
          have q7 : IntKind.i64.wrap ((u : Int) - 2) = ((u - 2 : Nat) : Int) := by rw [IntWalk.i64_in _ (by omega)]; omega
          have q8 : IntKind.i64.wrap ((u : Int) - 1) = ((u - 1 : Nat) : Int) := by rw [IntWalk.i64_in _ (by omega)]; omega
          rw [show t.length + 1 = u - 1 by have := HU.out; omega] at cj
          rw [show t.length = u - 2 by have := HU.out; omega] at ci
          have l1 : u - 2 < u := by omega
          have l2 : u - 1 < u := by omega
          rw [← hX, ← hY] at HC
          clear hX hY
          by_cases key : X < Y
          · have HPS := Lib.hid (popR_stop (t := t) (HC.out.trans (by simpa using key)))
            have HR := Lib.hid (show (corR zs (ps.take (n + 1))).reverse = ((j : Int) :: (i : Int) :: t).reverse ++ [(k : Int)] by rw [HN.out, ← hpop.out, HPS.out, List.reverse_cons])
            have ho3 : wr.ownsRow w1.heap.size 3 1 (.slice (some ⟨g3, 0, none⟩) u cap3) u (ints ((j : Int) :: (i : Int) :: t).reverse) := by have := ho2; unfold IS at this; rw [List.length_reverse, List.length_cons, List.length_cons, ← HU.out] at this; exact this
            go_wp2
            go_quiet (fail)
            go_wp2
            go_quiet (fail)
            clear q1 q2 q3 q4 q5 q6 q7 q8
            go_wp2_with (at_builtin; refine wpList_append_own _ rfl _ _ 23 rfl w1.heap.size 3 i0 (.int .i64 0) 1 8 Tryz.underlying23 hi hz0 hz1 hz2 rfl (by decide) _ _ _ rfl (ho3.alloc _) ⟨wr.heap.size, 0, none⟩ 1 1 [.int .i64 (k : Int)] rfl rfl (one_new _ _) (by simp [Value.oneCell']) (by unfold maxLen; omega) (by omega) (by have := hb2.size; simp; omega) ?_; intro v' w2 hown' hgrow hnil)
            have hb' : Below w1.heap.size w1 w2 := ((belN hb2 _).alloc hb2.size _).grown hgrow (by have := hb2.size; simp; omega) (fun g' hg' => (World.ownsRow.lt ho3 g' hg').1)
            have hrow := IS.snoc (by rw [List.length_reverse]; exact HU.out) hown'
            rw [← HR.out] at hrow
            go_wp2
            go_roundw
            case rel => exact ⟨n + 1, by omega, by go_num, hrow, hb'⟩
            case measure => simp [intOf]; omega
          · have HPS := Lib.hid (popR_more (t := t) (HC.out.trans (by simpa using key)))
            have ho4 := ho2
            rw [List.reverse_cons] at ho4
            obtain ⟨g5, cap5, hv5, -, hn5, -, hpop5⟩ := ho4.pop
            have e5 : g5 = g3 ∧ cap5 = cap3 := by injection hv5 with e1 e2 e3; injection e1 with e1; injection e1 with e1; exact ⟨e1.symm, e3.symm⟩
            obtain ⟨rfl, rfl⟩ := e5
            rw [List.length_reverse, List.length_cons, show t.length + 1 = u - 1 by have := HU.out; omega] at hpop5 hn5
            clear ho4 hv5
            go_wp2
            go_quiet (fail)
            go_wp2
            go_quiet (fail)
            clear q1 q2 q3 q4 q5 q6 q7 q8
            go_wp2
            go_roundw
            case rel => exact ⟨(i : Int) :: t, hpop5, hst2.tail, by simp only [List.length_cons] at hsl2 ⊢; omega, Lib.hid (HPS.out.symm.trans hpop.out), belN hb2 _⟩
            case measure => simp only [slN]; omega
    · go_wp2
      go_ret
      obtain rfl : n = ps.length := by omega
      rw [List.take_length, HS.out] at ho
      exact ⟨_, rfl, ho.base hb1.size, bel2 hb1 hb⟩
end Go.Proofs.YtklcildhfcomnaaGreatDoor

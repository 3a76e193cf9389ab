/-
  The stack of the program, its four methods; which elements stay in it.
-/
import Derived.Test.YtklcildhfcomnaaGreatDoorRoot
import Derived.Test.YtklcildhfcomnaaGreatDoorPolyB
namespace Go.Proofs.YtklcildhfcomnaaGreatDoor
set_option linter.unusedSimpArgs false
set_option linter.unusedVariables false
open Go.ChangeShapes Go.WideShapes Go.ChangeAt Go.RowKit

/-- A stack of a call's own in block B, its top first; its row lies behind. -/
def St (B : Nat) (wr : World) (s : List Int) : Prop := ∃ v, wr.cell? ⟨B, 0, none⟩ = some v ∧ wr.frozen? ⟨B, 0, none⟩ = false ∧ IS wr (B + 1) v s.reverse
theorem St.lt {B : Nat} {wr : World} {s : List Int} (h : St B wr s) : B < wr.heap.size := by
  obtain ⟨v, hv, -⟩ := h; exact cell_lt hv
theorem St.below {B : Nat} {w w' : World} {s : List Int} (h : St B w s) (hb : Below w.heap.size w w') : St B w' s := by
  have hl := h.lt
  obtain ⟨v, hv, hf, hr⟩ := h
  exact ⟨v, (hb.cell (p := ⟨B, 0, none⟩) hl).trans hv, (World.frozen?_of_block (hb.block B hl)).trans hf, hr.below hb⟩
theorem St.drewN {B : Nat} {w : World} {s : List Int} (h : St B w s) (n : Nat) : St B (w.drewN n) s := h
theorem belK {B : Nat} {w w1 : World} (h : Below B w w1) (n : Nat) : Below B w (w1.drewN n) := ⟨h.os, h.tape, h.output, h.size, h.block⟩
/-- How many elements it has. -/
def stN (B : Nat) (w : World) : Nat := slN ((w.cell? ⟨B, 0, none⟩).getD undef)
theorem St.stN {B : Nat} {w : World} {s : List Int} (h : St B w s) : stN B w = s.length := by
  obtain ⟨v, hv, -, hr⟩ := h
  unfold Go.Proofs.YtklcildhfcomnaaGreatDoor.stN
  rw [hv]
  exact hr.slN.trans List.length_reverse
theorem stSize_any (B : Nat) (wr : World) (s : List Int) (h : St B wr s) : Calls Tryz.prog 88 #[.pointer (some ⟨B, 0, none⟩)] wr fun e w' => e = .returned (.int .i64 s.length) ∧ wr = w' := by
  obtain ⟨v, hv, -, hr⟩ := h
  obtain ⟨A, cap, rfl, -, -⟩ := hr.parts
  rw [List.length_reverse] at hv
  clear hr
  go_enter Tryz.func88, Tryz.ntmps88
  go_wp2
  go_ret
  exact ⟨rfl, rfl⟩
set_option maxRecDepth 100000 in
theorem stLastTwo_any (B : Nat) (wr : World) (j i : Int) (t : List Int) (h : St B wr (j :: i :: t)) (ht : t.length ≤ 13) : Calls Tryz.prog 89 #[.pointer (some ⟨B, 0, none⟩)] wr fun e w' => e = .returned (.tuple #[.int .i64 i, .int .i64 j]) ∧ ∃ n, w' = wr.drewN n := by
  obtain ⟨v, hv, -, hr⟩ := h
  obtain ⟨u, hu⟩ : ∃ u, u = t.length + 2 := ⟨_, rfl⟩
  obtain ⟨A, cap, rfl, -, hp⟩ := hr.parts
  rw [List.length_reverse, List.length_cons, List.length_cons, ← hu] at hv
  obtain ⟨g, rfl, cj⟩ := hp (u - 1) (by simp; omega)
  obtain ⟨g', hg', ci⟩ := hp (u - 2) (by simp; omega)
  cases hg'
  obtain ⟨rv1, rv2⟩ := rev_two (j := j) (i := i) (t := t)
  rw [show u - 1 = t.length + 1 by omega, rv1, show t.length + 1 = u - 1 by omega] at cj
  rw [show u - 2 = t.length by omega, rv2, show t.length = u - 2 by omega] at ci
  have hu2 : 2 ≤ u := by omega
  have hu3 : u ≤ 20 := by omega
  clear hu rv1 rv2 hp hr ht
  have q7 : IntKind.i64.wrap ((u : Int) - 2) = ((u - 2 : Nat) : Int) := by rw [IntWalk.i64_in _ (by omega)]; omega
  have q8 : IntKind.i64.wrap ((u : Int) - 1) = ((u - 1 : Nat) : Int) := by rw [IntWalk.i64_in _ (by omega)]; omega
  have l1 : u - 2 < u := by omega
  have l2 : u - 1 < u := by omega
  go_enter Tryz.func89, Tryz.ntmps89
  go_wp2
  go_quiet (fail)
  go_wp2
  go_ret2
  exact ⟨rfl, _, rfl⟩
set_option maxRecDepth 100000 in
set_option maxHeartbeats 1000000 in
theorem stPop_any (B : Nat) (wr : World) (j : Int) (t : List Int) (h : St B wr (j :: t)) (ht : t.length ≤ 13) : Calls Tryz.prog 90 #[.pointer (some ⟨B, 0, none⟩)] wr fun e w' => e = .returned (.tuple #[]) ∧ St B w' t ∧ Below B wr w' := by
  obtain ⟨v, hv, hf, hr⟩ := h
  rw [List.reverse_cons] at hr
  obtain ⟨g, cap, rfl, hg, hn, hm, hpop⟩ := hr.pop
  obtain ⟨u, hu⟩ : ∃ u, u = t.length := ⟨_, rfl⟩
  rw [List.length_reverse, ← hu] at hv hn hpop
  have HP := Lib.hid (And.intro hpop (And.intro hv hf))
  have HG := Lib.hid hg
  have hu3 : u ≤ 20 := by omega
  have q8 : IntKind.i64.wrap ((u : Int) + 1 - 1) = (u : Int) := by rw [IntWalk.i64_in _ (by omega)]; omega
  have q9 : IntKind.i64.wrap (((u + 1 : Nat) : Int) - 1) = (u : Int) := by rw [IntWalk.i64_in _ (by omega)]; omega
  have hle : u ≤ cap := by omega
  clear hu hr hpop ht hg
  go_enter Tryz.func90, Tryz.ntmps90
  go_region
  all_goals (try go_wp2)
  all_goals go_end0
  all_goals
    obtain ⟨hpop, hv0, hf0⟩ := HP.out
    refine ⟨rfl, ⟨_, World.cell?_setCell_same _ _ _ hv0, (World.frozen?_setCell _ _ _ _).trans hf0, ?_⟩, ((Below.refl B wr).setCell (Nat.le_refl B) _).drew⟩
    exact ownsRow_setCell_below hpop (a := ⟨B, 0, none⟩) (by show B < B + 1; omega) _
theorem grown_cell {B : Nat} {wr w1 : World} {v : Value} {row : Option Nat} {o : Obj} (hB : B < wr.heap.size) (hv : wr.cell? ⟨B, 0, none⟩ = some v) (hfz : wr.frozen? ⟨B, 0, none⟩ = false) (hgrow : (wr.alloc o).grownBy w1 row) (hne : some B ≠ row) : w1.cell? ⟨B, 0, none⟩ = some v ∧ w1.frozen? ⟨B, 0, none⟩ = false := by
  refine ⟨hgrow.cell (a := ⟨B, 0, none⟩) ((World.cell?_alloc_past _ _ _ hB).trans hv) hne, ?_⟩
  rw [World.frozen?_of_block (w := wr.alloc o) (hgrow.block B (by simp; omega) hne)]
  exact (World.frozen?_alloc_past _ _ _ hB).trans hfz
set_option maxRecDepth 100000 in
theorem stPush_any (B : Nat) (wr : World) (x : Int) (s : List Int) (h : St B wr s) (hs : s.length ≤ 20) : Calls Tryz.prog 91 #[.pointer (some ⟨B, 0, none⟩), .int .i64 x] wr fun e w' => e = .returned (.tuple #[]) ∧ St B w' (x :: s) ∧ Below B wr w' := by
  have hB := h.lt
  obtain ⟨v, hv, hfz, hr⟩ := h
  obtain ⟨i0, hi, hz0, hz1, hz2⟩ := info_parts infoInt
  obtain ⟨u, hu⟩ : ∃ u, u = s.reverse.length := ⟨_, rfl⟩
  have hu3 : u ≤ 20 := by rw [hu, List.length_reverse]; exact hs
  have hown : wr.ownsRow (B + 1) 3 1 v u (ints s.reverse) := by have := hr; unfold IS at this; rwa [← hu] at this
  have HU := Lib.hid hu
  clear hu hs
  have hne : some B ≠ v.ownBlock := fun h => by have := hown.lt B h.symm; omega
  go_enter Tryz.func91, Tryz.ntmps91
  go_wp2_with (at_builtin; refine wpList_append_own _ rfl _ _ 23 rfl (B + 1) 3 i0 (.int .i64 0) 1 8 Tryz.underlying23 hi hz0 hz1 hz2 rfl (by decide) _ _ _ rfl (hown.alloc _) ⟨wr.heap.size, 0, none⟩ 1 1 [.int .i64 x] rfl rfl (one_new _ _) (by simp [Value.oneCell']) (by unfold maxLen; omega) (by omega) (by simp; omega) ?_; intro v' w1 hown' hgrow hnil; have hrow := IS.snoc HU.out hown'; obtain ⟨A', cap', rfl, -, -⟩ := hrow.parts; obtain ⟨hv1, hf1⟩ := grown_cell hB hv hfz hgrow hne)
  go_end0
  refine ⟨rfl, ⟨_, World.cell?_setCell_same _ _ _ hv1, (World.frozen?_setCell _ _ _ _).trans hf1, ?_⟩, ?_⟩
  · have hl : (s.reverse ++ [x]).length = s.length + 1 := by simp
    have q := ownsRow_setCell_below hrow (a := ⟨B, 0, none⟩) (by show B < B + 1; omega) (.slice A' (s.length + 1) cap')
    rw [List.reverse_cons]
    unfold IS
    rw [hl] at q ⊢
    exact q
  · exact ((((Below.refl B wr).alloc (by omega) _).grown hgrow (by simp; omega) (fun k hk => by have := (hown.lt k hk).1; omega))).setCell (Nat.le_refl B) _
/-- The function value tells of three exponents, the middle one between the others, if it is a corner, whatever was made since. -/
def CorAt (g : Nat) (lb : Array Value) (zs : List Int) (w : World) : Prop := ∀ (W : World) (i j k : Nat), i < j → j < k → k < zs.length → -1000000 ≤ gd zs i → gd zs i ≤ 1000000 → -1000000 ≤ gd zs j → gd zs j ≤ 1000000 → -1000000 ≤ gd zs k → gd zs k ≤ 1000000 → Below w.heap.size w W →
  Calls Tryz.prog g (#[.int .i64 (i : Int), .int .i64 (j : Int), .int .i64 (k : Int)] ++ lb) W fun e w' => e = .returned (.bool (corB zs i j k)) ∧ Below W.heap.size W w'
theorem belT {B : Nat} {w w1 w2 : World} (h : Below B w w1) (h' : Below B w1 w2) : Below B w w2 := h.trans h'
theorem st_new (w : World) (t : TypeId) : St w.heap.size (w.alloc (.cells #[.slice none 0 0] t)) [] :=
  ⟨_, box_new w _ t, by simp, IS.nil_ _ _⟩
set_option maxHeartbeats 1000000 in
set_option maxRecDepth 100000 in
theorem keepCorners_any (w : World) (g : Nat) (lb : Array Value) (eg : Ent g) (B : Nat) (v : Value) (zs ps : List Int) (hps : ps = pts zs zs.length) (hz : poB zs = true) (h : IS w B v ps) (hc : CorAt g lb zs w) :
    Calls Tryz.prog 61 #[v, .func (.func g) #[] lb] w fun e w' => GivesI (corL zs) w e w' := by
  have hl := (po_parts hz).2.2.1
  have HZ := Lib.hid hz
  have hpl : ps.length ≤ 13 := by rw [hps]; exact Nat.le_trans (pts_len _ _) hl
  have HS := Lib.hid hps
  have HC := Lib.hid hc
  obtain ⟨A2, cap2, rfl, -, hp2⟩ := h.parts
  have HP2 := Lib.hid hp2
  have hs0 := st_new w 94
  have hb0 : Below w.heap.size w (w.alloc (.cells #[.slice none 0 0] 94)) := (Below.refl _ _).alloc (Nat.le_refl _) _
  clear hp2 hps hz hc h
  go_enter Tryz.func61, Tryz.ntmps61
  go_wp2
  go_loopw [12] (fun i wr => ∃ n : Nat, n ≤ ps.length ∧ i = .int .i64 n ∧ St w.heap.size wr (corR zs (ps.take n)) ∧ Below w.heap.size w wr) (fun i _ => ps.length - (intOf i).toNat)
  case atStart => exact ⟨0, by omega, rfl, hs0, hb0⟩
  case round =>
    obtain ⟨n, hn, rfl, ho, hb⟩ := hrel
    clear hs0 hb0
    by_cases hlt : n < ps.length
    · obtain ⟨gp, rfl, hc0⟩ := HP2.out n hlt
      have hc := (hb.cell (p := ⟨gp, n, none⟩) (cell_lt hc0)).trans hc0
      clear hc0
      obtain ⟨k, hk, hkl, hk1, hk2⟩ := pts_at HZ.out (n := n) (by rw [← HS.out]; exact hlt)
      rw [← HS.out] at hk
      rw [hk] at hc
      obtain ⟨s0, hs0⟩ : ∃ s0, s0 = corR zs (ps.take n) := ⟨_, rfl⟩
      have hst : Stk zs k s0 := by rw [hs0, ← hk, HS.out]; exact stk_of HZ.out (by rw [← HS.out]; exact hlt)
      have hsl : s0.length ≤ n := by rw [hs0]; exact Nat.le_trans (corR_len _ _) (by simp; omega)
      rw [← hs0] at ho
      have HN := Lib.hid (show corR zs (ps.take (n + 1)) = (k : Int) :: popR zs k s0 by rw [take_succ_gd ps n hlt, corR_next, ← hs0, hk])
      clear hs0 hk
      go_wp2
      go_loopw [8] (fun x wr => ∃ s, St w.heap.size wr s ∧ Stk zs k s ∧ s.length ≤ n ∧ Hid (popR zs k s = popR zs k s0) ∧ Below w.heap.size w wr) (fun _ wr => stN w.heap.size wr)
      case atStart => exact ⟨s0, ho, hst, hsl, Lib.hid rfl, hb⟩
      case round =>
        obtain ⟨s, ho2, hst2, hsl2, hpop, hb2⟩ := hrel
        clear ho hst hsl hb
        have done : s.length < 2 ∨ (∃ j i t, s = j :: i :: t) := by
          match s with
          | [] => exact .inl (by simp)
          | [_] => exact .inl (by simp)
          | j :: i :: t => exact .inr ⟨j, i, t, rfl⟩
        rcases done with hsh | ⟨j, i, t, rfl⟩
        · have HPS := Lib.hid (popR_short (zs := zs) (k := (k : Int)) hsh)
          have HR := Lib.hid (show corR zs (ps.take (n + 1)) = (k : Int) :: s by rw [HN.out, ← hpop.out, HPS.out])
          go_wp2_with fail
          refine (stSize_any _ _ _ ho2).mono ?_
          rintro e w' ⟨rfl, rfl⟩
          go_wp2_with fail
          refine (stPush_any _ _ (k : Int) s ho2 (by omega)).mono ?_
          rintro e w2 ⟨rfl, ho3, b3⟩
          go_wp2
          go_roundw
          case rel => exact ⟨n + 1, by omega, by go_num, by rw [HR.out]; exact ho3, belT hb2 b3⟩
          case measure => simp [intOf]; omega
        · obtain ⟨j1, j2, j3, j4, j5⟩ := hst2.2 j (by simp)
          obtain ⟨i1, i2, i3, i4, i5⟩ := hst2.2 i (by simp)
          have hij := hst2.1.lt
          obtain ⟨j, rfl⟩ : ∃ jn : Nat, j = jn := ⟨j.toNat, by omega⟩
          obtain ⟨i, rfl⟩ : ∃ jn : Nat, i = jn := ⟨i.toNat, by omega⟩
          have htl : t.length ≤ 13 := by simp at hsl2; omega
          have hsn := ho2.stN
          simp only [List.length_cons] at hsn
          have HSN := Lib.hid hsn
          clear hsn
          simp only [pv, Int.toNat_natCast] at i4 i5 j4 j5
          cases hq : corB zs i j k
          · have HPS := Lib.hid (popR_more (t := t) hq)
            have cS := fun (nq : Nat) => HC.out (wr.drewN nq) i j k (by omega) (by omega) hkl i4 i5 j4 j5 hk1 hk2 (belN hb2 nq)
            rw [hq] at cS
            have CS := Lib.hid cS
            clear hq cS
            go_wp2_with fail
            refine (stSize_any _ _ _ ho2).mono ?_
            rintro e w' ⟨rfl, rfl⟩
            go_wp2_with fail
            refine (stLastTwo_any _ _ _ _ t ho2 htl).mono ?_
            rintro e w' ⟨rfl, nq, rfl⟩
            go_wp2_with fail
            refine (CS.out nq).mono ?_
            rintro e w2 ⟨rfl, b3⟩
            have ho4 := (ho2.drewN nq).below b3
            go_wp2_with fail
            refine (stPop_any _ _ _ _ ho4 (by simp at hsl2 ⊢; omega)).mono ?_
            rintro e w3 ⟨rfl, ho5, b5⟩
            have hsn := ho5.stN
            go_wp2
            go_roundw
            case rel => exact ⟨(i : Int) :: t, ho5, hst2.tail, by simp only [List.length_cons] at hsl2 ⊢; omega, Lib.hid (HPS.out.symm.trans hpop.out), belT (bel2 (belN hb2 nq) b3) b5⟩
            case measure => rw [hsn, HSN.out]; simp only [List.length_cons]; omega
          · have HPS := Lib.hid (popR_stop (t := t) hq)
            have HR := Lib.hid (show corR zs (ps.take (n + 1)) = (k : Int) :: (j : Int) :: (i : Int) :: t by rw [HN.out, ← hpop.out, HPS.out])
            have cS := fun (nq : Nat) => HC.out (wr.drewN nq) i j k (by omega) (by omega) hkl i4 i5 j4 j5 hk1 hk2 (belN hb2 nq)
            rw [hq] at cS
            have CS := Lib.hid cS
            clear hq cS
            go_wp2_with fail
            refine (stSize_any _ _ _ ho2).mono ?_
            rintro e w' ⟨rfl, rfl⟩
            go_wp2_with fail
            refine (stLastTwo_any _ _ _ _ t ho2 htl).mono ?_
            rintro e w' ⟨rfl, nq, rfl⟩
            go_wp2_with fail
            refine (CS.out nq).mono ?_
            rintro e w2 ⟨rfl, b3⟩
            have ho4 := (ho2.drewN nq).below b3
            go_wp2_with fail
            refine (stPush_any _ _ (k : Int) _ ho4 (by simp at hsl2 ⊢; omega)).mono ?_
            rintro e w3 ⟨rfl, ho5, b5⟩
            go_wp2
            go_roundw
            case rel => exact ⟨n + 1, by omega, by go_num, by rw [HR.out]; exact ho5, belT (bel2 (belN hb2 nq) b3) b5⟩
            case measure => simp [intOf]; omega
    · obtain rfl : n = ps.length := by omega
      rw [List.take_length, HS.out] at ho
      obtain ⟨v, hv, hf, hr⟩ := ho
      go_wp2
      go_ret
      exact ⟨_, rfl, hr.base (by omega), hb⟩
end Go.Proofs.YtklcildhfcomnaaGreatDoor

/-
  The model's draw of a list of lines: what the call returns.
  Condition: the bytes can be read; they are at most 1048576.
-/
import Derived.Test.YtakamboflfkchaaDrawL
namespace Go.Proofs.Ytakamboflfkchaa
set_option linter.unusedSimpArgs false
set_option linter.unusedVariables false
open Go.ChangeShapes Go.WideShapes Go.ChangeAt Go.RowKit
open Go.Sort (grow)

def lenL : Value → Nat
  | .slice _ n _ => n
  | _ => 0
theorem T3.newsL {w : World} {g : Nat} {r : Tm} (h : T3 w g r) : ∀ j u, (ints (encT r))[j]? = some u → w.cell? ((⟨g, 0, none⟩ : Addr).add j) = some u := fun j u hu => by
  rcases j with _ | _ | _ | j
  · simp [encT, ints] at hu; rw [← hu]; exact h.1
  · simp [encT, ints] at hu; rw [← hu]; exact h.2.1
  · simp [encT, ints] at hu; rw [← hu]; exact h.2.2
  · simp [encT, ints] at hu
theorem ints_oneL (zs : List Int) : ∀ u ∈ ints zs, u.oneCell' = true := fun u hu => by
  obtain ⟨z, -, rfl⟩ := List.mem_map.1 hu
  rfl
theorem flatT_setL : ∀ (L : List Tm) (i : Nat) (t : Tm), i < L.length → flatT (L.set i t) = (((flatT L).set (i * 3) t.1).set (i * 3 + 1) t.2.1).set (i * 3 + 2) t.2.2
  | (a, b, c) :: r, 0, t, _ => by obtain ⟨x, y, z⟩ := t; rfl
  | (a, b, c) :: r, i + 1, t, h => by
    have ih := flatT_setL r i t (by simpa using h)
    have e : ∀ (x : Tm) (l : List Tm), flatT (x :: l) = x.1 :: x.2.1 :: x.2.2 :: flatT l := fun x l => rfl
    rw [List.set_cons_succ, e, e, ih, show (i + 1) * 3 = i * 3 + 3 by omega]
    rfl
/-- A list of lines and two integers are drawn. -/
def DrawsLXY (w : World) (e : Ending) (w' : World) : Prop := ∃ (v : Value) (l : List Tm) (x y : Int), e = .returned (.tuple #[v, .int .i64 x, .int .i64 y]) ∧ LnS w' w.heap.size v l ∧ (∀ k, k < l.length → wfT (td l k)) ∧ l.length ≤ 13 ∧ Below w.heap.size w w'
theorem wf_snoc {l : List Tm} {t : Tm} (h : ∀ k, k < l.length → wfT (td l k)) (ht : wfT t) : ∀ k, k < (l ++ [t]).length → wfT (td (l ++ [t]) k) := by
  intro k hk
  rw [td_eq _ k hk]
  rcases Nat.lt_or_ge k l.length with h1 | h1
  · rw [List.getElem_append_left h1]
    have := h k h1
    rwa [td_eq _ k h1] at this
  · have : k = l.length := by simp at hk; omega
    subst this
    rw [List.getElem_append_right (Nat.le_refl _)]
    simpa using ht
theorem wf_set {l : List Tm} {t : Tm} {i : Nat} (h : ∀ k, k < l.length → wfT (td l k)) (ht : wfT t) : ∀ k, k < (l.set i t).length → wfT (td (l.set i t) k) := by
  intro k hk
  rw [td_eq _ k hk, List.getElem_set]
  have hk' : k < l.length := by simpa using hk
  split
  · exact ht
  · have := h k hk'
    rwa [td_eq _ k hk'] at this
set_option maxHeartbeats 4000000 in
set_option maxRecDepth 100000 in
theorem drawLinesAt_any (w : World) (A : Option Addr) (n cap : Nat) (h : RB w w.heap.size A n) (hn : n ≤ 1048576) : Calls Try.prog 16 #[.slice A n cap] w fun e w' => DrawsLXY w e w' := by
  have hc := cur_new (cap := cap) h hn
  have hb0 : Below w.heap.size w (w.alloc (.cells #[.slice A n cap, .int .i64 0, .int .u64 0] 48)) := (gr1 _ _).below
  have hs0 : (w.alloc (.cells #[.slice A n cap, .int .i64 0, .int .u64 0] 48)).heap.size = w.heap.size + 1 := World.size_alloc _ _
  obtain ⟨i0, hi, hz0, hz1, hz2⟩ := info_parts infoLine
  go_enter Try.func16, Try.ntmps16
  go_wp2_with fail
  refine (coord_any _ _ 0 hc (by omega)).mono ?_
  rintro e v1 ⟨x, rfl, -, hc1, hg1⟩
  go_wp2_with fail
  refine (coord_any _ _ _ hc1 (by omega)).mono ?_
  rintro e v2 ⟨y, rfl, -, hc2, hg2⟩
  go_wp2_with fail
  refine (pick_any 5 (by omega) _ _ _ hc2 (by omega)).mono ?_
  rintro e v3 ⟨r, rfl, hr, hc3, hg3⟩
  have hr' : 0 ≤ r ∧ r ≤ 4 := by obtain ⟨h1, h2⟩ := hr; omega
  go_wp2_with fail
  refine (one_any 12 (by omega) _ _ _ hc3 (by omega)).mono ?_
  rintro e v4 ⟨q, rfl, hc4, hg4⟩
  have G4 := grown_trans hg1 (grown_trans hg2 (grown_trans hg3 hg4))
  have B4 := bel_cur2 hb0 (Nat.le_refl _) G4
  have hs4 := G4.size
  rw [hs0] at hs4
  clear hr hc hc1 hc2 hc3 hg1 hg2 hg3 hg4 hb0 hs0 G4 h
  cases q
  case false =>
    obtain ⟨N, hN⟩ : ∃ N, N = r := ⟨_, rfl⟩
    have hN1 : 0 ≤ N ∧ N ≤ 13 := by omega
    rw [← hN]
    have C4 := hc4.more (show _ ≤ 40 by omega)
    obtain ⟨V, hV⟩ : ∃ V, V = v4 := ⟨_, rfl⟩
    rw [← hV] at C4 B4 hs4 ⊢
    clear hc4 hr' hN hV
    have HN := Lib.hid hN1
    obtain ⟨hN2, hN3⟩ := hN1
    clear hN2 hN3
    go_wp2_with fail
    go_loopw [6] (fun o wr => ∃ l : List Tm, LnS wr (w.heap.size + 1) o l ∧ l.length ≤ 13 ∧ (l.length : Int) ≤ N ∧ Hid (∀ k, k < l.length → wfT (td l k)) ∧ Cur wr w.heap.size (40 + 20 * l.length) ∧ Below w.heap.size w wr ∧ w.heap.size + 1 ≤ wr.heap.size) (fun o _ => 14 - lenL o)
    case atStart => exact ⟨[], FS.nil_ _ _ _ _, by simp, HN.out.1, Lib.hid (fun k hk => by simp at hk), C4, B4, hs4⟩
    case round =>
      obtain ⟨l, ho, hl13, hlN, hwf, hc, hb, hs⟩ := hrel
      obtain ⟨A', cap', rfl, hm', hp'⟩ := LnS.parts ho
      have HO := Lib.hid ho
      have HPR := Lib.hid hp'
      unfold maxLen at hm'
      clear ho hp'
      by_cases hlt : (l.length : Int) < N
      · go_wp2_with fail
        refine (line_any _ _ _ hc (by omega)).mono ?_
        rintro e w1 ⟨t, rfl, ht, hc1, hg1⟩
        have HT := Lib.hid ht
        have ho1 := HO.out.other hg1 (fun g hg he => by have := (HO.out.lt g hg).1; injection he with he; omega)
        have hb1 := bel_cur2 hb (Nat.le_refl _) hg1
        have hs1 := Nat.le_trans hs hg1.size
        have L1 := B3.new w1 t 24
        have hc1' := hc1.alloc (.cells #[.int .i64 t.1, .int .i64 t.2.1, .int .i64 t.2.2] 24)
        have ho1' := ho1.alloc (.cells #[.int .i64 t.1, .int .i64 t.2.1, .int .i64 t.2.2] 24)
        have hb1' := hb1.alloc hb1.size (.cells #[.int .i64 t.1, .int .i64 t.2.1, .int .i64 t.2.2] 24)
        have hs1' : w.heap.size + 1 ≤ (w1.alloc (.cells #[.int .i64 t.1, .int .i64 t.2.1, .int .i64 t.2.2] 24)).heap.size := by rw [World.size_alloc]; omega
        obtain ⟨L, hL⟩ : ∃ L, L = w1.heap.size := ⟨_, rfl⟩
        have HLB := Lib.hid (show w.heap.size < L by omega)
        have hL0 := Lib.hid hL
        have HOW := Lib.hid ho1.lt
        rw [← hL] at L1
        clear ht hc1 hg1 ho1 hb1 hs1 hb hs hc
        obtain ⟨W, hW⟩ : ∃ W, W = w1.alloc (.cells #[.int .i64 t.1, .int .i64 t.2.1, .int .i64 t.2.2] 24) := ⟨_, rfl⟩
        have HW1 := Lib.hid hW
        rw [← hW] at L1 hc1' ho1' hb1' hs1'
        clear hW hL
        cases hfx : finB x
        · have HFX := Lib.hid (fun V => show Calls Try.prog 32 #[.int .i64 x] V fun e w' => e = .returned (.bool false) ∧ V = w' by rw [← hfx]; exact poFinite_any x V)
          clear hfx
          obtain ⟨a, c, d⟩ := t
          go_wp2_with fail
          rw [← hL0.out, ← HW1.out]
          refine (HFX.out _).mono ?_
          rintro e w' ⟨rfl, rfl⟩
          obtain ⟨⟨c0, c1, c2⟩, -, -, -⟩ := L1
          have lc := cell_lt c0
          have ho' : W.ownsRow (w.heap.size + 1) 24 3 (.slice A' l.length cap') l.length (ints (flatT l)) := ho1'
          have hcl := hc1'.lt
          go_wp2_with (at_builtin; refine wpList_append_own _ rfl _ _ 40 rfl (w.heap.size + 1) 24 i0 (.agg #[.int .i64 0, .int .i64 0, .int .i64 0]) 3 24 Try.underlying40 hi hz0 hz1 hz2 rfl (by decide) _ _ _ rfl (ho'.alloc _) ⟨W.heap.size, 0, none⟩ 1 1 (ints (encT (a, c, d))) rfl rfl (T3.newsL (T3.new W (a, c, d) 24)) (ints_oneL _) (by unfold maxLen; omega) (by omega) (by simp; omega) ?_; intro v' w9 hown' hgrow hnil)
          have hne : ∀ j, (Value.slice A' l.length cap').ownBlock = some j → w.heap.size + 1 ≤ j := fun j hj => (World.ownsRow.lt ho' j hj).1
          have hrow : LnS w9 (w.heap.size + 1) v' (l ++ [(a, c, d)]) := by
            unfold LnS
            rw [flatT_snoc, List.length_append]
            exact FS.snoc hown'
          obtain ⟨A2, cap2, hv', -, -⟩ := LnS.parts hrow
          have hgs := hgrow.size
          rw [World.size_alloc] at hgs
          have hc9 : Cur w9 w.heap.size (40 + 20 * (l ++ [(a, c, d)]).length) := ((hc1'.alloc (.cells (ints (encT (a, c, d))).toArray 24)).sameL (fun j hj => hgrow.block j (by simp; omega) (fun he => by have := hne j he.symm; omega))).more (by simp; omega)
          have hb9 : Below w.heap.size w w9 := (hb1'.alloc hb1'.size _).grown hgrow (by simp; omega) (fun j hj => by have := hne j hj; omega)
          have hs9 : w.heap.size + 1 ≤ w9.heap.size := by omega
          have HWF9 := Lib.hid (wf_snoc (t := (a, c, d)) hwf.out (smallT_wf HT.out))
          have hlen : (l ++ [(a, c, d)]).length = l.length + 1 := by simp
          clear hgrow hown' hnil c0 c1 c2 lc ho' hcl
          go_wp2
          go_roundw
          case rel => exact ⟨l ++ [(a, c, d)], hrow, by rw [hlen]; have := HN.out; omega, by rw [hlen]; omega, HWF9.out, hc9, hb9, hs9⟩
          case measure => rw [hv', hlen]; simp only [lenL]; have := HN.out; omega
        · have HFX := Lib.hid (fun V => show Calls Try.prog 32 #[.int .i64 x] V fun e w' => e = .returned (.bool true) ∧ V = w' by rw [← hfx]; exact poFinite_any x V)
          cases hfy : finB y
          · have HFY := Lib.hid (fun V => show Calls Try.prog 32 #[.int .i64 y] V fun e w' => e = .returned (.bool false) ∧ V = w' by rw [← hfy]; exact poFinite_any y V)
            clear hfx hfy
            obtain ⟨a, c, d⟩ := t
            go_wp2_with fail
            rw [← hL0.out, ← HW1.out]
            refine (HFX.out _).mono ?_
            rintro e w' ⟨rfl, rfl⟩
            go_wp2_with fail
            refine (HFY.out _).mono ?_
            rintro e w' ⟨rfl, rfl⟩
            obtain ⟨⟨c0, c1, c2⟩, -, -, -⟩ := L1
            have lc := cell_lt c0
            have ho' : W.ownsRow (w.heap.size + 1) 24 3 (.slice A' l.length cap') l.length (ints (flatT l)) := ho1'
            have hcl := hc1'.lt
            go_wp2_with (at_builtin; refine wpList_append_own _ rfl _ _ 40 rfl (w.heap.size + 1) 24 i0 (.agg #[.int .i64 0, .int .i64 0, .int .i64 0]) 3 24 Try.underlying40 hi hz0 hz1 hz2 rfl (by decide) _ _ _ rfl (ho'.alloc _) ⟨W.heap.size, 0, none⟩ 1 1 (ints (encT (a, c, d))) rfl rfl (T3.newsL (T3.new W (a, c, d) 24)) (ints_oneL _) (by unfold maxLen; omega) (by omega) (by simp; omega) ?_; intro v' w9 hown' hgrow hnil)
            have hne : ∀ j, (Value.slice A' l.length cap').ownBlock = some j → w.heap.size + 1 ≤ j := fun j hj => (World.ownsRow.lt ho' j hj).1
            have hrow : LnS w9 (w.heap.size + 1) v' (l ++ [(a, c, d)]) := by
              unfold LnS
              rw [flatT_snoc, List.length_append]
              exact FS.snoc hown'
            obtain ⟨A2, cap2, hv', -, -⟩ := LnS.parts hrow
            have hgs := hgrow.size
            rw [World.size_alloc] at hgs
            have hc9 : Cur w9 w.heap.size (40 + 20 * (l ++ [(a, c, d)]).length) := ((hc1'.alloc (.cells (ints (encT (a, c, d))).toArray 24)).sameL (fun j hj => hgrow.block j (by simp; omega) (fun he => by have := hne j he.symm; omega))).more (by simp; omega)
            have hb9 : Below w.heap.size w w9 := (hb1'.alloc hb1'.size _).grown hgrow (by simp; omega) (fun j hj => by have := hne j hj; omega)
            have hs9 : w.heap.size + 1 ≤ w9.heap.size := by omega
            have HWF9 := Lib.hid (wf_snoc (t := (a, c, d)) hwf.out (smallT_wf HT.out))
            have hlen : (l ++ [(a, c, d)]).length = l.length + 1 := by simp
            clear hgrow hown' hnil c0 c1 c2 lc ho' hcl
            go_wp2
            go_roundw
            case rel => exact ⟨l ++ [(a, c, d)], hrow, by rw [hlen]; have := HN.out; omega, by rw [hlen]; omega, HWF9.out, hc9, hb9, hs9⟩
            case measure => rw [hv', hlen]; simp only [lenL]; have := HN.out; omega
          · have HFY := Lib.hid (fun V => show Calls Try.prog 32 #[.int .i64 y] V fun e w' => e = .returned (.bool true) ∧ V = w' by rw [← hfy]; exact poFinite_any y V)
            have hbx := (finB_iff x).1 hfx
            have hby := (finB_iff y).1 hfy
            obtain ⟨X, hX⟩ : ∃ X, X = -x := ⟨_, rfl⟩
            obtain ⟨Y, hY⟩ : ∃ X, X = -y := ⟨_, rfl⟩
            have q7 : IntKind.i64.wrap (-x) = X := by rw [hX]; exact IntWalk.i64_in _ (by omega)
            have q8 : IntKind.i64.wrap (-y) = Y := by rw [hY]; exact IntWalk.i64_in _ (by omega)
            have HXY := Lib.hid (show IntKind.i64.wrap X = X ∧ IntKind.i64.wrap Y = Y from ⟨IntWalk.i64_in _ (by omega), IntWalk.i64_in _ (by omega)⟩)
            have HOL := Lib.hid (show ∀ g, (Value.slice A' l.length cap').ownBlock = some g → g ≠ L from fun g hg => by have := (HOW.out g hg).2; rw [hL0.out]; omega)
            clear hbx hby hX hY hfx hfy
            obtain ⟨a, c, d⟩ := t
            go_wp2_with fail
            rw [← hL0.out, ← HW1.out]
            refine (HFX.out _).mono ?_
            rintro e w' ⟨rfl, rfl⟩
            go_wp2_with fail
            refine (HFY.out _).mono ?_
            rintro e w' ⟨rfl, rfl⟩
            go_wp2_with fail
            refine (one_any 2 (by omega) _ _ _ hc1' (by omega)).mono ?_
            rintro e w2 ⟨q, rfl, hc2, hg2⟩
            have ho2 := ho1'.other hg2 (fun g hg he => by have := (ho1'.lt g hg).1; injection he with he; omega)
            have hb2 := bel_cur2 hb1' (Nat.le_refl _) hg2
            have hs2 := Nat.le_trans hs1' hg2.size
            have L2 := L1.away hg2 (by have := HLB.out; omega)
            clear ho1' hb1' hs1' L1 hc1' hg2
            cases q
            · clear q7 q8
              obtain ⟨⟨c0, c1, c2⟩, -, -, -⟩ := L2
              have lc := cell_lt c0
              have ho' : w2.ownsRow (w.heap.size + 1) 24 3 (.slice A' l.length cap') l.length (ints (flatT l)) := ho2
              have hcl := hc2.lt
              go_wp2_with (at_builtin; refine wpList_append_own _ rfl _ _ 40 rfl (w.heap.size + 1) 24 i0 (.agg #[.int .i64 0, .int .i64 0, .int .i64 0]) 3 24 Try.underlying40 hi hz0 hz1 hz2 rfl (by decide) _ _ _ rfl (ho'.alloc _) ⟨w2.heap.size, 0, none⟩ 1 1 (ints (encT (a, c, d))) rfl rfl (T3.newsL (T3.new w2 (a, c, d) 24)) (ints_oneL _) (by unfold maxLen; omega) (by omega) (by simp; omega) ?_; intro v' w9 hown' hgrow hnil)
              have hne : ∀ j, (Value.slice A' l.length cap').ownBlock = some j → w.heap.size + 1 ≤ j := fun j hj => (World.ownsRow.lt ho' j hj).1
              have hrow : LnS w9 (w.heap.size + 1) v' (l ++ [(a, c, d)]) := by
                unfold LnS
                rw [flatT_snoc, List.length_append]
                exact FS.snoc hown'
              obtain ⟨A2, cap2, hv', -, -⟩ := LnS.parts hrow
              have hgs := hgrow.size
              rw [World.size_alloc] at hgs
              have hc9 : Cur w9 w.heap.size (40 + 20 * (l ++ [(a, c, d)]).length) := ((hc2.alloc (.cells (ints (encT (a, c, d))).toArray 24)).sameL (fun j hj => hgrow.block j (by simp; omega) (fun he => by have := hne j he.symm; omega))).more (by simp; omega)
              have hb9 : Below w.heap.size w w9 := (hb2.alloc hb2.size _).grown hgrow (by simp; omega) (fun j hj => by have := hne j hj; omega)
              have hs9 : w.heap.size + 1 ≤ w9.heap.size := by omega
              have HWF9 := Lib.hid (wf_snoc (t := (a, c, d)) hwf.out (smallT_wf HT.out))
              have hlen : (l ++ [(a, c, d)]).length = l.length + 1 := by simp
              clear hgrow hown' hnil c0 c1 c2 lc ho' hcl
              go_wp2
              go_roundw
              case rel => exact ⟨l ++ [(a, c, d)], hrow, by rw [hlen]; have := HN.out; omega, by rw [hlen]; omega, HWF9.out, hc9, hb9, hs9⟩
              case measure => rw [hv', hlen]; simp only [lenL]; have := HN.out; omega
            · go_wp2_with fail
              refine (pick_any 3 (by omega) _ _ _ hc2 (by omega)).mono ?_
              rintro e w3 ⟨p, rfl, hp, hc3, hg3⟩
              have ho3 := ho2.other hg3 (fun g hg he => by have := (ho2.lt g hg).1; injection he with he; omega)
              have hb3 := bel_cur2 hb2 (Nat.le_refl _) hg3
              have hs3 := Nat.le_trans hs2 hg3.size
              have L3 := L2.away hg3 (by have := HLB.out; omega)
              have HL4 := Lib.hid (L3.put3 (X, Y, p))
              have hoL : ∀ g, (Value.slice A' l.length cap').ownBlock = some g → g ≠ L := fun g hg he => HOL.out g hg he
              have ho4 : LnS (((w3.setCell ⟨L, 0, none⟩ (.int .i64 X)).setCell ⟨L, 1, none⟩ (.int .i64 Y)).setCell ⟨L, 2, none⟩ (.int .i64 p)) (w.heap.size + 1) (.slice A' l.length cap') l :=
                ho3.keep fun g hg => (heap_farL _ L 2 g _ (hoL g hg)).trans ((heap_farL _ L 1 g _ (hoL g hg)).trans (heap_farL w3 L 0 g _ (hoL g hg)))
              have hb4 := bel3D hb3 (show w.heap.size ≤ L by have := HLB.out; omega) (.int .i64 X) (.int .i64 Y) (.int .i64 p)
              have hc4 := hc3.set3L (u := .int .i64 X) (v := .int .i64 Y) (x := .int .i64 p) HLB.out
              obtain ⟨W4, hW4⟩ : ∃ W4, W4 = ((w3.setCell ⟨L, 0, none⟩ (.int .i64 X)).setCell ⟨L, 1, none⟩ (.int .i64 Y)).setCell ⟨L, 2, none⟩ (.int .i64 p) := ⟨_, rfl⟩
              have hs4 : w.heap.size + 1 ≤ W4.heap.size := by rw [hW4]; simpa [World.setCell] using hs3
              rw [← hW4] at ho4 hb4 hc4 HL4
              obtain ⟨⟨e0, e1, e2⟩, f0, f1, f2⟩ := L3
              have le := cell_lt e0
              clear ho2 hb2 hs2 L2 hc2 hg3 ho3 hb3 hs3 hc3 hp hoL
              go_upto_region 11 with fail
              rw [← hW4]
              clear hW4 e0 e1 e2 f0 f1 f2 le q7 q8
              obtain ⟨⟨c0, c1, c2⟩, -, -, -⟩ := HL4.out
              have lc := cell_lt c0
              have ho' : W4.ownsRow (w.heap.size + 1) 24 3 (.slice A' l.length cap') l.length (ints (flatT l)) := ho4
              have hcl := hc4.lt
              go_wp2_with (at_builtin; refine wpList_append_own _ rfl _ _ 40 rfl (w.heap.size + 1) 24 i0 (.agg #[.int .i64 0, .int .i64 0, .int .i64 0]) 3 24 Try.underlying40 hi hz0 hz1 hz2 rfl (by decide) _ _ _ rfl (ho'.alloc _) ⟨W4.heap.size, 0, none⟩ 1 1 (ints (encT (X, Y, p))) rfl rfl (T3.newsL (T3.new W4 (X, Y, p) 24)) (ints_oneL _) (by unfold maxLen; omega) (by omega) (by simp; omega) ?_; intro v' w9 hown' hgrow hnil)
              have hne : ∀ j, (Value.slice A' l.length cap').ownBlock = some j → w.heap.size + 1 ≤ j := fun j hj => (World.ownsRow.lt ho' j hj).1
              have hrow : LnS w9 (w.heap.size + 1) v' (l ++ [(X, Y, p)]) := by
                unfold LnS
                rw [flatT_snoc, List.length_append]
                exact FS.snoc hown'
              obtain ⟨A2, cap2, hv', -, -⟩ := LnS.parts hrow
              have hgs := hgrow.size
              rw [World.size_alloc] at hgs
              have hc9 : Cur w9 w.heap.size (40 + 20 * (l ++ [(X, Y, p)]).length) := ((hc4.alloc (.cells (ints (encT (X, Y, p))).toArray 24)).sameL (fun j hj => hgrow.block j (by simp; omega) (fun he => by have := hne j he.symm; omega))).more (by simp; omega)
              have hb9 : Below w.heap.size w w9 := (hb4.alloc hb4.size _).grown hgrow (by simp; omega) (fun j hj => by have := hne j hj; omega)
              have hs9 : w.heap.size + 1 ≤ w9.heap.size := by omega
              have HWF9 := Lib.hid (wf_snoc (t := (X, Y, p)) hwf.out HXY.out)
              have hlen : (l ++ [(X, Y, p)]).length = l.length + 1 := by simp
              clear hgrow hown' hnil c0 c1 c2 lc ho' hcl
              go_wp2
              go_roundw
              case rel => exact ⟨l ++ [(X, Y, p)], hrow, by rw [hlen]; have := HN.out; omega, by rw [hlen]; omega, HWF9.out, hc9, hb9, hs9⟩
              case measure => rw [hv', hlen]; simp only [lenL]; have := HN.out; omega
      · have HLE := Lib.hid (show N = (l.length : Int) by omega)
        have hcl := hc.lt
        by_cases hpos : 0 < N
        · go_wp2_with fail
          refine (one_any 20 (by omega) _ _ _ hc (by omega)).mono ?_
          rintro e w2 ⟨q, rfl, hc2, hg2⟩
          have ho2 := HO.out.other hg2 (fun g hg he => by have := (HO.out.lt g hg).1; injection he with he; omega)
          have hb2 := bel_cur2 hb (Nat.le_refl _) hg2
          clear hc hg2 hb hs
          cases q
          · go_wp2
            go_ret3
            exact ⟨_, l, x, y, rfl, ho2.base (by omega), hwf.out, hl13, hb2⟩
          · go_wp2_with fail
            refine (pick_any N (by omega) _ _ _ hc2 (by omega)).mono ?_
            rintro e w3 ⟨i, rfl, hi, hc3, hg3⟩
            obtain ⟨j, rfl⟩ : ∃ j : Nat, i = j := ⟨i.toNat, by omega⟩
            have hj : j < l.length := by have := HLE.out; omega
            have ho3 := ho2.other hg3 (fun g hg he => by have := (ho2.lt g hg).1; injection he with he; omega)
            have hb3 := bel_cur2 hb2 (Nat.le_refl _) hg3
            clear hi hc2 hg3 ho2 hb2
            go_wp2_with fail
            refine (anyLine_any _ _ _ hc3 (by omega)).mono ?_
            rintro e w4 ⟨t, rfl, ht, hc4, hg4⟩
            have ho4 := ho3.other hg4 (fun g hg he => by have := (ho3.lt g hg).1; injection he with he; omega)
            have hb4 := bel_cur2 hb3 (Nat.le_refl _) hg4
            have HT := Lib.hid ht
            obtain ⟨A2, cap2, he, -, hp2⟩ := LnS.parts ho4
            injection he with he1 he2 he3
            subst he1
            obtain ⟨g, hg, c0, c1, c2⟩ := hp2 j hj
            subst hg
            have hgb : w.heap.size ≤ g := by have := (ho4.lt g rfl).1; omega
            have ho5 : w4.ownsRow (w.heap.size + 1) 24 3 (.slice (some ⟨g, 0, none⟩) l.length cap') l.length (ints (flatT l)) := ho4
            have f0 := World.ownsRow.frozenAt ho5 (j * 3)
            have f1 := World.ownsRow.frozenAt ho5 (j * 3 + 1)
            have f2 := World.ownsRow.frozenAt ho5 (j * 3 + 2)
            have s0 := World.ownsRow.stored ho5 (j * 3) (.int .i64 t.1)
            have s1 := World.ownsRow.stored s0.1 (j * 3 + 1) (.int .i64 t.2.1)
            have s2 := World.ownsRow.stored s1.1 (j * 3 + 2) (.int .i64 t.2.2)
            have hrow := s2.1
            rw [show (((ints (flatT l)).set (j * 3) (.int .i64 t.1)).set (j * 3 + 1) (.int .i64 t.2.1)).set (j * 3 + 2) (.int .i64 t.2.2) = ints (flatT (l.set j t)) from by rw [flatT_setL l j t hj]; unfold ints; simp only [List.map_set]] at hrow
            have HROW := Lib.hid hrow
            have hb5 : Below w.heap.size w (((w4.setCell ⟨g, j * 3, none⟩ (.int .i64 t.1)).setCell ⟨g, j * 3 + 1, none⟩ (.int .i64 t.2.1)).setCell ⟨g, j * 3 + 2, none⟩ (.int .i64 t.2.2)) := ((hb4.setCell hgb _).setCell hgb _).setCell hgb _
            have HB5 := Lib.hid hb5
            have hl := cell_lt c0
            have z1 : (j : Int) < (l.length : Int) := by omega
            obtain ⟨a, c, d⟩ := t
            clear s0 s1 s2 hrow hb5 ho5 ho4 hb4 hc4 hg4 ho3 hb3 hc3 ht hp2 he2 he3
            go_wp2
            go_ret3
            refine ⟨_, l.set j (a, c, d), x, y, rfl, ?_, wf_set hwf.out HT.out, by rw [List.length_set]; exact hl13, HB5.out⟩
            unfold LnS
            rw [List.length_set]
            exact FS.base (zs := flatT (l.set j (a, c, d))) HROW.out (Nat.le_succ _)
        · go_wp2
          go_ret3
          exact ⟨_, l, x, y, rfl, HO.out.base (by omega), hwf.out, hl13, hb⟩
  case true =>
    go_wp2_with fail
    refine (pick_any 2 (by omega) _ _ _ hc4 (by omega)).mono ?_
    rintro e V ⟨p, rfl, hp, hc5, hg5⟩
    obtain ⟨N, hN⟩ : ∃ N, N = 12 + p := ⟨_, rfl⟩
    have hN1 : 0 ≤ N ∧ N ≤ 13 := by obtain ⟨h1, h2⟩ := hp; omega
    have hq : IntKind.i64.wrap (12 + p) = N := by rw [hN]; exact IntWalk.i64_in _ (by omega)
    have C4 := hc5.more (show _ ≤ 40 by omega)
    have B4 := bel_cur2 B4 (Nat.le_refl _) hg5
    have hs4 : w.heap.size + 1 ≤ V.heap.size := Nat.le_trans hs4 hg5.size
    clear hc4 hr' hN hp hc5 hg5
    have HN := Lib.hid hN1
    obtain ⟨hN2, hN3⟩ := hN1
    clear hN2 hN3
    go_wp2_with fail
    go_loopw [6] (fun o wr => ∃ l : List Tm, LnS wr (w.heap.size + 1) o l ∧ l.length ≤ 13 ∧ (l.length : Int) ≤ N ∧ Hid (∀ k, k < l.length → wfT (td l k)) ∧ Cur wr w.heap.size (40 + 20 * l.length) ∧ Below w.heap.size w wr ∧ w.heap.size + 1 ≤ wr.heap.size) (fun o _ => 14 - lenL o)
    case atStart => exact ⟨[], FS.nil_ _ _ _ _, by simp, HN.out.1, Lib.hid (fun k hk => by simp at hk), C4, B4, hs4⟩
    case round =>
      obtain ⟨l, ho, hl13, hlN, hwf, hc, hb, hs⟩ := hrel
      obtain ⟨A', cap', rfl, hm', hp'⟩ := LnS.parts ho
      have HO := Lib.hid ho
      have HPR := Lib.hid hp'
      unfold maxLen at hm'
      clear ho hp'
      by_cases hlt : (l.length : Int) < N
      · go_wp2_with fail
        refine (line_any _ _ _ hc (by omega)).mono ?_
        rintro e w1 ⟨t, rfl, ht, hc1, hg1⟩
        have HT := Lib.hid ht
        have ho1 := HO.out.other hg1 (fun g hg he => by have := (HO.out.lt g hg).1; injection he with he; omega)
        have hb1 := bel_cur2 hb (Nat.le_refl _) hg1
        have hs1 := Nat.le_trans hs hg1.size
        have L1 := B3.new w1 t 24
        have hc1' := hc1.alloc (.cells #[.int .i64 t.1, .int .i64 t.2.1, .int .i64 t.2.2] 24)
        have ho1' := ho1.alloc (.cells #[.int .i64 t.1, .int .i64 t.2.1, .int .i64 t.2.2] 24)
        have hb1' := hb1.alloc hb1.size (.cells #[.int .i64 t.1, .int .i64 t.2.1, .int .i64 t.2.2] 24)
        have hs1' : w.heap.size + 1 ≤ (w1.alloc (.cells #[.int .i64 t.1, .int .i64 t.2.1, .int .i64 t.2.2] 24)).heap.size := by rw [World.size_alloc]; omega
        obtain ⟨L, hL⟩ : ∃ L, L = w1.heap.size := ⟨_, rfl⟩
        have HLB := Lib.hid (show w.heap.size < L by omega)
        have hL0 := Lib.hid hL
        have HOW := Lib.hid ho1.lt
        rw [← hL] at L1
        clear ht hc1 hg1 ho1 hb1 hs1 hb hs hc
        obtain ⟨W, hW⟩ : ∃ W, W = w1.alloc (.cells #[.int .i64 t.1, .int .i64 t.2.1, .int .i64 t.2.2] 24) := ⟨_, rfl⟩
        have HW1 := Lib.hid hW
        rw [← hW] at L1 hc1' ho1' hb1' hs1'
        clear hW hL
        cases hfx : finB x
        · have HFX := Lib.hid (fun V => show Calls Try.prog 32 #[.int .i64 x] V fun e w' => e = .returned (.bool false) ∧ V = w' by rw [← hfx]; exact poFinite_any x V)
          clear hfx
          obtain ⟨a, c, d⟩ := t
          go_wp2_with fail
          rw [← hL0.out, ← HW1.out]
          refine (HFX.out _).mono ?_
          rintro e w' ⟨rfl, rfl⟩
          obtain ⟨⟨c0, c1, c2⟩, -, -, -⟩ := L1
          have lc := cell_lt c0
          have ho' : W.ownsRow (w.heap.size + 1) 24 3 (.slice A' l.length cap') l.length (ints (flatT l)) := ho1'
          have hcl := hc1'.lt
          go_wp2_with (at_builtin; refine wpList_append_own _ rfl _ _ 40 rfl (w.heap.size + 1) 24 i0 (.agg #[.int .i64 0, .int .i64 0, .int .i64 0]) 3 24 Try.underlying40 hi hz0 hz1 hz2 rfl (by decide) _ _ _ rfl (ho'.alloc _) ⟨W.heap.size, 0, none⟩ 1 1 (ints (encT (a, c, d))) rfl rfl (T3.newsL (T3.new W (a, c, d) 24)) (ints_oneL _) (by unfold maxLen; omega) (by omega) (by simp; omega) ?_; intro v' w9 hown' hgrow hnil)
          have hne : ∀ j, (Value.slice A' l.length cap').ownBlock = some j → w.heap.size + 1 ≤ j := fun j hj => (World.ownsRow.lt ho' j hj).1
          have hrow : LnS w9 (w.heap.size + 1) v' (l ++ [(a, c, d)]) := by
            unfold LnS
            rw [flatT_snoc, List.length_append]
            exact FS.snoc hown'
          obtain ⟨A2, cap2, hv', -, -⟩ := LnS.parts hrow
          have hgs := hgrow.size
          rw [World.size_alloc] at hgs
          have hc9 : Cur w9 w.heap.size (40 + 20 * (l ++ [(a, c, d)]).length) := ((hc1'.alloc (.cells (ints (encT (a, c, d))).toArray 24)).sameL (fun j hj => hgrow.block j (by simp; omega) (fun he => by have := hne j he.symm; omega))).more (by simp; omega)
          have hb9 : Below w.heap.size w w9 := (hb1'.alloc hb1'.size _).grown hgrow (by simp; omega) (fun j hj => by have := hne j hj; omega)
          have hs9 : w.heap.size + 1 ≤ w9.heap.size := by omega
          have HWF9 := Lib.hid (wf_snoc (t := (a, c, d)) hwf.out (smallT_wf HT.out))
          have hlen : (l ++ [(a, c, d)]).length = l.length + 1 := by simp
          clear hgrow hown' hnil c0 c1 c2 lc ho' hcl
          go_wp2
          go_roundw
          case rel => exact ⟨l ++ [(a, c, d)], hrow, by rw [hlen]; have := HN.out; omega, by rw [hlen]; omega, HWF9.out, hc9, hb9, hs9⟩
          case measure => rw [hv', hlen]; simp only [lenL]; have := HN.out; omega
        · have HFX := Lib.hid (fun V => show Calls Try.prog 32 #[.int .i64 x] V fun e w' => e = .returned (.bool true) ∧ V = w' by rw [← hfx]; exact poFinite_any x V)
          cases hfy : finB y
          · have HFY := Lib.hid (fun V => show Calls Try.prog 32 #[.int .i64 y] V fun e w' => e = .returned (.bool false) ∧ V = w' by rw [← hfy]; exact poFinite_any y V)
            clear hfx hfy
            obtain ⟨a, c, d⟩ := t
            go_wp2_with fail
            rw [← hL0.out, ← HW1.out]
            refine (HFX.out _).mono ?_
            rintro e w' ⟨rfl, rfl⟩
            go_wp2_with fail
            refine (HFY.out _).mono ?_
            rintro e w' ⟨rfl, rfl⟩
            obtain ⟨⟨c0, c1, c2⟩, -, -, -⟩ := L1
            have lc := cell_lt c0
            have ho' : W.ownsRow (w.heap.size + 1) 24 3 (.slice A' l.length cap') l.length (ints (flatT l)) := ho1'
            have hcl := hc1'.lt
            go_wp2_with (at_builtin; refine wpList_append_own _ rfl _ _ 40 rfl (w.heap.size + 1) 24 i0 (.agg #[.int .i64 0, .int .i64 0, .int .i64 0]) 3 24 Try.underlying40 hi hz0 hz1 hz2 rfl (by decide) _ _ _ rfl (ho'.alloc _) ⟨W.heap.size, 0, none⟩ 1 1 (ints (encT (a, c, d))) rfl rfl (T3.newsL (T3.new W (a, c, d) 24)) (ints_oneL _) (by unfold maxLen; omega) (by omega) (by simp; omega) ?_; intro v' w9 hown' hgrow hnil)
            have hne : ∀ j, (Value.slice A' l.length cap').ownBlock = some j → w.heap.size + 1 ≤ j := fun j hj => (World.ownsRow.lt ho' j hj).1
            have hrow : LnS w9 (w.heap.size + 1) v' (l ++ [(a, c, d)]) := by
              unfold LnS
              rw [flatT_snoc, List.length_append]
              exact FS.snoc hown'
            obtain ⟨A2, cap2, hv', -, -⟩ := LnS.parts hrow
            have hgs := hgrow.size
            rw [World.size_alloc] at hgs
            have hc9 : Cur w9 w.heap.size (40 + 20 * (l ++ [(a, c, d)]).length) := ((hc1'.alloc (.cells (ints (encT (a, c, d))).toArray 24)).sameL (fun j hj => hgrow.block j (by simp; omega) (fun he => by have := hne j he.symm; omega))).more (by simp; omega)
            have hb9 : Below w.heap.size w w9 := (hb1'.alloc hb1'.size _).grown hgrow (by simp; omega) (fun j hj => by have := hne j hj; omega)
            have hs9 : w.heap.size + 1 ≤ w9.heap.size := by omega
            have HWF9 := Lib.hid (wf_snoc (t := (a, c, d)) hwf.out (smallT_wf HT.out))
            have hlen : (l ++ [(a, c, d)]).length = l.length + 1 := by simp
            clear hgrow hown' hnil c0 c1 c2 lc ho' hcl
            go_wp2
            go_roundw
            case rel => exact ⟨l ++ [(a, c, d)], hrow, by rw [hlen]; have := HN.out; omega, by rw [hlen]; omega, HWF9.out, hc9, hb9, hs9⟩
            case measure => rw [hv', hlen]; simp only [lenL]; have := HN.out; omega
          · have HFY := Lib.hid (fun V => show Calls Try.prog 32 #[.int .i64 y] V fun e w' => e = .returned (.bool true) ∧ V = w' by rw [← hfy]; exact poFinite_any y V)
            have hbx := (finB_iff x).1 hfx
            have hby := (finB_iff y).1 hfy
            obtain ⟨X, hX⟩ : ∃ X, X = -x := ⟨_, rfl⟩
            obtain ⟨Y, hY⟩ : ∃ X, X = -y := ⟨_, rfl⟩
            have q7 : IntKind.i64.wrap (-x) = X := by rw [hX]; exact IntWalk.i64_in _ (by omega)
            have q8 : IntKind.i64.wrap (-y) = Y := by rw [hY]; exact IntWalk.i64_in _ (by omega)
            have HXY := Lib.hid (show IntKind.i64.wrap X = X ∧ IntKind.i64.wrap Y = Y from ⟨IntWalk.i64_in _ (by omega), IntWalk.i64_in _ (by omega)⟩)
            have HOL := Lib.hid (show ∀ g, (Value.slice A' l.length cap').ownBlock = some g → g ≠ L from fun g hg => by have := (HOW.out g hg).2; rw [hL0.out]; omega)
            clear hbx hby hX hY hfx hfy
            obtain ⟨a, c, d⟩ := t
            go_wp2_with fail
            rw [← hL0.out, ← HW1.out]
            refine (HFX.out _).mono ?_
            rintro e w' ⟨rfl, rfl⟩
            go_wp2_with fail
            refine (HFY.out _).mono ?_
            rintro e w' ⟨rfl, rfl⟩
            go_wp2_with fail
            refine (one_any 2 (by omega) _ _ _ hc1' (by omega)).mono ?_
            rintro e w2 ⟨q, rfl, hc2, hg2⟩
            have ho2 := ho1'.other hg2 (fun g hg he => by have := (ho1'.lt g hg).1; injection he with he; omega)
            have hb2 := bel_cur2 hb1' (Nat.le_refl _) hg2
            have hs2 := Nat.le_trans hs1' hg2.size
            have L2 := L1.away hg2 (by have := HLB.out; omega)
            clear ho1' hb1' hs1' L1 hc1' hg2
            cases q
            · clear q7 q8
              obtain ⟨⟨c0, c1, c2⟩, -, -, -⟩ := L2
              have lc := cell_lt c0
              have ho' : w2.ownsRow (w.heap.size + 1) 24 3 (.slice A' l.length cap') l.length (ints (flatT l)) := ho2
              have hcl := hc2.lt
              go_wp2_with (at_builtin; refine wpList_append_own _ rfl _ _ 40 rfl (w.heap.size + 1) 24 i0 (.agg #[.int .i64 0, .int .i64 0, .int .i64 0]) 3 24 Try.underlying40 hi hz0 hz1 hz2 rfl (by decide) _ _ _ rfl (ho'.alloc _) ⟨w2.heap.size, 0, none⟩ 1 1 (ints (encT (a, c, d))) rfl rfl (T3.newsL (T3.new w2 (a, c, d) 24)) (ints_oneL _) (by unfold maxLen; omega) (by omega) (by simp; omega) ?_; intro v' w9 hown' hgrow hnil)
              have hne : ∀ j, (Value.slice A' l.length cap').ownBlock = some j → w.heap.size + 1 ≤ j := fun j hj => (World.ownsRow.lt ho' j hj).1
              have hrow : LnS w9 (w.heap.size + 1) v' (l ++ [(a, c, d)]) := by
                unfold LnS
                rw [flatT_snoc, List.length_append]
                exact FS.snoc hown'
              obtain ⟨A2, cap2, hv', -, -⟩ := LnS.parts hrow
              have hgs := hgrow.size
              rw [World.size_alloc] at hgs
              have hc9 : Cur w9 w.heap.size (40 + 20 * (l ++ [(a, c, d)]).length) := ((hc2.alloc (.cells (ints (encT (a, c, d))).toArray 24)).sameL (fun j hj => hgrow.block j (by simp; omega) (fun he => by have := hne j he.symm; omega))).more (by simp; omega)
              have hb9 : Below w.heap.size w w9 := (hb2.alloc hb2.size _).grown hgrow (by simp; omega) (fun j hj => by have := hne j hj; omega)
              have hs9 : w.heap.size + 1 ≤ w9.heap.size := by omega
              have HWF9 := Lib.hid (wf_snoc (t := (a, c, d)) hwf.out (smallT_wf HT.out))
              have hlen : (l ++ [(a, c, d)]).length = l.length + 1 := by simp
              clear hgrow hown' hnil c0 c1 c2 lc ho' hcl
              go_wp2
              go_roundw
              case rel => exact ⟨l ++ [(a, c, d)], hrow, by rw [hlen]; have := HN.out; omega, by rw [hlen]; omega, HWF9.out, hc9, hb9, hs9⟩
              case measure => rw [hv', hlen]; simp only [lenL]; have := HN.out; omega
            · go_wp2_with fail
              refine (pick_any 3 (by omega) _ _ _ hc2 (by omega)).mono ?_
              rintro e w3 ⟨p, rfl, hp, hc3, hg3⟩
              have ho3 := ho2.other hg3 (fun g hg he => by have := (ho2.lt g hg).1; injection he with he; omega)
              have hb3 := bel_cur2 hb2 (Nat.le_refl _) hg3
              have hs3 := Nat.le_trans hs2 hg3.size
              have L3 := L2.away hg3 (by have := HLB.out; omega)
              have HL4 := Lib.hid (L3.put3 (X, Y, p))
              have hoL : ∀ g, (Value.slice A' l.length cap').ownBlock = some g → g ≠ L := fun g hg he => HOL.out g hg he
              have ho4 : LnS (((w3.setCell ⟨L, 0, none⟩ (.int .i64 X)).setCell ⟨L, 1, none⟩ (.int .i64 Y)).setCell ⟨L, 2, none⟩ (.int .i64 p)) (w.heap.size + 1) (.slice A' l.length cap') l :=
                ho3.keep fun g hg => (heap_farL _ L 2 g _ (hoL g hg)).trans ((heap_farL _ L 1 g _ (hoL g hg)).trans (heap_farL w3 L 0 g _ (hoL g hg)))
              have hb4 := bel3D hb3 (show w.heap.size ≤ L by have := HLB.out; omega) (.int .i64 X) (.int .i64 Y) (.int .i64 p)
              have hc4 := hc3.set3L (u := .int .i64 X) (v := .int .i64 Y) (x := .int .i64 p) HLB.out
              obtain ⟨W4, hW4⟩ : ∃ W4, W4 = ((w3.setCell ⟨L, 0, none⟩ (.int .i64 X)).setCell ⟨L, 1, none⟩ (.int .i64 Y)).setCell ⟨L, 2, none⟩ (.int .i64 p) := ⟨_, rfl⟩
              have hs4 : w.heap.size + 1 ≤ W4.heap.size := by rw [hW4]; simpa [World.setCell] using hs3
              rw [← hW4] at ho4 hb4 hc4 HL4
              obtain ⟨⟨e0, e1, e2⟩, f0, f1, f2⟩ := L3
              have le := cell_lt e0
              clear ho2 hb2 hs2 L2 hc2 hg3 ho3 hb3 hs3 hc3 hp hoL
              go_upto_region 11 with fail
              rw [← hW4]
              clear hW4 e0 e1 e2 f0 f1 f2 le q7 q8
              obtain ⟨⟨c0, c1, c2⟩, -, -, -⟩ := HL4.out
              have lc := cell_lt c0
              have ho' : W4.ownsRow (w.heap.size + 1) 24 3 (.slice A' l.length cap') l.length (ints (flatT l)) := ho4
              have hcl := hc4.lt
              go_wp2_with (at_builtin; refine wpList_append_own _ rfl _ _ 40 rfl (w.heap.size + 1) 24 i0 (.agg #[.int .i64 0, .int .i64 0, .int .i64 0]) 3 24 Try.underlying40 hi hz0 hz1 hz2 rfl (by decide) _ _ _ rfl (ho'.alloc _) ⟨W4.heap.size, 0, none⟩ 1 1 (ints (encT (X, Y, p))) rfl rfl (T3.newsL (T3.new W4 (X, Y, p) 24)) (ints_oneL _) (by unfold maxLen; omega) (by omega) (by simp; omega) ?_; intro v' w9 hown' hgrow hnil)
              have hne : ∀ j, (Value.slice A' l.length cap').ownBlock = some j → w.heap.size + 1 ≤ j := fun j hj => (World.ownsRow.lt ho' j hj).1
              have hrow : LnS w9 (w.heap.size + 1) v' (l ++ [(X, Y, p)]) := by
                unfold LnS
                rw [flatT_snoc, List.length_append]
                exact FS.snoc hown'
              obtain ⟨A2, cap2, hv', -, -⟩ := LnS.parts hrow
              have hgs := hgrow.size
              rw [World.size_alloc] at hgs
              have hc9 : Cur w9 w.heap.size (40 + 20 * (l ++ [(X, Y, p)]).length) := ((hc4.alloc (.cells (ints (encT (X, Y, p))).toArray 24)).sameL (fun j hj => hgrow.block j (by simp; omega) (fun he => by have := hne j he.symm; omega))).more (by simp; omega)
              have hb9 : Below w.heap.size w w9 := (hb4.alloc hb4.size _).grown hgrow (by simp; omega) (fun j hj => by have := hne j hj; omega)
              have hs9 : w.heap.size + 1 ≤ w9.heap.size := by omega
              have HWF9 := Lib.hid (wf_snoc (t := (X, Y, p)) hwf.out HXY.out)
              have hlen : (l ++ [(X, Y, p)]).length = l.length + 1 := by simp
              clear hgrow hown' hnil c0 c1 c2 lc ho' hcl
              go_wp2
              go_roundw
              case rel => exact ⟨l ++ [(X, Y, p)], hrow, by rw [hlen]; have := HN.out; omega, by rw [hlen]; omega, HWF9.out, hc9, hb9, hs9⟩
              case measure => rw [hv', hlen]; simp only [lenL]; have := HN.out; omega
      · have HLE := Lib.hid (show N = (l.length : Int) by omega)
        have hcl := hc.lt
        by_cases hpos : 0 < N
        · go_wp2_with fail
          refine (one_any 20 (by omega) _ _ _ hc (by omega)).mono ?_
          rintro e w2 ⟨q, rfl, hc2, hg2⟩
          have ho2 := HO.out.other hg2 (fun g hg he => by have := (HO.out.lt g hg).1; injection he with he; omega)
          have hb2 := bel_cur2 hb (Nat.le_refl _) hg2
          clear hc hg2 hb hs
          cases q
          · go_wp2
            go_ret3
            exact ⟨_, l, x, y, rfl, ho2.base (by omega), hwf.out, hl13, hb2⟩
          · go_wp2_with fail
            refine (pick_any N (by omega) _ _ _ hc2 (by omega)).mono ?_
            rintro e w3 ⟨i, rfl, hi, hc3, hg3⟩
            obtain ⟨j, rfl⟩ : ∃ j : Nat, i = j := ⟨i.toNat, by omega⟩
            have hj : j < l.length := by have := HLE.out; omega
            have ho3 := ho2.other hg3 (fun g hg he => by have := (ho2.lt g hg).1; injection he with he; omega)
            have hb3 := bel_cur2 hb2 (Nat.le_refl _) hg3
            clear hi hc2 hg3 ho2 hb2
            go_wp2_with fail
            refine (anyLine_any _ _ _ hc3 (by omega)).mono ?_
            rintro e w4 ⟨t, rfl, ht, hc4, hg4⟩
            have ho4 := ho3.other hg4 (fun g hg he => by have := (ho3.lt g hg).1; injection he with he; omega)
            have hb4 := bel_cur2 hb3 (Nat.le_refl _) hg4
            have HT := Lib.hid ht
            obtain ⟨A2, cap2, he, -, hp2⟩ := LnS.parts ho4
            injection he with he1 he2 he3
            subst he1
            obtain ⟨g, hg, c0, c1, c2⟩ := hp2 j hj
            subst hg
            have hgb : w.heap.size ≤ g := by have := (ho4.lt g rfl).1; omega
            have ho5 : w4.ownsRow (w.heap.size + 1) 24 3 (.slice (some ⟨g, 0, none⟩) l.length cap') l.length (ints (flatT l)) := ho4
            have f0 := World.ownsRow.frozenAt ho5 (j * 3)
            have f1 := World.ownsRow.frozenAt ho5 (j * 3 + 1)
            have f2 := World.ownsRow.frozenAt ho5 (j * 3 + 2)
            have s0 := World.ownsRow.stored ho5 (j * 3) (.int .i64 t.1)
            have s1 := World.ownsRow.stored s0.1 (j * 3 + 1) (.int .i64 t.2.1)
            have s2 := World.ownsRow.stored s1.1 (j * 3 + 2) (.int .i64 t.2.2)
            have hrow := s2.1
            rw [show (((ints (flatT l)).set (j * 3) (.int .i64 t.1)).set (j * 3 + 1) (.int .i64 t.2.1)).set (j * 3 + 2) (.int .i64 t.2.2) = ints (flatT (l.set j t)) from by rw [flatT_setL l j t hj]; unfold ints; simp only [List.map_set]] at hrow
            have HROW := Lib.hid hrow
            have hb5 : Below w.heap.size w (((w4.setCell ⟨g, j * 3, none⟩ (.int .i64 t.1)).setCell ⟨g, j * 3 + 1, none⟩ (.int .i64 t.2.1)).setCell ⟨g, j * 3 + 2, none⟩ (.int .i64 t.2.2)) := ((hb4.setCell hgb _).setCell hgb _).setCell hgb _
            have HB5 := Lib.hid hb5
            have hl := cell_lt c0
            have z1 : (j : Int) < (l.length : Int) := by omega
            obtain ⟨a, c, d⟩ := t
            clear s0 s1 s2 hrow hb5 ho5 ho4 hb4 hc4 hg4 ho3 hb3 hc3 ht hp2 he2 he3
            go_wp2
            go_ret3
            refine ⟨_, l.set j (a, c, d), x, y, rfl, ?_, wf_set hwf.out HT.out, by rw [List.length_set]; exact hl13, HB5.out⟩
            unfold LnS
            rw [List.length_set]
            exact FS.base (zs := flatT (l.set j (a, c, d))) HROW.out (Nat.le_succ _)
        · go_wp2
          go_ret3
          exact ⟨_, l, x, y, rfl, HO.out.base (by omega), hwf.out, hl13, hb⟩
end Go.Proofs.Ytakamboflfkchaa

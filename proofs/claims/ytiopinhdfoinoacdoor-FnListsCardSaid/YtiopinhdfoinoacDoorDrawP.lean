/-
  Polynomials as the model draws them: what each call returns.
  Condition: the cursor lies in a block of its own, over bytes.
-/
import Derived.Test.YtiopinhdfoinoacDoorDraw
import Derived.Deep.RegionHeld3
import Derived.Test.YtiopinhdfoinoacDoorShift
import Derived.Deep.DeepCutAuto
namespace Go.Proofs.YtiopinhdfoinoacDoor
set_option linter.unusedSimpArgs false
set_option linter.unusedVariables false
open Go.ChangeShapes Go.WideShapes Go.ChangeAt Go.RowKit

def lenP : Value → Nat
  | .slice _ n _ => n
  | _ => 0
theorem grown_own {a w w' : World} {row r : Option Nat} (h : a.grownBy w row) (hg : w.grownBy w' r) (hr : ∀ k, r = some k → a.heap.size ≤ k) : a.grownBy w' row :=
  ⟨hg.os.trans h.os, hg.tape.trans h.tape, hg.output.trans h.output, Nat.le_trans h.size hg.size, fun k hk hne => (hg.block k (Nat.lt_of_lt_of_le hk h.size) (fun e => by have := hr k e.symm; omega)).trans (h.block k hk hne)⟩
theorem bel_drawsP {w w0 w' : World} {c : Nat} (b0 : Below w.heap.size w w0) (h : w0.grownBy w' (some c)) (hc : w.heap.size ≤ c) : Below w.heap.size w w' :=
  b0.grown h b0.size (fun k hk => by injection hk with hk; omega)
/-- A drawn list. -/
def TakesL (m b k : Nat) (w : World) (e : Ending) (w' : World) : Prop := ∃ v zs, e = .returned v ∧ IS w' w.heap.size v zs ∧ zs.length ≤ m ∧ Cur w' b k ∧ w.grownBy w' (some b)
theorem IS.store {w : World} {B g cap : Nat} {zs : List Int} (h : IS w B (.slice (some ⟨g, 0, none⟩) zs.length cap) zs) (k : Nat) (u : Int) : IS (w.setCell ⟨g, k, none⟩ (.int .i64 u)) B (.slice (some ⟨g, 0, none⟩) zs.length cap) (zs.set k u) := by
  have := (World.ownsRow.stored h k (.int .i64 u)).1
  unfold IS ints
  rw [List.map_set, List.length_set]
  exact this
theorem IS.store' {w : World} {B g cap n : Nat} {zs : List Int} (hn : n = zs.length) (h : w.ownsRow B 3 1 (.slice (some ⟨g, 0, none⟩) n cap) n (ints zs)) (k : Nat) (u : Int) : IS (w.setCell ⟨g, k, none⟩ (.int .i64 u)) B (.slice (some ⟨g, 0, none⟩) n cap) (zs.set k u) := by
  subst hn
  exact IS.store h k u
theorem Cur.set1 {w : World} {b k g i : Nat} {u : Value} (h : Cur w b k) (hg : b < g) : Cur (w.setCell ⟨g, i, none⟩ u) b k :=
  h.same fun j hj => heap_far w g i j u (by omega)
set_option maxHeartbeats 1000000 in
set_option maxRecDepth 100000 in
theorem nums_any (w : World) (b k : Nat) (h : Cur w b k) (hk : k ≤ 600000000) : Calls Tryd.prog 30 #[.pointer (some ⟨b, 0, none⟩)] w fun e w' => TakesL 40 b (k + 200) w e w' := by
  obtain ⟨i0, hi, hz0, hz1, hz2⟩ := info_parts infoInt
  have hbw := h.lt
  go_enter Tryd.func30, Tryd.ntmps30
  go_wp2_with fail
  refine (pick_any 7 (by omega) _ b k h (by omega)).mono ?_
  rintro e v1 ⟨r, rfl, hr, hc1, hg1⟩
  have hr' : 0 ≤ r ∧ r ≤ 7 := by obtain ⟨q1, q2⟩ := hr; omega
  clear hr h
  go_wp2_with fail
  refine (one_any 12 (by omega) _ b _ hc1 (by omega)).mono ?_
  rintro e v2 ⟨o, rfl, hc2, hg2⟩
  have G2 := grown_trans hg1 hg2
  clear hc1 hg1 hg2
  go_upto_if 8 with fail
  go_cut [4] (fun x wx => ∃ n : Nat, x = .int .i64 n ∧ n ≤ 22 ∧ Cur wx b (k + 6) ∧ w.grownBy wx (some b))
  case first =>
    cases o
    · go_wp2_with fail
      go_meet
      exact ⟨r.toNat, by rw [Int.toNat_of_nonneg hr'.1], by omega, hc2.more (by omega), G2⟩
    · go_wp2_with fail
      refine (pick_any 2 (by omega) _ b _ hc2 (by omega)).mono ?_
      rintro e v3 ⟨r2, rfl, hr2, hc3, hg3⟩
      have hr2' : 0 ≤ r2 ∧ r2 ≤ 2 := by obtain ⟨q1, q2⟩ := hr2; omega
      have q4 : IntKind.i64.wrap (20 + r2) = 20 + r2 := IntWalk.i64_in _ (by omega)
      clear hr2
      go_wp2_with fail
      go_meet
      exact ⟨(20 + r2).toNat, by rw [Int.toNat_of_nonneg (by omega)], by omega, hc3.more (by omega), grown_trans G2 hg3⟩
  case rest =>
    obtain ⟨n, rfl, hn, hc3, G3⟩ := hcut
    clear hc2 G2
    go_wp2_with fail
    go_loopw [3] (fun o wr => ∃ zs, IS wr w.heap.size o zs ∧ zs.length ≤ n ∧ Cur wr b (k + 6 + 4 * zs.length) ∧ w.grownBy wr (some b)) (fun o _ => 30 - lenP o)
    case atStart => exact ⟨[], IS.nil_ _ _, by simp, hc3, G3⟩
    case round =>
      obtain ⟨zs, ho, hl, hcr, hgr⟩ := hrel
      obtain ⟨A', cap', rfl, -, hpp⟩ := ho.parts
      have HO := Lib.hid ho
      have HPP := Lib.hid hpp
      have hsr := hgr.size
      clear ho hpp hc3 G3
      by_cases hlt : zs.length < n
      · go_wp2_with fail
        refine (num_any _ b _ hcr (by omega)).mono ?_
        rintro e x3 ⟨q, rfl, -, c3, g3⟩
        have O3 := Lib.hid (HO.out.away (fun g hg => by have := (HO.out.lt g hg).1; omega) g3)
        have G3 := grown_trans hgr g3
        have hs3 := G3.size
        have ho' : x3.ownsRow w.heap.size 3 1 (.slice A' zs.length cap') zs.length (ints zs) := O3.out
        go_wp2_with (at_builtin; refine wpList_append_own _ rfl _ _ 24 rfl w.heap.size 3 i0 (.int .i64 0) 1 8 Tryd.underlying24 hi hz0 hz1 hz2 rfl (by decide) _ _ _ rfl (ho'.alloc _) ⟨x3.heap.size, 0, none⟩ 1 1 [.int .i64 q] rfl rfl (one_new _ _) (by simp [Value.oneCell']) (by unfold maxLen; omega) (by omega) (by simp; omega) ?_; intro v' x4 hown' hgrow hnil)
        have hrow := IS.snoc rfl hown'
        obtain ⟨A2, cap2, hv', -, -⟩ := hrow.parts
        have hne : ∀ k, (Value.slice A' zs.length cap').ownBlock = some k → w.heap.size ≤ k := fun k hk => (O3.out.lt k hk).1
        have c4 : Cur x4 b (k + 6 + 4 * (zs ++ [q]).length) := ((c3.alloc (.cells #[.int .i64 q] 3)).same (fun i hi => hgrow.block i (by have := c3.lt; simp; omega) (fun he => by
          have := hne i he.symm
          omega))).more (by simp; omega)
        have G4 := grown_own (grown_alloc G3 _) hgrow hne
        go_wp2
        go_roundw
        case rel => exact ⟨zs ++ [q], hrow, by simp; omega, c4, G4⟩
        case measure => rw [hv']; simp [lenP]; omega
      · obtain ⟨zs0, hzs⟩ : ∃ z, z = zs := ⟨_, rfl⟩
        have hln : n = zs0.length := by rw [hzs]; omega
        have hkk : Cur wr b (k + 100) := hcr.more (by omega)
        subst hln
        subst hzs
        by_cases h1 : 1 < zs0.length
        · obtain ⟨g0, rfl, -⟩ := HPP.out 0 (by omega)
          go_wp2_with fail
          refine (one_any 3 (by omega) _ b _ hkk (by omega)).mono ?_
          rintro e x1 ⟨o1, rfl, c1, g1⟩
          have O1 := Lib.hid (IS.away HO.out (fun g hg => by have := (HO.out.lt g hg).1; omega) g1)
          have G1 := grown_trans hgr g1
          cases o1
          · skip
            by_cases h2 : 0 < zs0.length
            · go_wp2_with fail
              refine (one_any 24 (by omega) _ b _ c1 (by omega)).mono ?_
              rintro e y1 ⟨o2, rfl, d1, e1⟩
              have P1 := Lib.hid (IS.away O1.out (fun g hg => by have := (O1.out.lt g hg).1; omega) e1)
              have H1 := grown_trans G1 e1
              cases o2
              · go_wp2
                go_ret
                exact ⟨_, _, rfl, P1.out, by first | (simp; omega) | omega, d1.more (by omega), H1⟩
              · go_wp2_with fail
                refine (pick_any _ (by omega) _ b _ d1 (by omega)).mono ?_
                rintro e y2 ⟨i, rfl, hi, d2, e2⟩
                obtain ⟨i', rfl⟩ : ∃ i' : Nat, i = i' := ⟨i.toNat, by omega⟩
                have hi' : i' < zs0.length := by omega
                have P2 := Lib.hid (IS.away P1.out (fun g hg => by have := (P1.out.lt g hg).1; omega) e2)
                have H2 := grown_trans H1 e2
                clear hi
                go_wp2_with fail
                refine (anyNum_any _ b _ d2 (by omega)).mono ?_
                rintro e y3 ⟨q, rfl, -, d3, e3⟩
                have P3 := Lib.hid (IS.away P2.out (fun g hg => by have := (P2.out.lt g hg).1; omega) e3)
                have H3 := grown_trans H2 e3
                have hrw : y3.ownsRow w.heap.size 3 1 (.slice (some ⟨g0, 0, none⟩) zs0.length cap') zs0.length (ints (zs0)) := by have h9 := P3.out; unfold IS at h9; first | exact h9 | rwa [List.length_set] at h9
                have fz := World.ownsRow.frozenAt hrw i'
                have cz := World.ownsRow.cellAt hrw i' (by omega)
                rw [getD_ints _ _ (by first | (simp; omega) | omega)] at cz
                have hgb := (P3.out.lt g0 rfl).1
                have HST := Lib.hid (IS.store' (by simp) hrw i' q)
                clear hrw
                go_wp2
                go_ret
                exact ⟨_, _, rfl, HST.out, by simp; omega, (d3.set1 (by omega)).more (by omega), grown_setD H3 (by omega)⟩
            · exfalso; omega
          · go_wp2_with fail
            refine (pick_any _ (by omega) _ b _ c1 (by omega)).mono ?_
            rintro e x2 ⟨i1, rfl, hi1, c2, g2⟩
            obtain ⟨i, rfl⟩ : ∃ i' : Nat, i1 = i' := ⟨i1.toNat, by omega⟩
            have hi' : i < zs0.length := by omega
            have O2 := Lib.hid (IS.away O1.out (fun g hg => by have := (O1.out.lt g hg).1; omega) g2)
            have G2 := grown_trans G1 g2
            clear hi1
            go_wp2_with fail
            refine (pick_any _ (by omega) _ b _ c2 (by omega)).mono ?_
            rintro e x3 ⟨j1, rfl, hj1, c3, g3⟩
            obtain ⟨j, rfl⟩ : ∃ i' : Nat, j1 = i' := ⟨j1.toNat, by omega⟩
            have hj' : j < zs0.length := by omega
            have O3 := Lib.hid (IS.away O2.out (fun g hg => by have := (O2.out.lt g hg).1; omega) g3)
            have G3 := grown_trans G2 g3
            have hgb0 := (O3.out.lt g0 rfl).1
            have f1 := World.ownsRow.frozenAt O3.out i
            have k1 := World.ownsRow.cellAt O3.out i (by omega)
            have k2 := World.ownsRow.cellAt O3.out j (by omega)
            rw [getD_ints _ _ hi'] at k1
            rw [getD_ints _ _ hj'] at k2
            have O4 := Lib.hid (O3.out.store i (gd zs0 j))
            have c4 := Cur.set1 (i := i) (u := .int .i64 (gd zs0 j)) c3 (show b < g0 by omega)
            have G4 := grown_setD (i := i) (v := .int .i64 (gd zs0 j)) G3 hgb0
            clear hj1
            go_wp2_with fail
            by_cases h2 : 0 < zs0.length
            · go_wp2_with fail
              refine (one_any 24 (by omega) _ b _ c4 (by omega)).mono ?_
              rintro e y1 ⟨o2, rfl, d1, e1⟩
              have P1 := Lib.hid (IS.away O4.out (fun g hg => by have := (O4.out.lt g hg).1; omega) e1)
              have H1 := grown_trans G4 e1
              cases o2
              · go_wp2
                go_ret
                exact ⟨_, _, rfl, P1.out, by first | (simp; omega) | omega, d1.more (by omega), H1⟩
              · go_wp2_with fail
                refine (pick_any _ (by omega) _ b _ d1 (by omega)).mono ?_
                rintro e y2 ⟨i, rfl, hi, d2, e2⟩
                obtain ⟨i', rfl⟩ : ∃ i' : Nat, i = i' := ⟨i.toNat, by omega⟩
                have hi' : i' < zs0.length := by omega
                have P2 := Lib.hid (IS.away P1.out (fun g hg => by have := (P1.out.lt g hg).1; omega) e2)
                have H2 := grown_trans H1 e2
                clear hi
                go_wp2_with fail
                refine (anyNum_any _ b _ d2 (by omega)).mono ?_
                rintro e y3 ⟨q, rfl, -, d3, e3⟩
                have P3 := Lib.hid (IS.away P2.out (fun g hg => by have := (P2.out.lt g hg).1; omega) e3)
                have H3 := grown_trans H2 e3
                have hrw : y3.ownsRow w.heap.size 3 1 (.slice (some ⟨g0, 0, none⟩) zs0.length cap') zs0.length (ints (zs0.set i (gd zs0 j))) := by have h9 := P3.out; unfold IS at h9; first | exact h9 | rwa [List.length_set] at h9
                have fz := World.ownsRow.frozenAt hrw i'
                have cz := World.ownsRow.cellAt hrw i' (by omega)
                rw [getD_ints _ _ (by first | (simp; omega) | omega)] at cz
                have hgb := (P3.out.lt g0 rfl).1
                have HST := Lib.hid (IS.store' (by simp) hrw i' q)
                clear hrw
                go_wp2
                go_ret
                exact ⟨_, _, rfl, HST.out, by simp; omega, (d3.set1 (by omega)).more (by omega), grown_setD H3 (by omega)⟩
            · exfalso; omega
        · skip
          by_cases h2 : 0 < zs0.length
          · obtain ⟨g0, rfl, -⟩ := HPP.out 0 (by omega)
            go_wp2_with fail
            refine (one_any 24 (by omega) _ b _ hkk (by omega)).mono ?_
            rintro e y1 ⟨o2, rfl, d1, e1⟩
            have P1 := Lib.hid (IS.away HO.out (fun g hg => by have := (HO.out.lt g hg).1; omega) e1)
            have H1 := grown_trans hgr e1
            cases o2
            · go_wp2
              go_ret
              exact ⟨_, _, rfl, P1.out, by first | (simp; omega) | omega, d1.more (by omega), H1⟩
            · go_wp2_with fail
              refine (pick_any _ (by omega) _ b _ d1 (by omega)).mono ?_
              rintro e y2 ⟨i, rfl, hi, d2, e2⟩
              obtain ⟨i', rfl⟩ : ∃ i' : Nat, i = i' := ⟨i.toNat, by omega⟩
              have hi' : i' < zs0.length := by omega
              have P2 := Lib.hid (IS.away P1.out (fun g hg => by have := (P1.out.lt g hg).1; omega) e2)
              have H2 := grown_trans H1 e2
              clear hi
              go_wp2_with fail
              refine (anyNum_any _ b _ d2 (by omega)).mono ?_
              rintro e y3 ⟨q, rfl, -, d3, e3⟩
              have P3 := Lib.hid (IS.away P2.out (fun g hg => by have := (P2.out.lt g hg).1; omega) e3)
              have H3 := grown_trans H2 e3
              have hrw : y3.ownsRow w.heap.size 3 1 (.slice (some ⟨g0, 0, none⟩) zs0.length cap') zs0.length (ints (zs0)) := by have h9 := P3.out; unfold IS at h9; first | exact h9 | rwa [List.length_set] at h9
              have fz := World.ownsRow.frozenAt hrw i'
              have cz := World.ownsRow.cellAt hrw i' (by omega)
              rw [getD_ints _ _ (by first | (simp; omega) | omega)] at cz
              have hgb := (P3.out.lt g0 rfl).1
              have HST := Lib.hid (IS.store' (by simp) hrw i' q)
              clear hrw
              go_wp2
              go_ret
              exact ⟨_, _, rfl, HST.out, by simp; omega, (d3.set1 (by omega)).more (by omega), grown_setD H3 (by omega)⟩
          · go_wp2
            go_ret
            exact ⟨_, _, rfl, HO.out, by first | (simp; omega) | omega, hkk.more (by omega), hgr⟩
end Go.Proofs.YtiopinhdfoinoacDoor

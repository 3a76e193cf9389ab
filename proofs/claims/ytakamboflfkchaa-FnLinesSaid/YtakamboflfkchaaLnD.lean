/-
  Lists of lines, and the lines of a list that a point is on: what each call returns.
  Conditions: the slice reads as the list that is named; its integers are Go's.
-/
import Derived.Test.YtakamboflfkchaaLnC
namespace Go.Proofs.Ytakamboflfkchaa
set_option linter.unusedSimpArgs false
set_option linter.unusedVariables false
open Go.ChangeShapes Go.WideShapes Go.ChangeAt Go.RowKit
open Go.Sort (grow)

/-- The slice value v is of this call's own and reads as a list of lines. -/
abbrev LnS (w : World) (B : Nat) (v : Value) (l : List Tm) : Prop := FS 24 3 w B v l.length (flatT l)
theorem LnS.parts {w : World} {B : Nat} {v : Value} {l : List Tm} (h : LnS w B v l) : ∃ A cap, v = .slice A l.length cap ∧ l.length ≤ maxLen ∧ ∀ k, k < l.length → ∃ g, A = some ⟨g, 0, none⟩ ∧ X3 w g (k * 3) (td l k) := by
  obtain ⟨A, cap, rfl, hm, hp⟩ := FS.parts h
  refine ⟨A, cap, rfl, hm, fun k hk => ?_⟩
  obtain ⟨g, rfl, c0⟩ := hp (k * 3) (by omega)
  obtain ⟨g', hg, c1⟩ := hp (k * 3 + 1) (by omega)
  cases hg
  obtain ⟨g', hg, c2⟩ := hp (k * 3 + 2) (by omega)
  cases hg
  obtain ⟨e0, e1, e2⟩ := flatT_gd hk
  rw [e0] at c0
  rw [e1] at c1
  rw [e2] at c2
  exact ⟨g, rfl, c0, c1, c2⟩
/-- The places below k of the lines that a point is on. -/
def laL (l : List Tm) (x y : Int) : Nat → List Int
  | 0 => []
  | k + 1 => laL l x y k ++ (if lnO (td l k) x y = true then [(k : Int)] else [])
theorem laL_yes {l : List Tm} {x y : Int} {k : Nat} (h : lnO (td l k) x y = true) : laL l x y (k + 1) = laL l x y k ++ [(k : Int)] := by simp only [laL, if_pos h]
theorem laL_no {l : List Tm} {x y : Int} {k : Nat} (h : lnO (td l k) x y = false) : laL l x y (k + 1) = laL l x y k := by simp [laL, h]
theorem laL_len (l : List Tm) (x y : Int) (k : Nat) : (laL l x y k).length ≤ k := by
  induction k with
  | zero => simp [laL]
  | succ k ih =>
    simp only [laL, List.length_append]
    split <;> simp <;> omega
/-- Are lines asked for at a point. -/
def laB (l : List Tm) (x y : Int) : Bool := decide (l.length ≤ 12) && (lnP x y && l.all lnB)
def laR (l : List Tm) (x y : Int) : List Int := if laB l x y = true then laL l x y l.length else []
theorem laR_yes {l : List Tm} {x y : Int} (h : laB l x y = true) : laR l x y = laL l x y l.length := if_pos h
theorem laR_no {l : List Tm} {x y : Int} (h : laB l x y = false) : laR l x y = [] := if_neg (by simp [h])
theorem laB_no1 {l : List Tm} {x y : Int} (h : ¬ l.length ≤ 12) : laB l x y = false := by simp [laB, h]
theorem laB_no2 {l : List Tm} {x y : Int} (h : lnP x y = false) : laB l x y = false := by simp [laB, h]
theorem laB_no3 {l : List Tm} {x y : Int} {k : Nat} (hk : k < l.length) (h : lnB (td l k) = false) : laB l x y = false := by
  have : l.all lnB = false := by
    rw [List.all_eq_false]
    exact ⟨l[k], List.getElem_mem hk, by rw [td_eq l k hk] at h; simpa using h⟩
  simp [laB, this]
theorem laB_yes {l : List Tm} {x y : Int} (h1 : l.length ≤ 12) (h2 : lnP x y = true) (h3 : ∀ k, k < l.length → lnB (td l k) = true) : laB l x y = true := by
  have : l.all lnB = true := by
    rw [List.all_eq_true]
    intro t ht
    obtain ⟨k, hk, rfl⟩ := List.getElem_of_mem ht
    have := h3 k hk
    rwa [td_eq l k hk] at this
  simp [laB, h1, h2, this]
theorem laR_le (l : List Tm) (x y : Int) : (laR l x y).length ≤ 12 := by
  unfold laR
  split
  · rename_i h
    have : l.length ≤ 12 := by
      unfold laB at h
      simp only [Bool.and_eq_true, decide_eq_true_eq] at h
      exact h.1
    exact Nat.le_trans (laL_len _ _ _ _) this
  · simp
set_option maxHeartbeats 2000000 in
set_option maxRecDepth 100000 in
theorem specLinesAt_any (w : World) (B : Nat) (v : Value) (l : List Tm) (x y : Int) (h : LnS w B v l) : Calls Try.prog 18 #[v, .int .i64 x, .int .i64 y] w fun e w' => GivesIB (laB l x y) (laR l x y) w e w' := by
  obtain ⟨A, cap, rfl, hm, hp⟩ := LnS.parts h
  have HP := Lib.hid hp
  unfold maxLen at hm
  obtain ⟨n, hn⟩ : ∃ n, n = l.length := ⟨_, rfl⟩
  have HN := Lib.hid hn
  rw [← hn] at hm ⊢
  clear hp h hn
  have F0 := Lib.hid (fun W => poFinite_any x W)
  have F1 := Lib.hid (fun W => poFinite_any y W)
  by_cases h12 : n ≤ 12
  · cases h0 : finB x
    · rw [h0] at F0
      have HB := Lib.hid (laB_no2 (l := l) (show lnP x y = false by unfold lnP; rw [h0]; rfl))
      rw [HB.out]
      have HR := Lib.hid (laR_no HB.out)
      clear h0
      go_enter Try.func18, Try.ntmps18
      go_wp2_with fail
      refine (F0.out _).mono ?_
      rintro e w' ⟨rfl, rfl⟩
      go_wp2
      go_ret2
      exact givesIB_nil rfl HR.out (Below.refl _ _)
    · rw [h0] at F0
      cases h1 : finB y
      · rw [h1] at F1
        have HB := Lib.hid (laB_no2 (l := l) (show lnP x y = false by unfold lnP; rw [h1]; simp))
        rw [HB.out]
        have HR := Lib.hid (laR_no HB.out)
        clear h0 h1
        go_enter Try.func18, Try.ntmps18
        go_wp2_with fail
        refine (F0.out _).mono ?_
        rintro e w' ⟨rfl, rfl⟩
        go_wp2_with fail
        refine (F1.out _).mono ?_
        rintro e w' ⟨rfl, rfl⟩
        go_wp2
        go_ret2
        exact givesIB_nil rfl HR.out (Below.refl _ _)
      · rw [h1] at F1
        have hP : lnP x y = true := by unfold lnP; rw [h0, h1]; rfl
        have HPP := Lib.hid hP
        have H12 := Lib.hid (show l.length ≤ 12 by rw [← HN.out]; exact h12)
        clear hP h0 h1
        obtain ⟨i0, hi, hz0, hz1, hz2⟩ := info_parts infoInt
        go_enter Try.func18, Try.ntmps18
        go_wp2_with fail
        refine (F0.out _).mono ?_
        rintro e w' ⟨rfl, rfl⟩
        go_wp2_with fail
        refine (F1.out _).mono ?_
        rintro e w' ⟨rfl, rfl⟩
        go_wp2_with fail
        go_loopw [8, 26] (fun o i wr => ∃ k : Nat, k ≤ n ∧ i = .int .i64 k ∧ IS wr w.heap.size o (laL l x y k) ∧ Below w.heap.size w wr ∧ Hid (∀ j, j < k → lnB (td l j) = true)) (fun _ i _ => n - (intOf i).toNat)
        case atStart => exact ⟨0, by omega, rfl, IS.nil_ _ _, Below.refl _ _, fun j hj => by omega⟩
        case round =>
          obtain ⟨k, hk, rfl, ho, hb, hall⟩ := hrel
          by_cases hlt : k < n
          · have HK := Lib.hid (show k < l.length by rw [← HN.out]; exact hlt)
            obtain ⟨g, rfl, hc0⟩ := HP.out k HK.out
            have hc := X3.below hc0 hb
            have hS := T3.new wr (td l k) 24
            have hgl : g < wr.heap.size := cell_lt hc.1
            have hpl := laL_len l x y k
            have hsz := hb.size
            have HI := Lib.hid (fun W => lnGood_any (td l k) W)
            cases hq : lnB (td l k)
            · have HB := Lib.hid (laB_no3 (x := x) (y := y) HK.out hq)
              have HR := Lib.hid (laR_no HB.out)
              rw [hq] at HI
              skip
              generalize td l k = t at hc hS HI
              obtain ⟨a, b, c⟩ := t
              obtain ⟨c0, c1, c2⟩ := hc
              clear hc0 hq ho
              go_wp2_with fail
              refine (HI.out _).mono ?_
              rintro e w1 ⟨rfl, b1⟩
              go_wp2
              go_ret2
              exact givesIB_nil HB.out HR.out (bel2 (bel2 hb ((Below.refl _ _).alloc (Nat.le_refl _) _)) b1.below)
            · have HA2 := Lib.hid (show ∀ j, j < k + 1 → lnB (td l j) = true from fun j hj => by
                by_cases hjk : j = k
                · rw [hjk]; exact hq
                · exact hall.out j (by omega))
              have HT := Lib.hid (fun W => lnTerms_any (td l k) x y (lnA_yes hq HPP.out) W)
              have HO := Lib.hid (show lnO (td l k) x y = decide (1 < (lnT (td l k) x y).length) from rfl)
              rw [hq] at HI
              cases hO : lnO (td l k) x y
              · have HPL := Lib.hid (laL_no hO)
                rw [hO] at HO
                have hlen : ¬ 1 < (lnT (td l k) x y).length := by have := HO.out; simp at this; omega
                have HLEN := Lib.hid hlen
                generalize lnT (td l k) x y = zs at HT hlen HLEN
                generalize td l k = t at hc hS HI HT
                obtain ⟨a, b, c⟩ := t
                obtain ⟨c0, c1, c2⟩ := hc
                clear hc0 hq hO hall HO
                go_wp2_with fail
                refine (HI.out _).mono ?_
                rintro e w1 ⟨rfl, g1⟩
                obtain ⟨e0, e1, e2⟩ := hS.below g1.below
                have hl2 := cell_lt e0
                have b1 : Below wr.heap.size wr w1 := bel2 ((Below.refl _ _).alloc (Nat.le_refl _) _) g1.below
                clear g1 c0 c1 c2 hS hgl
                go_wp2_with fail
                refine (HT.out _).mono ?_
                rintro e w2 ⟨r, rfl, hr, b2⟩
                obtain ⟨A', cap', rfl, hm', hp'⟩ := hr.parts
                have ho1 := ho.below (bel2 b1 b2)
                have hb1 := bel2 hb (bel2 b1 b2)
                clear e0 e1 e2 hl2 hr hp' ho hb b1 b2
                go_wp2
                go_roundw
                case rel => exact ⟨k + 1, by omega, by go_num, by rw [HPL.out]; exact ho1, hb1, HA2.out⟩
                case measure => simp [intOf]; omega
              · have HPL := Lib.hid (laL_yes hO)
                rw [hO] at HO
                have hlen : 1 < (lnT (td l k) x y).length := by have := HO.out; simp at this; omega
                have HLEN := Lib.hid hlen
                generalize lnT (td l k) x y = zs at HT hlen HLEN
                generalize td l k = t at hc hS HI HT
                obtain ⟨a, b, c⟩ := t
                obtain ⟨c0, c1, c2⟩ := hc
                clear hc0 hq hO hall HO
                go_wp2_with fail
                refine (HI.out _).mono ?_
                rintro e w1 ⟨rfl, g1⟩
                obtain ⟨e0, e1, e2⟩ := hS.below g1.below
                have hl2 := cell_lt e0
                have b1 : Below wr.heap.size wr w1 := bel2 ((Below.refl _ _).alloc (Nat.le_refl _) _) g1.below
                clear g1 c0 c1 c2 hS hgl
                go_wp2_with fail
                refine (HT.out _).mono ?_
                rintro e w2 ⟨r, rfl, hr, b2⟩
                obtain ⟨A', cap', rfl, hm', hp'⟩ := hr.parts
                have ho1 := ho.below (bel2 b1 b2)
                have hb1 := bel2 hb (bel2 b1 b2)
                clear e0 e1 e2 hl2 hr hp' ho hb b1 b2
                have ho' : w2.ownsRow w.heap.size 3 1 u8 (laL l x y k).length (ints (laL l x y k)) := ho1
                have hsz1 := hb1.size
                go_wp2_with (at_builtin; refine wpList_append_own _ rfl _ _ 27 rfl w.heap.size 3 i0 (.int .i64 0) 1 8 Try.underlying27 hi hz0 hz1 hz2 rfl (by decide) _ _ _ rfl (ho'.alloc _) ⟨w2.heap.size, 0, none⟩ 1 1 [.int .i64 (k : Int)] rfl rfl (one_new _ _) (by simp [Value.oneCell']) (by unfold maxLen; omega) (by omega) (by have := hb1.size; simp; omega) ?_; intro v' w9 hown' hgrow hnil)
                have hb' : Below w.heap.size w w9 := (hb1.alloc hb1.size _).grown hgrow (by have := hb1.size; simp; omega) (fun g' hg' => (World.ownsRow.lt ho' g' hg').1)
                have hrow := IS.snoc rfl hown'
                rw [← HPL.out] at hrow
                go_wp2
                go_roundw
                case rel => exact ⟨k + 1, by omega, by go_num, hrow, hb', HA2.out⟩
                case measure => simp [intOf]; omega
          · obtain rfl : k = n := by omega
            go_wp2
            go_ret2
            have hB : laB l x y = true := laB_yes H12.out HPP.out (fun j hj => hall.out j (by rw [HN.out]; exact hj))
            exact givesIB_yes hB (by rw [laR_yes hB, ← HN.out]; exact ho) hb
  · have HB := Lib.hid (laB_no1 (x := x) (y := y) (show ¬ l.length ≤ 12 by rw [← HN.out]; exact h12))
    rw [HB.out]
    have HR := Lib.hid (laR_no HB.out)
    skip
    go_enter Try.func18, Try.ntmps18
    go_wp2
    go_ret2
    exact givesIB_nil rfl HR.out (Below.refl _ _)
set_option maxHeartbeats 2000000 in
set_option maxRecDepth 100000 in
theorem implLinesAt_any (w : World) (B : Nat) (v : Value) (l : List Tm) (x y : Int) (hw : ∀ k, k < l.length → wfT (td l k)) (h : LnS w B v l) : Calls Try.prog 17 #[v, .int .i64 x, .int .i64 y] w fun e w' => GivesIB (laB l x y) (laR l x y) w e w' := by
  obtain ⟨A, cap, rfl, hm, hp⟩ := LnS.parts h
  have HP := Lib.hid hp
  unfold maxLen at hm
  obtain ⟨n, hn⟩ : ∃ n, n = l.length := ⟨_, rfl⟩
  have HN := Lib.hid hn
  rw [← hn] at hm ⊢
  clear hp h hn
  have HW := Lib.hid hw
  have F0 := Lib.hid (fun W => arePlace_any x y W)
  clear hw
  by_cases h12 : n ≤ 12
  · cases h0 : lnP x y
    · rw [h0] at F0
      have HB := Lib.hid (laB_no2 (l := l) h0)
      rw [HB.out]
      have HR := Lib.hid (laR_no HB.out)
      clear h0
      go_enter Try.func17, Try.ntmps17
      go_wp2_with fail
      refine (F0.out _).mono ?_
      rintro e w' ⟨rfl, rfl⟩
      go_wp2
      go_ret2
      exact givesIB_nil rfl HR.out (Below.refl _ _)
    · rw [h0] at F0
      have hP := h0
      have HPP := Lib.hid hP
      have H12 := Lib.hid (show l.length ≤ 12 by rw [← HN.out]; exact h12)
      clear hP h0
      obtain ⟨i0, hi, hz0, hz1, hz2⟩ := info_parts infoInt
      go_enter Try.func17, Try.ntmps17
      go_wp2_with fail
      refine (F0.out _).mono ?_
      rintro e w' ⟨rfl, rfl⟩
      go_wp2_with fail
      go_loopw [8, 24] (fun o i wr => ∃ k : Nat, k ≤ n ∧ i = .int .i64 k ∧ IS wr w.heap.size o (laL l x y k) ∧ Below w.heap.size w wr ∧ Hid (∀ j, j < k → lnB (td l j) = true)) (fun _ i _ => n - (intOf i).toNat)
      case atStart => exact ⟨0, by omega, rfl, IS.nil_ _ _, Below.refl _ _, fun j hj => by omega⟩
      case round =>
        obtain ⟨k, hk, rfl, ho, hb, hall⟩ := hrel
        by_cases hlt : k < n
        · have HK := Lib.hid (show k < l.length by rw [← HN.out]; exact hlt)
          obtain ⟨g, rfl, hc0⟩ := HP.out k HK.out
          have hc := X3.below hc0 hb
          have hS := T3.new wr (td l k) 24
          have hgl : g < wr.heap.size := cell_lt hc.1
          have hpl := laL_len l x y k
          have hsz := hb.size
          have HI := Lib.hid (fun W => implIsOnLine_any (td l k) x y (HW.out k HK.out) W)
          cases hq : lnB (td l k)
          · have HB := Lib.hid (laB_no3 (x := x) (y := y) HK.out hq)
            have HR := Lib.hid (laR_no HB.out)
            rw [lnA_no1 hq] at HI
            rw [lnOR_no (lnA_no1 hq)] at HI
            generalize td l k = t at hc hS HI
            obtain ⟨a, b, c⟩ := t
            obtain ⟨c0, c1, c2⟩ := hc
            clear hc0 hq ho
            go_wp2_with fail
            refine (HI.out _).mono ?_
            rintro e w1 ⟨rfl, b1⟩
            go_wp2
            go_ret2
            exact givesIB_nil HB.out HR.out (bel2 (bel2 hb ((Below.refl _ _).alloc (Nat.le_refl _) _)) b1)
          · have HA2 := Lib.hid (show ∀ j, j < k + 1 → lnB (td l j) = true from fun j hj => by
              by_cases hjk : j = k
              · rw [hjk]; exact hq
              · exact hall.out j (by omega))
            have hA := lnA_yes hq HPP.out
            rw [hA, lnOR_yes hA] at HI
            cases hO : lnO (td l k) x y
            · have HPL := Lib.hid (laL_no hO)
              rw [hO] at HI
              generalize td l k = t at hc hS HI
              obtain ⟨a, b, c⟩ := t
              obtain ⟨c0, c1, c2⟩ := hc
              clear hc0 hq hO hall hA
              go_wp2_with fail
              refine (HI.out _).mono ?_
              rintro e w2 ⟨rfl, b1⟩
              have b2 : Below wr.heap.size wr w2 := bel2 ((Below.refl _ _).alloc (Nat.le_refl _) _) b1
              have ho1 := ho.below b2
              have hb1 := bel2 hb b2
              clear c0 c1 c2 hS hgl b1 b2 ho hb
              go_wp2
              go_roundw
              case rel => exact ⟨k + 1, by omega, by go_num, by rw [HPL.out]; exact ho1, hb1, HA2.out⟩
              case measure => simp [intOf]; omega
            · have HPL := Lib.hid (laL_yes hO)
              rw [hO] at HI
              generalize td l k = t at hc hS HI
              obtain ⟨a, b, c⟩ := t
              obtain ⟨c0, c1, c2⟩ := hc
              clear hc0 hq hO hall hA
              go_wp2_with fail
              refine (HI.out _).mono ?_
              rintro e w2 ⟨rfl, b1⟩
              have b2 : Below wr.heap.size wr w2 := bel2 ((Below.refl _ _).alloc (Nat.le_refl _) _) b1
              have ho1 := ho.below b2
              have hb1 := bel2 hb b2
              clear c0 c1 c2 hS hgl b1 b2 ho hb
              have ho' : w2.ownsRow w.heap.size 3 1 u8 (laL l x y k).length (ints (laL l x y k)) := ho1
              have hsz1 := hb1.size
              go_wp2_with (at_builtin; refine wpList_append_own _ rfl _ _ 27 rfl w.heap.size 3 i0 (.int .i64 0) 1 8 Try.underlying27 hi hz0 hz1 hz2 rfl (by decide) _ _ _ rfl (ho'.alloc _) ⟨w2.heap.size, 0, none⟩ 1 1 [.int .i64 (k : Int)] rfl rfl (one_new _ _) (by simp [Value.oneCell']) (by unfold maxLen; omega) (by omega) (by have := hb1.size; simp; omega) ?_; intro v' w9 hown' hgrow hnil)
              have hb' : Below w.heap.size w w9 := (hb1.alloc hb1.size _).grown hgrow (by have := hb1.size; simp; omega) (fun g' hg' => (World.ownsRow.lt ho' g' hg').1)
              have hrow := IS.snoc rfl hown'
              rw [← HPL.out] at hrow
              go_wp2
              go_roundw
              case rel => exact ⟨k + 1, by omega, by go_num, hrow, hb', HA2.out⟩
              case measure => simp [intOf]; omega
        · obtain rfl : k = n := by omega
          go_wp2
          go_ret2
          have hB : laB l x y = true := laB_yes H12.out HPP.out (fun j hj => hall.out j (by rw [HN.out]; exact hj))
          exact givesIB_yes hB (by rw [laR_yes hB, ← HN.out]; exact ho) hb
  · have HB := Lib.hid (laB_no1 (x := x) (y := y) (show ¬ l.length ≤ 12 by rw [← HN.out]; exact h12))
    rw [HB.out]
    have HR := Lib.hid (laR_no HB.out)
    skip
    go_enter Try.func17, Try.ntmps17
    go_wp2
    go_ret2
    exact givesIB_nil rfl HR.out (Below.refl _ _)
end Go.Proofs.Ytakamboflfkchaa

/-
  Rows of plane polynomials: what the program's and the model's calls return.
  Condition: the slice reads as the list that is named.
-/
import Derived.Test.YtibdbgeknphljaaPlW
namespace Go.Proofs.Ytibdbgeknphljaa
set_option linter.unusedSimpArgs false
set_option linter.unusedVariables false
open Go.ChangeShapes Go.WideShapes Go.ChangeAt Go.RowKit
open Go.Sort (grow)

/-- A term's block, whole. -/
def Bx (w : World) (h : Nat) (t : Tm) : Prop := w.heap[h]? = some (.cells #[.int .i64 t.1, .int .i64 t.2.1, .int .i64 t.2.2] 54 (0, 0))
theorem Bx.new (w : World) (t : Tm) : Bx (w.alloc (.cells #[.int .i64 t.1, .int .i64 t.2.1, .int .i64 t.2.2] 54)) w.heap.size t := heap_alloc_new w _
theorem Bx.lt {w : World} {h : Nat} {t : Tm} (b : Bx w h t) : h < w.heap.size := (Array.getElem?_eq_some_iff.1 b).1
theorem Bx.cells {w : World} {h : Nat} {t : Tm} (b : Bx w h t) : T3 w h t :=
  ⟨cell_of_row w h 0 _ _ (0, 0) b, cell_of_row w h 1 _ _ (0, 0) b, cell_of_row w h 2 _ _ (0, 0) b⟩
theorem Bx.below {w w' : World} {h : Nat} {t : Tm} (b : Bx w h t) (hb : Below w.heap.size w w') : Bx w' h t := (hb.block h b.lt).trans b
theorem Bx.alloc {w : World} {h : Nat} {t : Tm} (b : Bx w h t) (o : Obj) : Bx (w.alloc o) h t := b.below ((Below.refl _ _).alloc (Nat.le_refl _) o)
/-- A row of integers is another block. -/
theorem Bx.ne {w : World} {h : Nat} {t : Tm} (b : Bx w h t) {B n : Nat} {v : Value} {zs : List Value} (r : w.ownsRow B 3 1 v n zs) : some h ≠ v.ownBlock := by
  intro he
  rcases r.2 with ⟨rfl, -⟩ | ⟨g, cap, cur, rfl, -, hg, -⟩
  · cases he
  · simp only [Value.ownBlock, Option.some.injEq] at he
    subst he
    rw [b] at hg
    simp at hg
theorem Bx.grown {w w' : World} {h : Nat} {t : Tm} (b : Bx w h t) {row : Option Nat} (hg : w.grownBy w' row) (hn : some h ≠ row) : Bx w' h t := (hg.block h b.lt hn).trans b
theorem rw_none {l : List Tm} {j : Int} {k : Nat} (h : (td l k).2.1 ≠ j) : rwL l j (k + 1) = rwL l j k := by rw [rwL, if_neg h]
theorem rw_more {l : List Tm} {j : Int} {k i : Nat} (h : (td l k).2.1 = j) (hi : (td l k).1 = i) : rwL l j (k + 1) = rwL l j k ++ List.replicate (i - (rwL l j k).length) 1000000000 ++ [(td l k).2.2] := by rw [rwL, if_pos h, hi]; rfl
theorem rep_snoc (zs : List Int) (m : Nat) (x : Int) : zs ++ List.replicate m x ++ [x] = zs ++ List.replicate (m + 1) x := by rw [List.replicate_succ', List.append_assoc]
def lenVv : Value → Nat
  | .slice _ n _ => n
  | _ => 0
set_option maxHeartbeats 2000000 in
set_option maxRecDepth 100000 in
theorem specRowOf_any (w : World) (B : Nat) (v : Value) (l : List Tm) (j : Int) (h : TmS w B v l) : Calls Try.prog 40 #[v, .int .i64 j] w fun e w' => GivesIB (rwB l j) (rwR l j) w e w' := by
  cases hl : plB l
  · obtain ⟨n1, n2⟩ := rw_no1 (j := j) hl
    have HL := Lib.hid hl
    have HN1 := Lib.hid n1
    have HN2 := Lib.hid n2
    clear hl n1 n2
    go_enter Try.func40, Try.ntmps40
    go_wp2_with fail
    refine (plGood_any _ B _ l h).mono ?_
    rintro e w1 ⟨rfl, b1⟩
    rw [HL.out]
    go_wp2
    go_ret2
    exact givesIB_nil HN1.out HN2.out b1
  · have HL := Lib.hid hl
    clear hl
    cases hj : inB j 0 6
    · obtain ⟨n1, n2⟩ := rw_no2 (l := l) hj
      have HJ := Lib.hid hj
      have HN1 := Lib.hid n1
      have HN2 := Lib.hid n2
      clear n1 n2
      clear hj
      go_enter Try.func40, Try.ntmps40
      go_wp2_with fail
      refine (plGood_any _ B _ l h).mono ?_
      rintro e w1 ⟨rfl, b1⟩
      rw [HL.out]
      go_wp2_with fail
      refine (l1In_any _ _ _ _).mono ?_
      rintro e w' ⟨rfl, rfl⟩
      rw [HJ.out]
      go_wp2
      go_ret2
      exact givesIB_nil HN1.out HN2.out b1
    · have HJ := Lib.hid hj
      have HB := Lib.hid (rw_yes HL.out hj)
      have HPO := Lib.hid (rwL_po HL.out j)
      obtain ⟨hj1, hj2⟩ := (inB_iff _ _ _).1 hj
      have H0 := Lib.hid h
      obtain ⟨A, cap, rfl, hm, hp⟩ := TmS.parts h
      have HP := Lib.hid hp
      have h2n := (plB_le HL.out).2
      obtain ⟨n, hn⟩ : ∃ n, n = l.length := ⟨_, rfl⟩
      have HN := Lib.hid hn
      obtain ⟨i0, hi, hz0, hz1, hz2⟩ := info_parts infoInt
      clear hp h hm hj
      go_enter Try.func40, Try.ntmps40
      go_wp2_with fail
      refine (plGood_any _ B _ l H0.out).mono ?_
      rintro e w1 ⟨rfl, b1⟩
      rw [HL.out]
      go_wp2_with fail
      refine (l1In_any _ _ _ _).mono ?_
      rintro e w' ⟨rfl, rfl⟩
      rw [HJ.out]
      rw [← hn] at h2n ⊢
      clear hn
      go_wp2
      go_loopw [6, 19] (fun o i wr => ∃ k : Nat, k ≤ n ∧ i = .int .i64 k ∧ IS wr w.heap.size o (rwL l j k) ∧ Below w.heap.size w wr) (fun _ i _ => n - (intOf i).toNat)
      case atStart => exact ⟨0, by omega, rfl, IS.nil_ _ _, b1⟩
      case round =>
        obtain ⟨k, hk, rfl, ho, hb⟩ := hrel
        by_cases hlt : k < n
        · have hkl : k < l.length := by rw [← HN.out]; exact hlt
          obtain ⟨g, rfl, hc0⟩ := HP.out k hkl
          obtain ⟨c0, c1, c2⟩ := X3.below hc0 hb
          have hbA := hb.alloc hb.size (.cells #[.int .i64 (td l k).1, .int .i64 (td l k).2.1, .int .i64 (td l k).2.2] 54)
          have hoA := ho.alloc (.cells #[.int .i64 (td l k).1, .int .i64 (td l k).2.1, .int .i64 (td l k).2.2] 54)
          have hbx := Bx.new wr (td l k)
          have hpt := plT_parts (plB_at HL.out hkl)
          clear hc0
          by_cases hjk : (td l k).2.1 = j
          · obtain ⟨a, ha⟩ : ∃ a : Nat, (td l k).1 = a := ⟨(td l k).1.toNat, by omega⟩
            have HM := Lib.hid (rw_more (l := l) hjk ha)
            have hle := rwL_le HL.out j k hkl hjk
            rw [ha] at hle c0 hbA hoA hbx
            have ha6 : a ≤ 6 := by omega
            obtain ⟨zs, hzs⟩ : ∃ zs, zs = rwL l j k := ⟨_, rfl⟩
            rw [← hzs] at HM hle hoA
            obtain ⟨c, hce⟩ : ∃ c, c = (td l k).2.2 := ⟨_, rfl⟩
            rw [← hce] at HM c2 hbA hoA hbx
            have hle' : zs.length ≤ a := by omega
            unfold Bx at hbx
            rw [ha, hjk, ← hce] at hbx
            rw [hjk] at c1 hbA hoA
            have hbx : Bx (wr.alloc (.cells #[.int .i64 (a : Int), .int .i64 j, .int .i64 c] 54)) wr.heap.size ((a : Int), j, c) := hbx
            clear hpt hle hzs hce ha ho hb
            go_wp2
            go_loopw [6] (fun o wq => ∃ W : World, W = wq ∧ ∃ m : Nat, zs.length + m ≤ a ∧ IS wq w.heap.size o (zs ++ List.replicate m 1000000000) ∧ Bx wq wr.heap.size ((a : Int), j, c) ∧ Below w.heap.size w wq ∧ wr.heap.size < wq.heap.size) (fun o _ => a - lenVv o)
            case atStart => exact ⟨_, rfl, 0, by omega, by simpa using hoA, hbx, hbA, by simp⟩
            case round =>
              obtain ⟨wq, rfl, m, hm, ho2, hbx2, hb2, hsz⟩ := hrel
              have hL : (zs ++ List.replicate m 1000000000).length = zs.length + m := by simp
              obtain ⟨A2, cap2, rfl, -, -⟩ := ho2.parts
              have ho2' : wq.ownsRow w.heap.size 3 1 (.slice A2 (zs.length + m : Nat) cap2) (zs.length + m) (ints (zs ++ List.replicate m 1000000000)) := by rw [← hL]; exact ho2
              have hbxA := hbx2.alloc (.cells #[.int .i64 1000000000] 3)
              obtain ⟨p0, p1, p2⟩ := hbx2.cells
              rw [hL]
              clear hL ho2
              by_cases hlm : zs.length + m < a
              · go_wp2_with (at_builtin; refine wpList_append_own _ rfl _ _ 32 rfl w.heap.size 3 i0 (.int .i64 0) 1 8 Try.underlying32 hi hz0 hz1 hz2 rfl (by decide) _ _ _ rfl (ho2'.alloc _) ⟨wq.heap.size, 0, none⟩ 1 1 [.int .i64 1000000000] rfl rfl (one_new _ _) (by simp [Value.oneCell']) (by unfold maxLen; omega) (by omega) (by have := hb2.size; simp; omega) ?_; intro v' w4 hown' hgrow hnil)
                have hb' : Below w.heap.size w w4 := (hb2.alloc hb2.size _).grown hgrow (by have := hb2.size; simp; omega) (fun g' hg' => (World.ownsRow.lt ho2' g' hg').1)
                have hrow := IS.snoc (by simp) hown'
                rw [rep_snoc] at hrow
                have hbx3 := hbxA.grown hgrow (hbxA.ne (ho2'.alloc _))
                have hsz3 : wr.heap.size < w4.heap.size := by have := hgrow.size; simp at this; omega
                obtain ⟨A3, cap3, rfl, -, -⟩ := hrow.parts
                go_wp2
                go_roundw
                case rel => exact ⟨_, rfl, m + 1, by omega, hrow, hbx3, hb', hsz3⟩
                case measure => simp [lenVv]; omega
              · have hma : a - zs.length = m := by omega
                rw [hma] at HM
                go_wp2_with (at_builtin; refine wpList_append_own _ rfl _ _ 32 rfl w.heap.size 3 i0 (.int .i64 0) 1 8 Try.underlying32 hi hz0 hz1 hz2 rfl (by decide) _ _ _ rfl (ho2'.alloc _) ⟨wq.heap.size, 0, none⟩ 1 1 [.int .i64 c] rfl rfl (one_new _ _) (by simp [Value.oneCell']) (by unfold maxLen; omega) (by omega) (by have := hb2.size; simp; omega) ?_; intro v' w4 hown' hgrow hnil)
                have hb' : Below w.heap.size w w4 := (hb2.alloc hb2.size _).grown hgrow (by have := hb2.size; simp; omega) (fun g' hg' => (World.ownsRow.lt ho2' g' hg').1)
                have hrow := IS.snoc (by simp) hown'
                rw [← HM.out] at hrow
                go_wp2
                go_roundw
                case rel => exact ⟨k + 1, by omega, by go_num, hrow, hb'⟩
                case measure => simp [intOf]; omega
          · have HM := Lib.hid (rw_none (l := l) hjk)
            have hne : ((td l k).2.1 == j) = false := by simpa using hjk
            clear hpt
            go_wp2
            go_roundw
            case rel => exact ⟨k + 1, by omega, by go_num, by rw [HM.out]; exact hoA, hbA⟩
            case measure => simp [intOf]; omega
        · obtain rfl : k = n := by omega
          rw [HN.out] at ho
          obtain ⟨A3, cap3, rfl, -, -⟩ := ho.parts
          by_cases h0 : 0 < (rwL l j l.length).length
          · have HB2 := Lib.hid (show rwB l j = true by rw [HB.out]; exact decide_eq_true h0)
            have HR := Lib.hid (show rwR l j = rwL l j l.length by unfold rwR; rw [if_pos HB2.out])
            go_wp2
            go_ret2
            exact givesIB_yes HB2.out (by rw [HR.out]; exact ho) hb
          · have HB2 := Lib.hid (show rwB l j = false by rw [HB.out]; exact decide_eq_false h0)
            have HR := Lib.hid (show rwR l j = [] by unfold rwR; rw [if_neg (by rw [HB2.out]; decide)])
            have h00 : (rwL l j l.length).length = 0 := by omega
            rw [h00]
            go_wp2
            go_ret2
            exact givesIB_nil HB2.out HR.out hb
set_option maxHeartbeats 2000000 in
set_option maxRecDepth 100000 in
theorem implRowOf_any (w : World) (B : Nat) (v : Value) (l : List Tm) (j : Int) (h : TmS w B v l) : Calls Try.prog 41 #[v, .int .i64 j] w fun e w' => GivesIB (rwB l j) (rwR l j) w e w' := by
  cases hl : plB l
  · obtain ⟨n1, n2⟩ := rw_no1 (j := j) hl
    have HL := Lib.hid hl
    have HN1 := Lib.hid n1
    have HN2 := Lib.hid n2
    clear hl n1 n2
    go_enter Try.func41, Try.ntmps41
    go_wp2_with fail
    refine (isPlane_any _ B _ l h).mono ?_
    rintro e w1 ⟨rfl, b1⟩
    rw [HL.out]
    go_wp2
    go_ret2
    exact givesIB_nil HN1.out HN2.out b1
  · have HL := Lib.hid hl
    clear hl
    cases hj : inB j 0 6
    · obtain ⟨n1, n2⟩ := rw_no2 (l := l) hj
      have HJ := Lib.hid hj
      have HN1 := Lib.hid n1
      have HN2 := Lib.hid n2
      clear n1 n2
      have hj' : j < 0 ∨ 6 < j := by
        rcases Int.lt_or_le j 0 with h | h
        · exact .inl h
        · rcases Int.lt_or_le 6 j with h' | h'
          · exact .inr h'
          · rw [(inB_iff _ _ _).2 ⟨h, h'⟩] at hj; cases hj
      clear hj
      rcases hj' with hj' | hj'
      · go_enter Try.func41, Try.ntmps41
        go_wp2_with fail
        refine (isPlane_any _ B _ l h).mono ?_
        rintro e w1 ⟨rfl, b1⟩
        rw [HL.out]
        go_wp2
        go_ret2
        exact givesIB_nil HN1.out HN2.out b1
      · have hj2 : ¬ j < 0 := by omega
        go_enter Try.func41, Try.ntmps41
        go_wp2_with fail
        refine (isPlane_any _ B _ l h).mono ?_
        rintro e w1 ⟨rfl, b1⟩
        rw [HL.out]
        go_wp2
        go_ret2
        exact givesIB_nil HN1.out HN2.out b1
    · have HJ := Lib.hid hj
      have HB := Lib.hid (rw_yes HL.out hj)
      have HPO := Lib.hid (rwL_po HL.out j)
      obtain ⟨hj1, hj2⟩ := (inB_iff _ _ _).1 hj
      have H0 := Lib.hid h
      obtain ⟨A, cap, rfl, hm, hp⟩ := TmS.parts h
      have HP := Lib.hid hp
      have h2n := (plB_le HL.out).2
      obtain ⟨n, hn⟩ : ∃ n, n = l.length := ⟨_, rfl⟩
      have HN := Lib.hid hn
      obtain ⟨i0, hi, hz0, hz1, hz2⟩ := info_parts infoInt
      clear hp h hm hj
      go_enter Try.func41, Try.ntmps41
      go_wp2_with fail
      refine (isPlane_any _ B _ l H0.out).mono ?_
      rintro e w1 ⟨rfl, b1⟩
      rw [HL.out]
      rw [← hn] at h2n ⊢
      clear hn
      go_wp2
      go_loopw [6, 22] (fun o i wr => ∃ k : Nat, k ≤ n ∧ i = .int .i64 k ∧ IS wr w.heap.size o (rwL l j k) ∧ Below w.heap.size w wr) (fun _ i _ => n - (intOf i).toNat)
      case atStart => exact ⟨0, by omega, rfl, IS.nil_ _ _, b1⟩
      case round =>
        obtain ⟨k, hk, rfl, ho, hb⟩ := hrel
        by_cases hlt : k < n
        · have hkl : k < l.length := by rw [← HN.out]; exact hlt
          obtain ⟨g, rfl, hc0⟩ := HP.out k hkl
          obtain ⟨c0, c1, c2⟩ := X3.below hc0 hb
          have hbA := hb.alloc hb.size (.cells #[.int .i64 (td l k).1, .int .i64 (td l k).2.1, .int .i64 (td l k).2.2] 54)
          have hoA := ho.alloc (.cells #[.int .i64 (td l k).1, .int .i64 (td l k).2.1, .int .i64 (td l k).2.2] 54)
          have hbx := Bx.new wr (td l k)
          have hpt := plT_parts (plB_at HL.out hkl)
          clear hc0
          by_cases hjk : (td l k).2.1 = j
          · obtain ⟨a, ha⟩ : ∃ a : Nat, (td l k).1 = a := ⟨(td l k).1.toNat, by omega⟩
            have HM := Lib.hid (rw_more (l := l) hjk ha)
            have hle := rwL_le HL.out j k hkl hjk
            rw [ha] at hle c0 hbA hoA hbx
            have ha6 : a ≤ 6 := by omega
            obtain ⟨zs, hzs⟩ : ∃ zs, zs = rwL l j k := ⟨_, rfl⟩
            rw [← hzs] at HM hle hoA
            obtain ⟨c, hce⟩ : ∃ c, c = (td l k).2.2 := ⟨_, rfl⟩
            rw [← hce] at HM c2 hbA hoA hbx
            have hle' : zs.length ≤ a := by omega
            unfold Bx at hbx
            rw [ha, hjk, ← hce] at hbx
            rw [hjk] at c1 hbA hoA
            have hbx : Bx (wr.alloc (.cells #[.int .i64 (a : Int), .int .i64 j, .int .i64 c] 54)) wr.heap.size ((a : Int), j, c) := hbx
            clear hpt hle hzs hce ha ho hb
            go_wp2
            go_loopw [6] (fun o wq => ∃ W : World, W = wq ∧ ∃ m : Nat, zs.length + m ≤ a ∧ IS wq w.heap.size o (zs ++ List.replicate m 1000000000) ∧ Bx wq wr.heap.size ((a : Int), j, c) ∧ Below w.heap.size w wq ∧ wr.heap.size < wq.heap.size) (fun o _ => a - lenVv o)
            case atStart => exact ⟨_, rfl, 0, by omega, by simpa using hoA, hbx, hbA, by simp⟩
            case round =>
              obtain ⟨wq, rfl, m, hm, ho2, hbx2, hb2, hsz⟩ := hrel
              have hL : (zs ++ List.replicate m 1000000000).length = zs.length + m := by simp
              obtain ⟨A2, cap2, rfl, -, -⟩ := ho2.parts
              have ho2' : wq.ownsRow w.heap.size 3 1 (.slice A2 (zs.length + m : Nat) cap2) (zs.length + m) (ints (zs ++ List.replicate m 1000000000)) := by rw [← hL]; exact ho2
              have hbxA := hbx2.alloc (.cells #[.int .i64 1000000000] 3)
              obtain ⟨p0, p1, p2⟩ := hbx2.cells
              rw [hL]
              clear hL ho2
              by_cases hlm : zs.length + m < a
              · go_wp2_with (at_builtin; refine wpList_append_own _ rfl _ _ 32 rfl w.heap.size 3 i0 (.int .i64 0) 1 8 Try.underlying32 hi hz0 hz1 hz2 rfl (by decide) _ _ _ rfl (ho2'.alloc _) ⟨wq.heap.size, 0, none⟩ 1 1 [.int .i64 1000000000] rfl rfl (one_new _ _) (by simp [Value.oneCell']) (by unfold maxLen; omega) (by omega) (by have := hb2.size; simp; omega) ?_; intro v' w4 hown' hgrow hnil)
                have hb' : Below w.heap.size w w4 := (hb2.alloc hb2.size _).grown hgrow (by have := hb2.size; simp; omega) (fun g' hg' => (World.ownsRow.lt ho2' g' hg').1)
                have hrow := IS.snoc (by simp) hown'
                rw [rep_snoc] at hrow
                have hbx3 := hbxA.grown hgrow (hbxA.ne (ho2'.alloc _))
                have hsz3 : wr.heap.size < w4.heap.size := by have := hgrow.size; simp at this; omega
                obtain ⟨A3, cap3, rfl, -, -⟩ := hrow.parts
                go_wp2
                go_roundw
                case rel => exact ⟨_, rfl, m + 1, by omega, hrow, hbx3, hb', hsz3⟩
                case measure => simp [lenVv]; omega
              · have hma : a - zs.length = m := by omega
                rw [hma] at HM
                go_wp2_with (at_builtin; refine wpList_append_own _ rfl _ _ 32 rfl w.heap.size 3 i0 (.int .i64 0) 1 8 Try.underlying32 hi hz0 hz1 hz2 rfl (by decide) _ _ _ rfl (ho2'.alloc _) ⟨wq.heap.size, 0, none⟩ 1 1 [.int .i64 c] rfl rfl (one_new _ _) (by simp [Value.oneCell']) (by unfold maxLen; omega) (by omega) (by have := hb2.size; simp; omega) ?_; intro v' w4 hown' hgrow hnil)
                have hb' : Below w.heap.size w w4 := (hb2.alloc hb2.size _).grown hgrow (by have := hb2.size; simp; omega) (fun g' hg' => (World.ownsRow.lt ho2' g' hg').1)
                have hrow := IS.snoc (by simp) hown'
                rw [← HM.out] at hrow
                go_wp2
                go_roundw
                case rel => exact ⟨k + 1, by omega, by go_num, hrow, hb'⟩
                case measure => simp [intOf]; omega
          · have HM := Lib.hid (rw_none (l := l) hjk)
            have hne : ((td l k).2.1 == j) = false := by simpa using hjk
            clear hpt
            go_wp2
            go_roundw
            case rel => exact ⟨k + 1, by omega, by go_num, by rw [HM.out]; exact hoA, hbA⟩
            case measure => simp [intOf]; omega
        · obtain rfl : k = n := by omega
          rw [HN.out] at ho
          obtain ⟨A3, cap3, rfl, -, -⟩ := ho.parts
          by_cases h0 : 0 < (rwL l j l.length).length
          · have HB2 := Lib.hid (show rwB l j = true by rw [HB.out]; exact decide_eq_true h0)
            have HR := Lib.hid (show rwR l j = rwL l j l.length by unfold rwR; rw [if_pos HB2.out])
            have HPB := Lib.hid (show poB (rwL l j l.length) = true by rw [HPO.out]; exact decide_eq_true h0)
            go_wp2_with fail
            refine (isPoly_any _ _ _ _ ho).mono ?_
            rintro e w' ⟨rfl, rfl⟩
            rw [HPB.out]
            go_wp2
            go_ret2
            exact givesIB_yes HB2.out (by rw [HR.out]; exact ho) hb
          · have HB2 := Lib.hid (show rwB l j = false by rw [HB.out]; exact decide_eq_false h0)
            have HR := Lib.hid (show rwR l j = [] by unfold rwR; rw [if_neg (by rw [HB2.out]; decide)])
            have HPB := Lib.hid (show poB (rwL l j l.length) = false by rw [HPO.out]; exact decide_eq_false h0)
            go_wp2_with fail
            refine (isPoly_any _ _ _ _ ho).mono ?_
            rintro e w' ⟨rfl, rfl⟩
            rw [HPB.out]
            go_wp2
            go_ret2
            exact givesIB_nil HB2.out HR.out hb
end Go.Proofs.Ytibdbgeknphljaa

/-
  Changed, moved and exchanged plane polynomials in the program: what the calls return.
  Condition: the slice reads as the list that is named.
-/
import Derived.Test.YtibdbgeknphljaaPlProd
import Derived.Laws.CopyOwn
import Derived.Laws.EntriesVeiled
namespace Go.Proofs.Ytibdbgeknphljaa
set_option linter.unusedSimpArgs false
set_option linter.unusedVariables false
open Go.ChangeShapes Go.WideShapes Go.ChangeAt Go.RowKit
open Go.Sort (grow)

/-- copy over a whole row of our own, elements of k cells. -/
theorem copy_full {P : Program} {w : World} (ty dT sT elem : TypeId) (hu : P.underlying dT = some (.slice elem)) (k : Nat) (hsz : (P.info? elem).map (·.size) = some k)
    (T : TypeId) (B g n cap : Nat) (ad : Addr) (sCap : Nat) (xs : List Value) (hown : w.ownsRow B T k (.slice (some ⟨g, 0, none⟩) n cap) n xs) (cs : List Value) (hn : cs.length = n * k)
    (hsrc : ∀ j v, cs[j]? = some v → w.cell? (ad.add j) = some v) (h1 : ∀ v ∈ cs, v.oneCell' = true) :
    ∃ w', (Builtin.copy_ #[dT, sT] ty #[.slice (some ⟨g, 0, none⟩) n cap, .slice (some ad) n sCap]).run P w = .ok (.int .i64 n) w' ∧ w'.ownsRow B T k (.slice (some ⟨g, 0, none⟩) n cap) n cs ∧ w.grownBy w' (some g) := by
  rcases hown.2 with ⟨h0, -⟩ | ⟨g', cap', cur, hv, hB, hh, hnc, hc, hcs, ht⟩
  · cases h0
  · simp only [Value.slice.injEq, Option.some.injEq, Addr.mk.injEq, and_true, true_and] at hv
    obtain ⟨rfl, rfl⟩ := hv
    have hle : n * k ≤ cap * k := Nat.mul_le_mul_right k hnc
    have hl := run_firstCells_some (P := P) w k n ad n sCap cs hn hsrc
    have hst := run_storeCells_at P g 0 T cs 0 cur w hh (by omega) h1
    simp only [Nat.add_zero, List.take_zero, List.nil_append, Nat.zero_add] at hst
    refine ⟨w.setRow g (cs ++ cur.toList.drop cs.length).toArray, ?_, ⟨hn, .inr ⟨g, cap, _, rfl, hB, setRow_heap w g _ _ T _ hh, hnc, hc, ?_, ?_⟩⟩, ⟨rfl, rfl, rfl, by simp [World.setRow], fun j hj hne => setRow_other w g j _ (fun e => hne (by rw [e]))⟩⟩
    · cases hq : P.info? elem with
      | none => simp [hq] at hsz
      | some i =>
        have hi : i.size = k := by simpa [hq] using hsz
        simp [Builtin.copy_, run_underlying hu, Builtin.lenOf, sizeOf, typeInfo, hq, hi, hl, hst, goInt]
    · simp; omega
    · simp only [List.toList_toArray]
      rw [← hn]
      exact List.take_left
/-- A list whose first k terms are changed. -/
def chL (f : Tm → Tm) (l : List Tm) (k : Nat) : List Tm := (l.take k).map f ++ l.drop k
theorem chL_len (f : Tm → Tm) (l : List Tm) (k : Nat) : (chL f l k).length = l.length := by
  unfold chL; rw [List.length_append, List.length_map, List.length_take, List.length_drop]; omega
theorem chL_td (f : Tm → Tm) (l : List Tm) (k : Nat) (hk : k < l.length) : td (chL f l k) k = td l k := by
  unfold chL td
  have e : ((l.take k).map f).length = k := by rw [List.length_map, List.length_take]; omega
  rw [List.getD_eq_getElem?_getD, List.getElem?_append_right (by omega), e, Nat.sub_self, List.getElem?_drop, Nat.add_zero, List.getD_eq_getElem?_getD]
theorem chL_set (f : Tm → Tm) (l : List Tm) (k : Nat) (hk : k < l.length) : (chL f l k).set k (f (td l k)) = chL f l (k + 1) := by
  unfold chL
  have e : ((l.take k).map f).length = k := by rw [List.length_map, List.length_take]; omega
  rw [List.set_append_right _ _ (by omega), e, Nat.sub_self, List.drop_eq_getElem_cons hk, List.set_cons_zero, take_td l k hk, List.map_append, List.append_assoc]
  rfl
theorem chL_end (f : Tm → Tm) (l : List Tm) : chL f l l.length = l.map f := by unfold chL; simp
/-- A function value that changes the terms of a list. -/
def FnTm (g : Nat) (lb : Array Value) (l : List Tm) (f : Tm → Tm) (w : World) : Prop := ∀ (W : World) (k : Nat), k < l.length → Below w.heap.size w W → Calls Try.prog g (#[tmV (td l k)] ++ lb) W fun e w' => e = .returned (tmV (f (td l k))) ∧ Below W.heap.size W w'
set_option maxHeartbeats 2000000 in
set_option maxRecDepth 100000 in
theorem changedPlane_any (w : World) (B : Nat) (v : Value) (l : List Tm) (h : TmS w B v l) (hz : 0 < l.length ∧ l.length ≤ 1000) (g : Nat) (lb : Array Value) (eg : ∀ (args : Array Value) (w : World), (callFunc g args).run Try.prog w = .ok (.enter g args) w) (f : Tm → Tm) (hf : FnTm g lb l f w) : Calls Try.prog 66 #[v, .func (.func g) #[] lb] w fun e w' => GivesTmB (plB (norm (l.map f))) (npR (l.map f)) w e w' := by
  obtain ⟨h0, hz⟩ := hz
  have H := Lib.hid h
  obtain ⟨gs, cap, rfl, -, hgs, hn⟩ := TmS.some h h0
  have HR := Lib.hid hn
  have HF := Lib.hid hf
  obtain ⟨n, hnl⟩ : ∃ n, n = l.length := ⟨_, rfl⟩
  have HN := Lib.hid hnl
  rw [← hnl] at h0 hz ⊢
  obtain ⟨i0, hi, hz0, hz1, hz2⟩ := info_parts infoTerm
  clear h hn hf hnl
  go_enter Try.func66, Try.ntmps66
  go_wp2_with (refine wpList_make_full _ rfl _ _ 25 rfl w.heap.size 54 i0 (.agg #[.int .i64 0, .int .i64 0, .int .i64 0]) 3 Try.underlying25 hi hz0 hz1 .i64 .i64 _ _ n rfl rfl rfl rfl (by rw [hz2]; omega) (by simp only [maxLen]; omega) (Nat.le_refl _) ?_; intro w1 hown hgrow; have hb1 : Below w.heap.size w w1 := (Below.refl _ _).grown hgrow (Nat.le_refl _) (fun _ h => by cases h))
  obtain ⟨w2, hr2, hown2, hgrow2⟩ := copy_full (P := Try.prog) (w := w1) 3 25 25 54 Try.underlying25 3 (by rw [hi]; simp [hz1]) 54 w.heap.size w.heap.size n n ⟨gs, 0, none⟩ cap _ hown (ints (flatT l)) (by simp [ints, flatT_len, HN.out]) (fun j u hu => box_o (HR.out j u hu) hb1) (ints_one _)
  rw [hr2]
  clear hr2
  have hb2 : Below w.heap.size w w2 := hb1.grown hgrow2 hb1.size (fun k hk => by cases hk; exact Nat.le_refl _)
  have hrow0 : w2.ownsRow w.heap.size 54 3 (.slice (some ⟨w.heap.size, 0, none⟩) n n) n (ints (flatT (chL f l 0))) := by
    have e : chL f l 0 = l := by simp [chL]
    rw [e]; exact hown2
  clear hown hgrow hown2 hgrow2 hb1
  go_wp2
  go_loopw [17] (fun i wr => ∃ j : Nat, j ≤ n ∧ i = .int .i64 j ∧ Hid (wr.ownsRow w.heap.size 54 3 (.slice (some ⟨w.heap.size, 0, none⟩) n n) n (ints (flatT (chL f l j)))) ∧ Below w.heap.size w wr) (fun i _ => n - (intOf i).toNat)
  case atStart => exact ⟨0, by omega, rfl, Lib.hid hrow0, hb2⟩
  case round =>
    obtain ⟨j, hj, rfl, hrow, hb⟩ := hrel
    clear hrow0 hb2
    by_cases hlt : j < n
    · have hjl : j < l.length := by rw [← HN.out]; exact hlt
      have e : ∀ i, i < 3 → wr.cell? ⟨w.heap.size, j * 3 + i, none⟩ = (encV (td l j))[i]? := fun i hi => by
        rw [World.ownsRow.cellAt hrow.out (j * 3 + i) (by omega), flatT_at (chL f l j) j i (by rw [chL_len]; exact hjl) hi, chL_td f l j hjl]
      have c0 : wr.cell? ⟨w.heap.size, j * 3, none⟩ = some (.int .i64 (td l j).1) := e 0 (by omega)
      have c1 : wr.cell? ⟨w.heap.size, j * 3 + 1, none⟩ = some (.int .i64 (td l j).2.1) := e 1 (by omega)
      have c2 : wr.cell? ⟨w.heap.size, j * 3 + 2, none⟩ = some (.int .i64 (td l j).2.2) := e 2 (by omega)
      have hbA := hb.alloc hb.size (.cells #[.int .i64 (td l j).1, .int .i64 (td l j).2.1, .int .i64 (td l j).2.2] 54)
      have hrA := Lib.hid (World.ownsRow.alloc hrow.out (.cells #[.int .i64 (td l j).1, .int .i64 (td l j).2.1, .int .i64 (td l j).2.2] 54))
      have hcall := Lib.hid (HF.out _ j hjl hbA)
      have hwl : w.heap.size < wr.heap.size := cell_lt c0
      clear e
      go_wp2_with fail
      refine hcall.out.mono ?_
      rintro e w3 ⟨rfl, b3⟩
      have hb3 := bel2 hbA b3
      obtain ⟨x, hx⟩ : ∃ x, x = f (td l j) := ⟨_, rfl⟩
      rw [← hx]
      have hr3 := FS.below (zs := flatT (chL f l j)) hrA.out b3
      have d0 := box_o c0 ((((Below.refl _ _).alloc (Nat.le_refl _) _).trans (b3.mono (by simp))))
      have d1 := box_o c1 ((((Below.refl _ _).alloc (Nat.le_refl _) _).trans (b3.mono (by simp))))
      have d2 := box_o c2 ((((Below.refl _ _).alloc (Nat.le_refl _) _).trans (b3.mono (by simp))))
      have f0 := World.ownsRow.frozenAt hr3 (j * 3)
      have f1 := World.ownsRow.frozenAt hr3 (j * 3 + 1)
      have f2 := World.ownsRow.frozenAt hr3 (j * 3 + 2)
      have s0 := World.ownsRow.stored hr3 (j * 3) (.int .i64 x.1)
      have s1 := World.ownsRow.stored s0.1 (j * 3 + 1) (.int .i64 x.2.1)
      have s2 := World.ownsRow.stored s1.1 (j * 3 + 2) (.int .i64 x.2.2)
      have hrow4 := s2.1
      rw [show (((ints (flatT (chL f l j))).set (j * 3) (.int .i64 x.1)).set (j * 3 + 1) (.int .i64 x.2.1)).set (j * 3 + 2) (.int .i64 x.2.2) = ints (flatT (chL f l (j + 1))) from by rw [← chL_set f l j hjl, ← hx, flatT_set _ j _ (by rw [chL_len]; exact hjl)]; unfold ints; simp only [List.map_set]] at hrow4
      have hb4 : Below w.heap.size w (((w3.setCell ⟨w.heap.size, j * 3, none⟩ (.int .i64 x.1)).setCell ⟨w.heap.size, j * 3 + 1, none⟩ (.int .i64 x.2.1)).setCell ⟨w.heap.size, j * 3 + 2, none⟩ (.int .i64 x.2.2)) := ((hb3.setCell (Nat.le_refl _) _).setCell (Nat.le_refl _) _).setCell (Nat.le_refl _) _
      have HE := Lib.hid (And.intro hrow4 hb4)
      clear s0 s1 s2 hrow4 hb4 hr3 hrow hrA hcall c0 c1 c2 hx hb3 b3 hbA
      go_wp2
      go_roundw
      case rel => exact ⟨j + 1, by omega, by go_num, Lib.hid HE.out.1, HE.out.2⟩
      case measure => simp [intOf]; omega
    · obtain rfl : j = n := by omega
      have ho : TmS wr w.heap.size (.slice (some ⟨w.heap.size, 0, none⟩) j j) (l.map f) := by
        have h1 := hrow.out
        rw [show chL f l j = l.map f by rw [HN.out]; exact chL_end f l] at h1
        unfold TmS FS
        rw [List.length_map, ← HN.out]
        exact h1
      go_wp2_with fail
      refine (planeOrNone_any _ _ _ _ ho (by rw [List.length_map, ← HN.out]; omega)).mono ?_
      rintro e w4 h4
      obtain ⟨r4, rfl, hr4, b4⟩ := h4.ends hb (Nat.le_refl _) (FS.in_ ho)
      go_wp2
      go_ret2
      exact givesTmB_is rfl rfl hr4 b4
end Go.Proofs.Ytibdbgeknphljaa

/-
  A ray put into a list of rays, in the model: what the call returns.
  Condition: the slice reads as the list that is named.
-/
import Derived.Test.YthegkifhbgopoaaSoA
namespace Go.Proofs.Ythegkifhbgopoaa
set_option linter.unusedSimpArgs false
set_option linter.unusedVariables false
open Go.ChangeShapes Go.WideShapes Go.ChangeAt Go.RowKit
open Go.Sort (grow)

/-- A term's block at b, and nothing that lay there when x was has changed. -/
abbrev S5 (x : World) (b : Nat) (r : Tm) (w : World) : Prop := w.cell? ⟨b, 0, none⟩ = some (.int .i64 r.1) ∧ w.cell? ⟨b, 1, none⟩ = some (.int .i64 r.2.1) ∧ w.cell? ⟨b, 2, none⟩ = some (.int .i64 r.2.2) ∧ Below x.heap.size x w
theorem S5.of {x w : World} {b : Nat} {r : Tm} (h : T3 x b r) (hb : Below x.heap.size x w) : S5 x b r w := by
  obtain ⟨h1, h2, h3⟩ := T3.below h hb
  exact ⟨h1, h2, h3, hb⟩
theorem S5.drew {x w : World} {b : Nat} {r : Tm} (h : S5 x b r w) : S5 x b r w.drew := ⟨h.1, h.2.1, h.2.2.1, h.2.2.2.drew⟩
theorem S5.drewN {x w : World} {b : Nat} {r : Tm} (h : S5 x b r w) (n : Nat) : S5 x b r (w.drewN n) := ⟨h.1, h.2.1, h.2.2.1, belN h.2.2.2 n⟩
theorem S5.alloc {x w : World} {b : Nat} {r : Tm} (h : S5 x b r w) (o : Obj) : S5 x b r (w.alloc o) := by
  obtain ⟨h1, h2, h3⟩ := T3.below ⟨h.1, h.2.1, h.2.2.1⟩ ((Below.refl _ w).alloc (Nat.le_refl _) o)
  exact ⟨h1, h2, h3, h.2.2.2.alloc h.2.2.2.size o⟩
theorem step_app_tm {w : World} {ops : Array Oper} {o : Oper} {a : Act} {K : Act → World → Prop} {Q : Exit → Act → World → Prop} {E : Prop} (hgd : o.guard = none) (s t : Operand)
    (ho : o.op = .call { callee := .builtin .append, args := #[s, t], argTypes := #[47, 47] })
    (x : World) (b : Nat) (r : Tm) (hT : T3 x b r) (v : Value) (n : Nat) (xs : List Int) (hs : a.eval s = v) (hown : w.ownsRow x.heap.size 39 3 v n (ints xs))
    (ad : Addr) (m c : Nat) (news : List Int) (hx : a.eval t = .slice (some ad) m c) (hl : news.length = m * 3) (hnews : ∀ j u, (ints news)[j]? = some u → w.cell? (ad.add j) = some u)
    (hb : n + m ≤ 100000) (hS : S5 x b r w)
    (h : ∀ v' w', w'.ownsRow x.heap.size 39 3 v' (n + m) (ints (xs ++ news)) → S5 x b r w' → (∀ p u, w.cell? p = some u → (∀ k, v.ownBlock = some k → p.block ≠ k) → w'.cell? p = some u) → K (a.put o.dst v') w') :
    if Region.wanted o (yielded ops a.tmps) = true then Oper.wp Try.prog o a w K Q else E := by
  obtain ⟨i0, hi, hz0, hz1, hz2⟩ := info_parts infoRay
  refine step_append_own hgd s t 47 ho x.heap.size 39 i0 (.agg #[.int .i64 0, .int .i64 0, .int .i64 0]) 3 24 Try.underlying47 hi hz0 hz1 hz2 rfl (by decide) v n (ints xs) hs hown ad m c (ints news) hx (by simp [ints, hl]) hnews (ints_one news) (by unfold maxLen; omega) (by omega) hS.2.2.2.size ?_
  intro v' w' h1 h2 h3
  refine h v' w' ?_ (S5.of hT (hS.2.2.2.grown h2 hS.2.2.2.size fun k hk => (World.ownsRow.lt hown k hk).1)) (fun p u hc hne => h2.cell hc (fun e => hne _ e.symm rfl))
  unfold ints at h1 ⊢
  rw [List.map_append]
  exact h1
theorem tw_new (w : World) (B : Nat) (h : B ≤ w.heap.size) : (w.alloc (.cells #[] 39)).ownsRow B 39 3 (.slice (some ⟨w.heap.size, 0, none⟩) 0 0) 0 (ints []) := World.ownsRow_made w #[] 0 h (Nat.zero_le _) rfl
theorem tw_new' (w : World) (o : Obj) (B : Nat) (h : B ≤ w.heap.size) : ((w.alloc o).alloc (.cells #[] 39)).ownsRow B 39 3 (.slice (some ⟨w.heap.size + 1, 0, none⟩) 0 0) 0 (ints []) := by
  have hs : (w.alloc o).heap.size = w.heap.size + 1 := by simp
  have := tw_new (w.alloc o) B (by omega)
  rwa [hs] at this
/-- A literal of one term, and what has been laid behind it. -/
theorem lit_new2 (w : World) (o : Obj) (r : Tm) : T3 ((w.alloc o).alloc (.cells #[.int .i64 r.1, .int .i64 r.2.1, .int .i64 r.2.2] 39)) (w.heap.size + 1) r := by
  have h := T3.new (w.alloc o) r 39
  have hs : (w.alloc o).heap.size = w.heap.size + 1 := by simp
  rwa [hs] at h
theorem lit_new3 (w : World) (o : Obj) (r : Tm) : T3 ((w.alloc (.cells #[.int .i64 r.1, .int .i64 r.2.1, .int .i64 r.2.2] 39)).alloc o) w.heap.size r :=
  T3.below (T3.new w r 39) ((Below.refl _ _).alloc (Nat.le_refl _) o)
theorem T3.kept {w w' : World} {g : Nat} {r : Tm} {v : Value} (h : T3 w g r) (hk : ∀ p u, w.cell? p = some u → (∀ k, v.ownBlock = some k → p.block ≠ k) → w'.cell? p = some u) (hne : ∀ k, v.ownBlock = some k → g ≠ k) : T3 w' g r :=
  ⟨hk _ _ h.1 hne, hk _ _ h.2.1 hne, hk _ _ h.2.2 hne⟩
theorem S5.bel {x w : World} {b : Nat} {r : Tm} (h : S5 x b r w) : Below x.heap.size x w := h.2.2.2
theorem pre_news {x w : World} {g : Nat} {zs : List Int} (h : ∀ j u, (ints zs)[j]? = some u → x.cell? ((⟨g, 0, none⟩ : Addr).add j) = some u) (hb : Below x.heap.size x w) (q : Nat) : ∀ j u, (ints (zs.take q))[j]? = some u → w.cell? ((⟨g, 0, none⟩ : Addr).add j) = some u := fun j u hu => by
  refine box_o (h j u ?_) hb
  unfold ints at hu ⊢
  rw [List.map_take] at hu
  rcases Nat.lt_or_ge j q with hj | hj
  · rwa [List.getElem?_take_of_lt hj] at hu
  · rw [List.getElem?_eq_none (by simp; omega)] at hu; cases hu
theorem post_news {x w : World} {g : Nat} {zs : List Int} (h : ∀ j u, (ints zs)[j]? = some u → x.cell? ((⟨g, 0, none⟩ : Addr).add j) = some u) (hb : Below x.heap.size x w) (q : Nat) : ∀ j u, (ints (zs.drop q))[j]? = some u → w.cell? ((⟨g, q, none⟩ : Addr).add j) = some u := fun j u hu => by
  have e : (⟨g, q, none⟩ : Addr).add j = (⟨g, 0, none⟩ : Addr).add (q + j) := by
    unfold Addr.add
    by_cases hj : j = 0
    · subst hj
      by_cases hq : q = 0
      · subst hq; rfl
      · simp [hq]
    · rw [if_neg hj, if_neg (by omega)]; simp
  rw [e]
  refine box_o (h (q + j) u ?_) hb
  unfold ints at hu ⊢
  rw [List.map_drop, List.getElem?_drop] at hu
  exact hu
theorem nil_news {w : World} {ad : Addr} {zs : List Int} (h : zs = []) : ∀ j u, (ints zs)[j]? = some u → w.cell? (ad.add j) = some u := fun j u hu => by
  subst h; simp [ints] at hu
theorem flatT_drop (d : List Tm) (k : Nat) : (flatT d).drop (k * 3) = flatT (d.drop k) := by
  induction d generalizing k with
  | nil => simp [flatT]
  | cons a d ih =>
    cases k with
    | zero => simp [flatT]
    | succ k =>
      show (encT a ++ flatT d).drop ((k + 1) * 3) = flatT (d.drop k)
      rw [← ih k, List.drop_append, show (encT a).drop ((k + 1) * 3) = [] from List.drop_eq_nil_of_le (by simp [encT]; omega), show (k + 1) * 3 - (encT a).length = k * 3 by simp [encT]; omega, List.nil_append]
theorem put_row_is {w : World} {B n k m q : Nat} {v : Value} {l L : List Tm} {r : Tm} (hn : n = l.length) (hk : k ≤ n) (hm : m = n - q) (hL : L = l.take k ++ r :: l.drop q) (h : FS 39 3 w B v (0 + k + 1 + m) ([] ++ (flatT l).take (k * 3) ++ encT r ++ (flatT l).drop (q * 3))) : RyS w B v L := by
  subst hL
  have e : (l.take k ++ r :: l.drop q).length = 0 + k + 1 + m := by simp; omega
  unfold RyS
  rw [e]
  rw [flatT_take, flatT_drop] at h
  have e2 : flatT (l.take k ++ r :: l.drop q) = [] ++ flatT (l.take k) ++ encT r ++ flatT (l.drop q) := by
    rw [flatT_app]; simp [flatT]
  rw [e2]
  exact h
theorem T3.news {w : World} {g : Nat} {r : Tm} (h : T3 w g r) : ∀ j u, (ints (encT r))[j]? = some u → w.cell? ((⟨g, 0, none⟩ : Addr).add j) = some u := fun j u hu => by
  have e : (⟨g, 0, none⟩ : Addr).add j = ⟨g, j, none⟩ := by unfold Addr.add; split <;> simp_all
  rw [e]
  match j, hu with
  | 0, hu => rw [h.1]; exact hu
  | 1, hu => rw [h.2.1]; exact hu
  | 2, hu => rw [h.2.2]; exact hu
  | j + 3, hu => simp [ints, encT] at hu
theorem rys_some9 {w : World} {B : Nat} {v : Value} {l : List Tm} (h : RyS w B v l) (h0 : 0 < l.length ∨ v ≠ .slice none 0 0) : ∃ g cap, v = .slice (some ⟨g, 0, none⟩) l.length cap ∧ B ≤ g ∧ g < w.heap.size ∧ ∀ j u, (ints (flatT l))[j]? = some u → w.cell? ((⟨g, 0, none⟩ : Addr).add j) = some u := by
  rcases Nat.eq_zero_or_pos l.length with hl | hl
  · rcases h0 with h0 | h0
    · omega
    · rcases h.2 with ⟨h1, -⟩ | ⟨g, cap, cur, h1, hB, hh, -⟩
      · exact absurd h1 h0
      · refine ⟨g, cap, h1, hB, (Array.getElem?_eq_some_iff.1 hh).1, fun j u hu => ?_⟩
        rw [List.eq_nil_of_length_eq_zero hl] at hu; simp [flatT, ints] at hu
  · exact RyS.some h hl
set_option maxHeartbeats 2000000 in
set_option maxRecDepth 100000 in
theorem stPut_any (w : World) (B : Nat) (v : Value) (l : List Tm) (t : Tm) (h : RyS w B v l) (hz : l.length ≤ 1000) (h0 : 0 < l.length ∨ v ≠ .slice none 0 0) (hw1 : -1000000 ≤ t.2.2 ∧ t.2.2 ≤ 1000000) (hw2 : ∀ k, k < l.length → -1000000 ≤ (td l k).2.2 ∧ (td l k).2.2 ≤ 1000000) : Calls Try.prog 73 #[v, tmV t] w fun e w' => GivesRy (putR l t) w e w' := by
  have H := Lib.hid h
  have HW1 := Lib.hid hw1
  have HW2 := Lib.hid hw2
  clear hw1 hw2
  obtain ⟨g, cap, rfl, -, hg, hn⟩ := rys_some9 h h0
  obtain ⟨A', cap', hv', -, hp⟩ := RyS.parts h
  simp only [Value.slice.injEq, true_and] at hv'
  obtain ⟨rfl, rfl⟩ := hv'
  have HP := Lib.hid (fun k hk => by
    obtain ⟨g', hg', hx⟩ := hp k hk
    obtain rfl : g = g' := by simpa using hg'
    exact (hx : X3 w g (k * 3) (td l k)))
  have HR := Lib.hid hn
  have hcap : l.length ≤ cap := by
    rcases h.2 with ⟨hx, -⟩ | ⟨g', cap', cur, hv, hB, hh, hn, hc, hs, ht⟩
    · cases hx
    · simp only [Value.slice.injEq, true_and] at hv
      obtain ⟨-, rfl⟩ := hv
      exact hn
  have HQ := Lib.hid (fun s W => stBefore_any s t W)
  have HQ2 := Lib.hid (fun s W => stBefore_any t s W)
  have hT := T3.new w t 39
  have hgr := gr1 w (.cells #[.int .i64 t.1, .int .i64 t.2.1, .int .i64 t.2.2] 39)
  have hfA : (w.alloc (.cells #[.int .i64 t.1, .int .i64 t.2.1, .int .i64 t.2.2] 39)).frozen? ⟨w.heap.size, 2, none⟩ = false := by simp [go_sem]
  have hsz := World.size_alloc w (.cells #[.int .i64 t.1, .int .i64 t.2.1, .int .i64 t.2.2] 39)
  have HPUT := Lib.hid (fun k h1 h2 => putR_at t k l h1 h2)
  obtain ⟨n, hnl⟩ : ∃ n, n = l.length := ⟨_, rfl⟩
  have HN := Lib.hid hnl
  rw [← hnl] at hz hcap ⊢
  clear h hn hp hnl h0
  go_enter Try.func73, Try.ntmps73
  go_wp2
  generalize w.alloc (.cells #[.int .i64 t.1, .int .i64 t.2.1, .int .i64 t.2.2] 39) = wA at hT hgr hsz hfA ⊢
  have hbA : w.heap.size < wA.heap.size := cell_lt hT.1
  have HFZ := Lib.hid hfA
  clear hfA
  have HT := Lib.hid hT
  have HG := Lib.hid hgr
  clear hT hgr
  go_loopw [5] (fun i wr => ∃ k : Nat, k ≤ n ∧ i = .int .i64 k ∧ Hid (∀ j, j < k → j < l.length ∧ plLt (td l j) t = true) ∧ Hid (Gr wA wr)) (fun i _ => n - (intOf i).toNat)
  case atStart => exact ⟨0, by omega, rfl, Lib.hid (by omega), Lib.hid (gr0 _)⟩
  case round =>
    obtain ⟨k, hk, rfl, hlow, hgw⟩ := hrel
    have hTr := T3.below HT.out hgw.out.below
    obtain ⟨t0, t1, t2⟩ := T3.grown hTr
    by_cases hlt : k < n
    · have hkl : k < l.length := by rw [← HN.out]; exact hlt
      obtain ⟨a0, a1, a2⟩ := X3.grown (X3.below (X3.below (HP.out k hkl) HG.out.below) hgw.out.below)
      cases hq : plLt (td l k) t
      · have HQ' := Lib.hid (fun W => show Calls Try.prog 109 #[tmV (td l k), tmV t] W fun e w' => e = .returned (.bool false) ∧ Gr W w' by rw [← hq]; exact HQ.out _ W)
        have HK := Lib.hid (HPUT.out k hlow.out (fun _ => hq))
        clear hq
        go_wp2_with fail
        refine wp_region_quiet_grown (by kernel_rfl) (by kernel_rfl) ?_
        repeat (go_big_quiet_step ((first | (go_at_call 109; refine Calls.grown_of (HQ'.out _)))))
        refine wpQuiet_nil ?_
        intro _ hw'
        obtain ⟨⟨nq, osq⟩, hw''⟩ := hw'
        subst hw''
        have HYG := Lib.hid (hgw.out.trans ⟨nq, osq, rfl⟩)
        generalize grow (wr.drewN nq) osq = Y at HYG ⊢
        have HYB := Lib.hid (bel2 HG.out.below HYG.out.below)
        have HYT := Lib.hid (T3.below HT.out HYG.out.below)
        clear t0 t1 t2
        clear a0 a1 a2
        have hck : ¬ cap = k := by omega
        have hlt3 : 0 < n - k := by omega
        have hcY := X3.below (HP.out k hkl) HYB.out
        cases hq2 : plLt t (td l k)
        · have HQ2' := Lib.hid (fun W => show Calls Try.prog 109 #[tmV t, tmV (td l k)] W fun e w' => e = .returned (.bool false) ∧ Gr W w' by rw [← hq2]; exact HQ2.out _ W)
          obtain ⟨r, hr⟩ : ∃ r : Tm, r = (t.1, t.2.1, t.2.2 + (td l k).2.2) := ⟨_, rfl⟩
          have HK' := Lib.hid (show putR l t = l.take k ++ r :: l.drop (k + 1) by rw [HK.out, if_pos ⟨hkl, hq2⟩, hr])
          obtain ⟨a0, a1, a2⟩ := X3.grown hcY
          have hcX := hcY
          clear hq2 HK hcY
          obtain ⟨t0, t1, t2⟩ := T3.grown HYT.out
          go_wp2_with fail
          refine wp_region_quiet_grown (by kernel_rfl) (by kernel_rfl) ?_
          repeat (go_big_quiet_step ((first | (go_at_call 109; refine Calls.grown_of (HQ2'.out _)))))
          refine wpQuiet_nil ?_
          intro _ hw'
          obtain ⟨⟨nq, osq⟩, hw''⟩ := hw'
          subst hw''
          have HZG := Lib.hid (HYG.out.trans ⟨nq, osq, rfl⟩)
          have hcX := X3.below hcX (grB nq osq)
          have hfz := (HZG.out.below.frozen (p := ⟨w.heap.size, 2, none⟩) hbA).trans HFZ.out
          clear a0 a1 a2
          generalize grow (Y.drewN nq) osq = Z at HZG hcX hfz ⊢
          have HZB := Lib.hid (bel2 HG.out.below HZG.out.below)
          have HZT := Lib.hid (T3.below HT.out HZG.out.below)
          clear t0 t1 t2
          obtain ⟨t0, t1, t2⟩ := HZT.out
          obtain ⟨a0, a1, a2⟩ := hcX
          have hbZ : w.heap.size < Z.heap.size := cell_lt t0
          have HS2 := Lib.hid (show T3 (Z.setCell ⟨w.heap.size, 2, none⟩ (.int .i64 (t.2.2 + (td l k).2.2))) w.heap.size r from by
            rw [hr]
            exact ⟨(World.cell?_setCell_other _ _ _ _ (by simp)).trans t0, (World.cell?_setCell_other _ _ _ _ (by simp)).trans t1, World.cell?_setCell_same _ _ _ t2⟩)
          have HB2 := Lib.hid (show Below w.heap.size w (Z.setCell ⟨w.heap.size, 2, none⟩ (.int .i64 (t.2.2 + (td l k).2.2))) from HZB.out.setCell (Nat.le_refl _) _)
          go_upto_region 6 with fail
          go_cut [3] (fun p wx => p = .pointer (some ⟨w.heap.size, 0, none⟩) ∧ Hid (T3 wx w.heap.size r) ∧ Hid (Below w.heap.size w wx))
          case first =>
            have qw : IntKind.i64.wrap (t.2.2 + (td l k).2.2) = t.2.2 + (td l k).2.2 := IntWalk.i64_in _ (by have := HW1.out; have := HW2.out k hkl; omega)
            go_region
            all_goals (go_wp2_with fail; go_meet; exact ⟨rfl, Lib.hid HS2.out, Lib.hid HB2.out.drew⟩)
          case rest =>
            obtain ⟨rfl, HXT, HXB0⟩ := hcut
            clear hcX hfz hbZ t0 t1 t2 a0 a1 a2 HZG HZB HZT HS2 HB2 hr
            generalize wc = X at HXT HXB0 ⊢
            have HXB := Lib.hid (HXB0.out)
            have HTX := Lib.hid (HXT.out)
            have HRX := Lib.hid (fun j u hu => box_o (HR.out j u hu) HXB.out)
            by_cases hc : cap = k + 1
            · have z5 : cap - k = 1 := by omega
              have z3 : 1 ≤ n - k := by omega
              have z6 : n - k = 1 := by omega
              clear hc
              have l1 : k ≤ cap := by omega
              have l3 : ¬ cap = 0 := by omega
              have HTX2 := HTX.out
              have hSX : S5 X w.heap.size r X := S5.of HTX.out (Below.refl _ _)
              obtain ⟨t0, t1, t2⟩ := HTX2
              go_wp2_with fail
              go_region_held3 (fun w' => S5 X w.heap.size r w') (repeat' (first | with_reducible assumption | with_reducible refine S5.drew ?_ | with_reducible refine S5.drewN ?_ _ | with_reducible refine S5.alloc ?_ _)) (first | (refine step_app_tm (by rfl) (.tmp 45) (.tmp 48) (by rfl) X w.heap.size r HTX.out (.slice (some ⟨X.heap.size, 0, none⟩) 0 0) (0) [] (by rfl) (tw_new _ _ (Nat.le_refl _)) ⟨g, 0, none⟩ k _ ((flatT l).take (k * 3)) (by rfl) (by rw [List.length_take, flatT_len, ← HN.out] <;> omega) (pre_news HRX.out (S5.bel (b := w.heap.size) (r := r) (by assumption)) _) (by omega) (by assumption) ?_; intro v1 w1 hown1 hS1 hk1) | (refine step_app_tm (by rfl) (.tmp 45) (.tmp 48) (by rfl) X w.heap.size r HTX.out (.slice (some ⟨X.heap.size, 0, none⟩) 0 0) (0) [] (by rfl) (World.ownsRow.alloc (tw_new _ _ (Nat.le_refl _)) _) ⟨g, 0, none⟩ k _ ((flatT l).take (k * 3)) (by rfl) (by rw [List.length_take, flatT_len, ← HN.out] <;> omega) (pre_news HRX.out (S5.bel (b := w.heap.size) (r := r) (by assumption)) _) (by omega) (by assumption) ?_; intro v1 w1 hown1 hS1 hk1; have c51 := T3.kept (lit_new2 _ _ r) hk1 (by intro q hq; simp [Value.ownBlock] at hq; omega)) | (refine step_app_tm (by rfl) (.tmp 45) (.tmp 48) (by rfl) X w.heap.size r HTX.out (.slice (some ⟨X.heap.size + 1, 0, none⟩) 0 0) (0) [] (by rfl) (tw_new' _ _ _ (Nat.le_refl _)) ⟨g, 0, none⟩ k _ ((flatT l).take (k * 3)) (by rfl) (by rw [List.length_take, flatT_len, ← HN.out] <;> omega) (pre_news HRX.out (S5.bel (b := w.heap.size) (r := r) (by assumption)) _) (by omega) (by assumption) ?_; intro v1 w1 hown1 hS1 hk1; have c51 := T3.kept (lit_new3 _ _ r) hk1 (by intro q hq; simp [Value.ownBlock] at hq; omega)) | (refine step_app_tm (by rfl) (.tmp 52) (.tmp 53) (by rfl) X w.heap.size r HTX.out v2 (0 + k + 1) ([] ++ ((flatT l).take (k * 3)) ++ encT r) (by rfl) hown2 ⟨g, k * 3, none⟩ 0 _ ((flatT l).drop ((k + 1) * 3)) (by rfl) (by rw [List.length_drop, flatT_len, ← HN.out] <;> omega) (nil_news (List.drop_eq_nil_of_le (by rw [flatT_len, ← HN.out] <;> omega))) (by omega) (by assumption) ?_; intro v3 w3 hown3 hS3 hk3) | (refine step_app_tm (by rfl) (.tmp 49) (.tmp 51) (by rfl) X w.heap.size r HTX.out v1 (0 + k) ([] ++ ((flatT l).take (k * 3))) (by rfl) (by first | exact hown1 | exact World.ownsRow.alloc hown1 _) _ 1 _ (encT r) (by rfl) rfl (by first | exact T3.news c51 | exact T3.news (T3.new _ r _)) (by omega) (by assumption) ?_; intro v2 w2 hown2 hS2 hk2))
              all_goals
                have hb3 := bel2 HXB.out hS3.2.2.2
                have hrow := FS.base (zs := [] ++ ((flatT l).take (k * 3)) ++ encT r ++ ((flatT l).drop ((k + 1) * 3))) hown3 HXB.out.size
                go_wp2
                go_ret
                refine ⟨_, rfl, ?_, hb3⟩
                exact put_row_is HN.out (by omega) (by omega) HK'.out hrow
            · have z1 : 1 ≤ cap - k := by omega
              have z2 : ¬ cap - k = 1 := by omega
              have z3 : 1 ≤ n - k := by omega
              have z4 : ¬ n - k = 0 := by omega
              have l1 : k ≤ cap := by omega
              have l3 : ¬ cap = 0 := by omega
              have HTX2 := HTX.out
              have hSX : S5 X w.heap.size r X := S5.of HTX.out (Below.refl _ _)
              obtain ⟨t0, t1, t2⟩ := HTX2
              go_wp2_with fail
              go_region_held3 (fun w' => S5 X w.heap.size r w') (repeat' (first | with_reducible assumption | with_reducible refine S5.drew ?_ | with_reducible refine S5.drewN ?_ _ | with_reducible refine S5.alloc ?_ _)) (first | (refine step_app_tm (by rfl) (.tmp 45) (.tmp 48) (by rfl) X w.heap.size r HTX.out (.slice (some ⟨X.heap.size, 0, none⟩) 0 0) (0) [] (by rfl) (tw_new _ _ (Nat.le_refl _)) ⟨g, 0, none⟩ k _ ((flatT l).take (k * 3)) (by rfl) (by rw [List.length_take, flatT_len, ← HN.out] <;> omega) (pre_news HRX.out (S5.bel (b := w.heap.size) (r := r) (by assumption)) _) (by omega) (by assumption) ?_; intro v1 w1 hown1 hS1 hk1) | (refine step_app_tm (by rfl) (.tmp 45) (.tmp 48) (by rfl) X w.heap.size r HTX.out (.slice (some ⟨X.heap.size, 0, none⟩) 0 0) (0) [] (by rfl) (World.ownsRow.alloc (tw_new _ _ (Nat.le_refl _)) _) ⟨g, 0, none⟩ k _ ((flatT l).take (k * 3)) (by rfl) (by rw [List.length_take, flatT_len, ← HN.out] <;> omega) (pre_news HRX.out (S5.bel (b := w.heap.size) (r := r) (by assumption)) _) (by omega) (by assumption) ?_; intro v1 w1 hown1 hS1 hk1; have c51 := T3.kept (lit_new2 _ _ r) hk1 (by intro q hq; simp [Value.ownBlock] at hq; omega)) | (refine step_app_tm (by rfl) (.tmp 45) (.tmp 48) (by rfl) X w.heap.size r HTX.out (.slice (some ⟨X.heap.size + 1, 0, none⟩) 0 0) (0) [] (by rfl) (tw_new' _ _ _ (Nat.le_refl _)) ⟨g, 0, none⟩ k _ ((flatT l).take (k * 3)) (by rfl) (by rw [List.length_take, flatT_len, ← HN.out] <;> omega) (pre_news HRX.out (S5.bel (b := w.heap.size) (r := r) (by assumption)) _) (by omega) (by assumption) ?_; intro v1 w1 hown1 hS1 hk1; have c51 := T3.kept (lit_new3 _ _ r) hk1 (by intro q hq; simp [Value.ownBlock] at hq; omega)) | (refine step_app_tm (by rfl) (.tmp 52) (.tmp 53) (by rfl) X w.heap.size r HTX.out v2 (0 + k + 1) ([] ++ ((flatT l).take (k * 3)) ++ encT r) (by rfl) hown2 ⟨g, k * 3 + 3, none⟩ (n - k - 1) _ ((flatT l).drop (k * 3 + 3)) (by rfl) (by rw [List.length_drop, flatT_len, ← HN.out] <;> omega) (post_news HRX.out (S5.bel (b := w.heap.size) (r := r) (by assumption)) _) (by omega) (by assumption) ?_; intro v3 w3 hown3 hS3 hk3) | (refine step_app_tm (by rfl) (.tmp 49) (.tmp 51) (by rfl) X w.heap.size r HTX.out v1 (0 + k) ([] ++ ((flatT l).take (k * 3))) (by rfl) (by first | exact hown1 | exact World.ownsRow.alloc hown1 _) _ 1 _ (encT r) (by rfl) rfl (by first | exact T3.news c51 | exact T3.news (T3.new _ r _)) (by omega) (by assumption) ?_; intro v2 w2 hown2 hS2 hk2))
              all_goals
                have hb3 := bel2 HXB.out hS3.2.2.2
                have hrow := FS.base (zs := [] ++ ((flatT l).take (k * 3)) ++ encT r ++ ((flatT l).drop (k * 3 + 3))) hown3 HXB.out.size
                go_wp2
                go_ret
                refine ⟨_, rfl, ?_, hb3⟩
                rw [show k * 3 + 3 = (k + 1) * 3 by omega] at hrow
                exact put_row_is HN.out (by omega) (by omega) HK'.out hrow
        · have HQ2' := Lib.hid (fun W => show Calls Try.prog 109 #[tmV t, tmV (td l k)] W fun e w' => e = .returned (.bool true) ∧ Gr W w' by rw [← hq2]; exact HQ2.out _ W)
          have HK' := Lib.hid (show putR l t = l.take k ++ t :: l.drop k by rw [HK.out, if_neg (by rw [hq2]; simp)])
          obtain ⟨a0, a1, a2⟩ := X3.grown hcY
          clear hq2 HK hcY
          obtain ⟨t0, t1, t2⟩ := T3.grown HYT.out
          go_wp2_with fail
          refine wp_region_quiet_grown (by kernel_rfl) (by kernel_rfl) ?_
          repeat (go_big_quiet_step ((first | (go_at_call 109; refine Calls.grown_of (HQ2'.out _)))))
          refine wpQuiet_nil ?_
          intro _ hw'
          obtain ⟨⟨nq, osq⟩, hw''⟩ := hw'
          subst hw''
          have HXG := Lib.hid (HYG.out.trans ⟨nq, osq, rfl⟩)
          generalize grow (Y.drewN nq) osq = X at HXG ⊢
          have HXB := Lib.hid (bel2 HG.out.below HXG.out.below)
          have HXT := Lib.hid (T3.below HT.out HXG.out.below)
          clear t0 t1 t2
          have HXB := Lib.hid (HXB.out)
          have HTX := Lib.hid (HXT.out)
          have HRX := Lib.hid (fun j u hu => box_o (HR.out j u hu) HXB.out)
          clear a0 a1 a2
          have l1 : k ≤ cap := by omega
          have l3 : ¬ cap = 0 := by omega
          have HTX2 := HTX.out
          have hSX : S5 X w.heap.size t X := S5.of HTX.out (Below.refl _ _)
          obtain ⟨t0, t1, t2⟩ := HTX2
          go_wp2_with fail
          go_region_held3 (fun w' => S5 X w.heap.size t w') (repeat' (first | with_reducible assumption | with_reducible refine S5.drew ?_ | with_reducible refine S5.drewN ?_ _ | with_reducible refine S5.alloc ?_ _)) (first | (refine step_app_tm (by rfl) (.tmp 45) (.tmp 48) (by rfl) X w.heap.size t HTX.out (.slice (some ⟨X.heap.size, 0, none⟩) 0 0) (0) [] (by rfl) (tw_new _ _ (Nat.le_refl _)) ⟨g, 0, none⟩ k _ ((flatT l).take (k * 3)) (by rfl) (by rw [List.length_take, flatT_len, ← HN.out] <;> omega) (pre_news HRX.out (S5.bel (b := w.heap.size) (r := t) (by assumption)) _) (by omega) (by assumption) ?_; intro v1 w1 hown1 hS1 hk1) | (refine step_app_tm (by rfl) (.tmp 45) (.tmp 48) (by rfl) X w.heap.size t HTX.out (.slice (some ⟨X.heap.size, 0, none⟩) 0 0) (0) [] (by rfl) (World.ownsRow.alloc (tw_new _ _ (Nat.le_refl _)) _) ⟨g, 0, none⟩ k _ ((flatT l).take (k * 3)) (by rfl) (by rw [List.length_take, flatT_len, ← HN.out] <;> omega) (pre_news HRX.out (S5.bel (b := w.heap.size) (r := t) (by assumption)) _) (by omega) (by assumption) ?_; intro v1 w1 hown1 hS1 hk1; have c51 := T3.kept (lit_new2 _ _ t) hk1 (by intro q hq; simp [Value.ownBlock] at hq; omega)) | (refine step_app_tm (by rfl) (.tmp 45) (.tmp 48) (by rfl) X w.heap.size t HTX.out (.slice (some ⟨X.heap.size + 1, 0, none⟩) 0 0) (0) [] (by rfl) (tw_new' _ _ _ (Nat.le_refl _)) ⟨g, 0, none⟩ k _ ((flatT l).take (k * 3)) (by rfl) (by rw [List.length_take, flatT_len, ← HN.out] <;> omega) (pre_news HRX.out (S5.bel (b := w.heap.size) (r := t) (by assumption)) _) (by omega) (by assumption) ?_; intro v1 w1 hown1 hS1 hk1; have c51 := T3.kept (lit_new3 _ _ t) hk1 (by intro q hq; simp [Value.ownBlock] at hq; omega)) | (refine step_app_tm (by rfl) (.tmp 52) (.tmp 53) (by rfl) X w.heap.size t HTX.out v2 (0 + k + 1) ([] ++ ((flatT l).take (k * 3)) ++ encT t) (by rfl) hown2 ⟨g, k * 3, none⟩ (n - k) _ ((flatT l).drop ((k) * 3)) (by rfl) (by rw [List.length_drop, flatT_len, ← HN.out] <;> omega) (post_news HRX.out (S5.bel (b := w.heap.size) (r := t) (by assumption)) _) (by omega) (by assumption) ?_; intro v3 w3 hown3 hS3 hk3) | (refine step_app_tm (by rfl) (.tmp 49) (.tmp 51) (by rfl) X w.heap.size t HTX.out v1 (0 + k) ([] ++ ((flatT l).take (k * 3))) (by rfl) (by first | exact hown1 | exact World.ownsRow.alloc hown1 _) _ 1 _ (encT t) (by rfl) rfl (by first | exact T3.news c51 | exact T3.news (T3.new _ t _)) (by omega) (by assumption) ?_; intro v2 w2 hown2 hS2 hk2))
          all_goals
            have hb3 := bel2 HXB.out hS3.2.2.2
            have hrow := FS.base (zs := [] ++ ((flatT l).take (k * 3)) ++ encT t ++ ((flatT l).drop ((k) * 3))) hown3 HXB.out.size
            go_wp2
            go_ret
            refine ⟨_, rfl, ?_, hb3⟩
            exact put_row_is HN.out (by omega) (by omega) HK'.out hrow
      · have HL := Lib.hid (show ∀ j, j < k + 1 → j < l.length ∧ plLt (td l j) t = true from fun j hj => by
          rcases Nat.lt_or_ge j k with h | h
          · exact hlow.out j h
          · obtain rfl : j = k := by omega
            exact ⟨hkl, hq⟩)
        have HQ' := Lib.hid (fun W => show Calls Try.prog 109 #[tmV (td l k), tmV t] W fun e w' => e = .returned (.bool true) ∧ Gr W w' by rw [← hq]; exact HQ.out _ W)
        clear hq
        go_wp2_with fail
        refine wp_region_quiet_grown (by kernel_rfl) (by kernel_rfl) ?_
        repeat (go_big_quiet_step ((first | (go_at_call 109; refine Calls.grown_of (HQ'.out _)))))
        refine wpQuiet_nil ?_
        intro _ hw'
        obtain ⟨⟨nq, osq⟩, hw''⟩ := hw'
        subst hw''
        go_wp2
        go_roundw
        case rel => exact ⟨k + 1, by omega, by go_num, HL, Lib.hid (hgw.out.trans ⟨_, _, rfl⟩)⟩
        case measure => simp [intOf]; omega
    · obtain rfl : k = n := by omega
      have HK := Lib.hid (HPUT.out k hlow.out (fun h => by rw [← HN.out] at h; omega))
      go_wp2_with fail
      refine wp_region_quiet_grown (by kernel_rfl) (by kernel_rfl) ?_
      repeat (go_big_quiet_step ((fail)))
      refine wpQuiet_nil ?_
      intro _ hw'
      obtain ⟨⟨nq, osq⟩, hw''⟩ := hw'
      subst hw''
      have HYG := Lib.hid (hgw.out.trans ⟨nq, osq, rfl⟩)
      generalize grow (wr.drewN nq) osq = Y at HYG ⊢
      have HYB := Lib.hid (bel2 HG.out.below HYG.out.below)
      have HYT := Lib.hid (T3.below HT.out HYG.out.below)
      clear t0 t1 t2
      have HK' := Lib.hid (show putR l t = l.take k ++ t :: l.drop k by rw [HK.out, if_neg (by rw [← HN.out] <;> omega)])
      clear HK
      by_cases hc : cap = k
      · subst hc
        rcases Nat.eq_zero_or_pos cap with h0 | h0
        · subst h0
          obtain ⟨t0, t1, t2⟩ := T3.grown HYT.out
          go_wp2_with fail
          refine wp_region_quiet_grown (by kernel_rfl) (by kernel_rfl) ?_
          repeat (go_big_quiet_step ((fail)))
          refine wpQuiet_nil ?_
          intro _ hw'
          obtain ⟨⟨nq, osq⟩, hw''⟩ := hw'
          subst hw''
          have HXG := Lib.hid (HYG.out.trans ⟨nq, osq, rfl⟩)
          generalize grow (Y.drewN nq) osq = X at HXG ⊢
          have HXB := Lib.hid (bel2 HG.out.below HXG.out.below)
          have HXT := Lib.hid (T3.below HT.out HXG.out.below)
          clear t0 t1 t2
          have HXB := Lib.hid (HXB.out)
          have HTX := Lib.hid (HXT.out)
          have HRX := Lib.hid (fun j u hu => box_o (HR.out j u hu) HXB.out)
          have l1 : 0 ≤ 0 := by omega
          have HTX2 := HTX.out
          have hSX : S5 X w.heap.size t X := S5.of HTX.out (Below.refl _ _)
          obtain ⟨t0, t1, t2⟩ := HTX2
          go_wp2_with fail
          go_region_held3 (fun w' => S5 X w.heap.size t w') (repeat' (first | with_reducible assumption | with_reducible refine S5.drew ?_ | with_reducible refine S5.drewN ?_ _ | with_reducible refine S5.alloc ?_ _)) (first | (refine step_app_tm (by rfl) (.tmp 45) (.tmp 48) (by rfl) X w.heap.size t HTX.out (.slice (some ⟨X.heap.size, 0, none⟩) 0 0) (0) [] (by rfl) (tw_new _ _ (Nat.le_refl _)) ⟨g, 0, none⟩ 0 _ ((flatT l).take (0 * 3)) (by rfl) (by rw [List.length_take, flatT_len, ← HN.out] <;> omega) (pre_news HRX.out (S5.bel (b := w.heap.size) (r := t) (by assumption)) _) (by omega) (by assumption) ?_; intro v1 w1 hown1 hS1 hk1) | (refine step_app_tm (by rfl) (.tmp 45) (.tmp 48) (by rfl) X w.heap.size t HTX.out (.slice (some ⟨X.heap.size, 0, none⟩) 0 0) (0) [] (by rfl) (World.ownsRow.alloc (tw_new _ _ (Nat.le_refl _)) _) ⟨g, 0, none⟩ 0 _ ((flatT l).take (0 * 3)) (by rfl) (by rw [List.length_take, flatT_len, ← HN.out] <;> omega) (pre_news HRX.out (S5.bel (b := w.heap.size) (r := t) (by assumption)) _) (by omega) (by assumption) ?_; intro v1 w1 hown1 hS1 hk1; have c51 := T3.kept (lit_new2 _ _ t) hk1 (by intro q hq; simp [Value.ownBlock] at hq; omega)) | (refine step_app_tm (by rfl) (.tmp 45) (.tmp 48) (by rfl) X w.heap.size t HTX.out (.slice (some ⟨X.heap.size + 1, 0, none⟩) 0 0) (0) [] (by rfl) (tw_new' _ _ _ (Nat.le_refl _)) ⟨g, 0, none⟩ 0 _ ((flatT l).take (0 * 3)) (by rfl) (by rw [List.length_take, flatT_len, ← HN.out] <;> omega) (pre_news HRX.out (S5.bel (b := w.heap.size) (r := t) (by assumption)) _) (by omega) (by assumption) ?_; intro v1 w1 hown1 hS1 hk1; have c51 := T3.kept (lit_new3 _ _ t) hk1 (by intro q hq; simp [Value.ownBlock] at hq; omega)) | (refine step_app_tm (by rfl) (.tmp 52) (.tmp 53) (by rfl) X w.heap.size t HTX.out v2 (0 + 0 + 1) ([] ++ ((flatT l).take (0 * 3)) ++ encT t) (by rfl) hown2 ⟨g, 0, none⟩ 0 _ ((flatT l).drop ((0) * 3)) (by rfl) (by rw [List.length_drop, flatT_len, ← HN.out] <;> omega) (nil_news (List.drop_eq_nil_of_le (by rw [flatT_len, ← HN.out] <;> omega))) (by omega) (by assumption) ?_; intro v3 w3 hown3 hS3 hk3) | (refine step_app_tm (by rfl) (.tmp 49) (.tmp 51) (by rfl) X w.heap.size t HTX.out v1 (0 + 0) ([] ++ ((flatT l).take (0 * 3))) (by rfl) (by first | exact hown1 | exact World.ownsRow.alloc hown1 _) _ 1 _ (encT t) (by rfl) rfl (by first | exact T3.news c51 | exact T3.news (T3.new _ t _)) (by omega) (by assumption) ?_; intro v2 w2 hown2 hS2 hk2))
          all_goals
            have hb3 := bel2 HXB.out hS3.2.2.2
            have hrow := FS.base (zs := [] ++ ((flatT l).take (0 * 3)) ++ encT t ++ ((flatT l).drop ((0) * 3))) hown3 HXB.out.size
            go_wp2
            go_ret
            refine ⟨_, rfl, ?_, hb3⟩
            exact put_row_is HN.out (by omega) (by omega) HK'.out hrow
        · obtain ⟨t0, t1, t2⟩ := T3.grown HYT.out
          go_wp2_with fail
          refine wp_region_quiet_grown (by kernel_rfl) (by kernel_rfl) ?_
          repeat (go_big_quiet_step ((fail)))
          refine wpQuiet_nil ?_
          intro _ hw'
          obtain ⟨⟨nq, osq⟩, hw''⟩ := hw'
          subst hw''
          have HXG := Lib.hid (HYG.out.trans ⟨nq, osq, rfl⟩)
          generalize grow (Y.drewN nq) osq = X at HXG ⊢
          have HXB := Lib.hid (bel2 HG.out.below HXG.out.below)
          have HXT := Lib.hid (T3.below HT.out HXG.out.below)
          clear t0 t1 t2
          have HXB := Lib.hid (HXB.out)
          have HTX := Lib.hid (HXT.out)
          have HRX := Lib.hid (fun j u hu => box_o (HR.out j u hu) HXB.out)
          have l1 : cap ≤ cap := by omega
          have l3 : ¬ cap = 0 := by omega
          have HTX2 := HTX.out
          have hSX : S5 X w.heap.size t X := S5.of HTX.out (Below.refl _ _)
          obtain ⟨t0, t1, t2⟩ := HTX2
          go_wp2_with fail
          go_region_held3 (fun w' => S5 X w.heap.size t w') (repeat' (first | with_reducible assumption | with_reducible refine S5.drew ?_ | with_reducible refine S5.drewN ?_ _ | with_reducible refine S5.alloc ?_ _)) (first | (refine step_app_tm (by rfl) (.tmp 45) (.tmp 48) (by rfl) X w.heap.size t HTX.out (.slice (some ⟨X.heap.size, 0, none⟩) 0 0) (0) [] (by rfl) (tw_new _ _ (Nat.le_refl _)) ⟨g, 0, none⟩ cap _ ((flatT l).take (cap * 3)) (by rfl) (by rw [List.length_take, flatT_len, ← HN.out] <;> omega) (pre_news HRX.out (S5.bel (b := w.heap.size) (r := t) (by assumption)) _) (by omega) (by assumption) ?_; intro v1 w1 hown1 hS1 hk1) | (refine step_app_tm (by rfl) (.tmp 45) (.tmp 48) (by rfl) X w.heap.size t HTX.out (.slice (some ⟨X.heap.size, 0, none⟩) 0 0) (0) [] (by rfl) (World.ownsRow.alloc (tw_new _ _ (Nat.le_refl _)) _) ⟨g, 0, none⟩ cap _ ((flatT l).take (cap * 3)) (by rfl) (by rw [List.length_take, flatT_len, ← HN.out] <;> omega) (pre_news HRX.out (S5.bel (b := w.heap.size) (r := t) (by assumption)) _) (by omega) (by assumption) ?_; intro v1 w1 hown1 hS1 hk1; have c51 := T3.kept (lit_new2 _ _ t) hk1 (by intro q hq; simp [Value.ownBlock] at hq; omega)) | (refine step_app_tm (by rfl) (.tmp 45) (.tmp 48) (by rfl) X w.heap.size t HTX.out (.slice (some ⟨X.heap.size + 1, 0, none⟩) 0 0) (0) [] (by rfl) (tw_new' _ _ _ (Nat.le_refl _)) ⟨g, 0, none⟩ cap _ ((flatT l).take (cap * 3)) (by rfl) (by rw [List.length_take, flatT_len, ← HN.out] <;> omega) (pre_news HRX.out (S5.bel (b := w.heap.size) (r := t) (by assumption)) _) (by omega) (by assumption) ?_; intro v1 w1 hown1 hS1 hk1; have c51 := T3.kept (lit_new3 _ _ t) hk1 (by intro q hq; simp [Value.ownBlock] at hq; omega)) | (refine step_app_tm (by rfl) (.tmp 52) (.tmp 53) (by rfl) X w.heap.size t HTX.out v2 (0 + cap + 1) ([] ++ ((flatT l).take (cap * 3)) ++ encT t) (by rfl) hown2 ⟨g, 0, none⟩ 0 _ ((flatT l).drop ((cap) * 3)) (by rfl) (by rw [List.length_drop, flatT_len, ← HN.out] <;> omega) (nil_news (List.drop_eq_nil_of_le (by rw [flatT_len, ← HN.out] <;> omega))) (by omega) (by assumption) ?_; intro v3 w3 hown3 hS3 hk3) | (refine step_app_tm (by rfl) (.tmp 49) (.tmp 51) (by rfl) X w.heap.size t HTX.out v1 (0 + cap) ([] ++ ((flatT l).take (cap * 3))) (by rfl) (by first | exact hown1 | exact World.ownsRow.alloc hown1 _) _ 1 _ (encT t) (by rfl) rfl (by first | exact T3.news c51 | exact T3.news (T3.new _ t _)) (by omega) (by assumption) ?_; intro v2 w2 hown2 hS2 hk2))
          all_goals
            have hb3 := bel2 HXB.out hS3.2.2.2
            have hrow := FS.base (zs := [] ++ ((flatT l).take (cap * 3)) ++ encT t ++ ((flatT l).drop ((cap) * 3))) hown3 HXB.out.size
            go_wp2
            go_ret
            refine ⟨_, rfl, ?_, hb3⟩
            exact put_row_is HN.out (by omega) (by omega) HK'.out hrow
      · have hck : ¬ cap = k := hc
        obtain ⟨t0, t1, t2⟩ := T3.grown HYT.out
        go_wp2_with fail
        refine wp_region_quiet_grown (by kernel_rfl) (by kernel_rfl) ?_
        repeat (go_big_quiet_step ((fail)))
        refine wpQuiet_nil ?_
        intro _ hw'
        obtain ⟨⟨nq, osq⟩, hw''⟩ := hw'
        subst hw''
        have HXG := Lib.hid (HYG.out.trans ⟨nq, osq, rfl⟩)
        generalize grow (Y.drewN nq) osq = X at HXG ⊢
        have HXB := Lib.hid (bel2 HG.out.below HXG.out.below)
        have HXT := Lib.hid (T3.below HT.out HXG.out.below)
        clear t0 t1 t2
        have HXB := Lib.hid (HXB.out)
        have HTX := Lib.hid (HXT.out)
        have HRX := Lib.hid (fun j u hu => box_o (HR.out j u hu) HXB.out)
        have l1 : k ≤ cap := by omega
        have l3 : ¬ cap = 0 := by omega
        have HTX2 := HTX.out
        have hSX : S5 X w.heap.size t X := S5.of HTX.out (Below.refl _ _)
        obtain ⟨t0, t1, t2⟩ := HTX2
        go_wp2_with fail
        go_region_held3 (fun w' => S5 X w.heap.size t w') (repeat' (first | with_reducible assumption | with_reducible refine S5.drew ?_ | with_reducible refine S5.drewN ?_ _ | with_reducible refine S5.alloc ?_ _)) (first | (refine step_app_tm (by rfl) (.tmp 45) (.tmp 48) (by rfl) X w.heap.size t HTX.out (.slice (some ⟨X.heap.size, 0, none⟩) 0 0) (0) [] (by rfl) (tw_new _ _ (Nat.le_refl _)) ⟨g, 0, none⟩ k _ ((flatT l).take (k * 3)) (by rfl) (by rw [List.length_take, flatT_len, ← HN.out] <;> omega) (pre_news HRX.out (S5.bel (b := w.heap.size) (r := t) (by assumption)) _) (by omega) (by assumption) ?_; intro v1 w1 hown1 hS1 hk1) | (refine step_app_tm (by rfl) (.tmp 45) (.tmp 48) (by rfl) X w.heap.size t HTX.out (.slice (some ⟨X.heap.size, 0, none⟩) 0 0) (0) [] (by rfl) (World.ownsRow.alloc (tw_new _ _ (Nat.le_refl _)) _) ⟨g, 0, none⟩ k _ ((flatT l).take (k * 3)) (by rfl) (by rw [List.length_take, flatT_len, ← HN.out] <;> omega) (pre_news HRX.out (S5.bel (b := w.heap.size) (r := t) (by assumption)) _) (by omega) (by assumption) ?_; intro v1 w1 hown1 hS1 hk1; have c51 := T3.kept (lit_new2 _ _ t) hk1 (by intro q hq; simp [Value.ownBlock] at hq; omega)) | (refine step_app_tm (by rfl) (.tmp 45) (.tmp 48) (by rfl) X w.heap.size t HTX.out (.slice (some ⟨X.heap.size + 1, 0, none⟩) 0 0) (0) [] (by rfl) (tw_new' _ _ _ (Nat.le_refl _)) ⟨g, 0, none⟩ k _ ((flatT l).take (k * 3)) (by rfl) (by rw [List.length_take, flatT_len, ← HN.out] <;> omega) (pre_news HRX.out (S5.bel (b := w.heap.size) (r := t) (by assumption)) _) (by omega) (by assumption) ?_; intro v1 w1 hown1 hS1 hk1; have c51 := T3.kept (lit_new3 _ _ t) hk1 (by intro q hq; simp [Value.ownBlock] at hq; omega)) | (refine step_app_tm (by rfl) (.tmp 52) (.tmp 53) (by rfl) X w.heap.size t HTX.out v2 (0 + k + 1) ([] ++ ((flatT l).take (k * 3)) ++ encT t) (by rfl) hown2 ⟨g, k * 3, none⟩ 0 _ ((flatT l).drop ((k) * 3)) (by rfl) (by rw [List.length_drop, flatT_len, ← HN.out] <;> omega) (nil_news (List.drop_eq_nil_of_le (by rw [flatT_len, ← HN.out] <;> omega))) (by omega) (by assumption) ?_; intro v3 w3 hown3 hS3 hk3) | (refine step_app_tm (by rfl) (.tmp 49) (.tmp 51) (by rfl) X w.heap.size t HTX.out v1 (0 + k) ([] ++ ((flatT l).take (k * 3))) (by rfl) (by first | exact hown1 | exact World.ownsRow.alloc hown1 _) _ 1 _ (encT t) (by rfl) rfl (by first | exact T3.news c51 | exact T3.news (T3.new _ t _)) (by omega) (by assumption) ?_; intro v2 w2 hown2 hS2 hk2))
        all_goals
          have hb3 := bel2 HXB.out hS3.2.2.2
          have hrow := FS.base (zs := [] ++ ((flatT l).take (k * 3)) ++ encT t ++ ((flatT l).drop ((k) * 3))) hown3 HXB.out.size
          go_wp2
          go_ret
          refine ⟨_, rfl, ?_, hb3⟩
          exact put_row_is HN.out (by omega) (by omega) HK'.out hrow
end Go.Proofs.Ythegkifhbgopoaa

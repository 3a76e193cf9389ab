/-
  slices.CompactFunc at rows of terms: what the call returns.
  Condition: the slice reads as the list that is named.
-/
import Derived.Test.YtibdbgeknphljaaPlSort
import Derived.Lib.SliceRun
namespace Go.Proofs.Ytibdbgeknphljaa
set_option linter.unusedSimpArgs false
set_option linter.unusedVariables false
open Go.ChangeShapes Go.WideShapes Go.ChangeAt Go.RowKit
open Go.Sort (grow)

/-- The first elements of a row. -/
theorem row_cut {T : TypeId} {k n m cap : Nat} {w : World} {B : Nat} {A : Option Addr} {xs : List Value} (h : w.ownsRow B T k (.slice A n cap) n xs) (hm : m ≤ n) : w.ownsRow B T k (.slice A m cap) m (xs.take (m * k)) := by
  have hlen := h.1
  rcases h.2 with ⟨h0, h1⟩ | ⟨g, cap', cur, hv, hB, hh, hn, hc, hs, ht⟩
  · simp only [Value.slice.injEq] at h0
    obtain ⟨rfl, rfl, rfl⟩ := h0
    obtain rfl : m = 0 := by omega
    refine ⟨by simp, .inl ⟨rfl, rfl⟩⟩
  · simp only [Value.slice.injEq, true_and] at hv
    obtain ⟨rfl, rfl⟩ := hv
    have hmk : m * k ≤ n * k := Nat.mul_le_mul_right k hm
    refine ⟨by simp; omega, .inr ⟨g, cap, cur, rfl, hB, hh, by omega, hc, hs, ?_⟩⟩
    rw [← ht, List.take_take, Nat.min_eq_left hmk]
/-- A run of stores into a row of ours. -/
theorem row_stores {T : TypeId} {k n cap g B : Nat} : ∀ (vs : List Value) (o : Nat) (w : World) (xs : List Value), w.ownsRow B T k (.slice (some ⟨g, 0, none⟩) n cap) n xs →
    ∃ ys, (w.setCells g o vs).ownsRow B T k (.slice (some ⟨g, 0, none⟩) n cap) n ys ∧ w.grownBy (w.setCells g o vs) (some g) ∧ ys.take o = xs.take o
  | [], o, w, xs, h => ⟨xs, h, World.grownBy.refl _ _, rfl⟩
  | v :: r, o, w, xs, h => by
    have s := World.ownsRow.stored h o v
    obtain ⟨ys, h1, h2, h3⟩ := row_stores r (o + 1) _ _ s.1
    refine ⟨ys, h1, Lib.grownBy_trans s.2 h2, ?_⟩
    have h4 := congrArg (List.take o) h3
    rw [List.take_take, List.take_take, Nat.min_eq_left (by omega)] at h4
    rw [h4, List.take_set_of_le (Nat.le_refl _)]
theorem clear_at {P : Program} (w : World) (t e ty : TypeId) (z : Value) (ht : P.underlying t = some (.slice e)) (hv : ∀ w, (zeroValue e).run P w = .ok z w) (k : Nat) (hk : 0 < k) (hz : z.cells = (List.replicate k (Value.int .i64 0)).toArray) (b o n c : Nat) (hn : 0 < n)
    (hc : ∀ j, j < n * k → (w.cell? ⟨b, o + j, none⟩).isSome = true) (hf : ∀ j, j < n * k → w.frozen? ⟨b, o + j, none⟩ = false) :
    (Builtin.clear_ #[t] ty #[.slice (some ⟨b, o, none⟩) n c]).run P w = .ok (.tuple #[]) (w.setCells b o (ints (List.replicate (n * k) 0))) := by
  have hzc : (Builtin.zeroCells z.cells n).toList = ints (List.replicate (n * k) 0) := by
    rw [hz]
    refine List.ext_getElem (by simp [Builtin.zeroCells, ints]) fun i h1 h2 => ?_
    have h3 : i % k < k := Nat.mod_lt _ hk
    simp [Builtin.zeroCells, ints, h3]
  have hlen : (ints (List.replicate (n * k) (0 : Int))).length = n * k := by simp [ints]
  have hst := run_storeCells_cells (P := P) b o (ints (List.replicate (n * k) 0)) 0 w (by simpa [ints] using hc) (by simpa [ints] using hf) (by intro v hv'; simp [ints] at hv'; rw [hv'.2]; rfl)
  simp only [Nat.add_zero] at hst
  obtain ⟨L, hL⟩ : ∃ L, L = ints (List.replicate (n * k) 0) := ⟨_, rfl⟩
  rw [← hL] at hzc hst ⊢
  clear hL hlen
  obtain ⟨m, rfl⟩ : ∃ m, n = m + 1 := ⟨n - 1, by omega⟩
  simp [Builtin.clear_, run_underlying ht, hv, hzc, hst]
theorem cmpN_len (d : List Tm) : ∀ k, (cmpN d k).length ≤ k
  | 0 => by simp [cmpN]
  | k + 1 => by
    have := cmpN_len d k
    unfold cmpN
    split
    · omega
    · simp; omega
theorem cmpN_skip {d : List Tm} {k : Nat} (h0 : 0 < k) (h : sameTB (td d k) (td d (k - 1)) = true) : cmpN d (k + 1) = cmpN d k := by
  rw [cmpN, if_pos ⟨by omega, h⟩]
theorem cmpN_keep {d : List Tm} {k : Nat} (h : sameTB (td d k) (td d (k - 1)) = false) : cmpN d (k + 1) = cmpN d k ++ [td d k] := by
  rw [cmpN, if_neg (by rw [h]; simp)]
theorem cmpN_one {d : List Tm} (h : 0 < d.length) : cmpN d 1 = d.take 1 := by
  rw [cmpN, if_neg (by simp), take_td d 0 h]; simp [cmpN]
theorem flatT_take (d : List Tm) (k : Nat) : (flatT d).take (k * 3) = flatT (d.take k) := by
  induction d generalizing k with
  | nil => simp [flatT]
  | cons a d ih =>
    cases k with
    | zero => simp [flatT]
    | succ k =>
      show (encT a ++ flatT d).take ((k + 1) * 3) = encT a ++ flatT (d.take k)
      rw [← ih k, List.take_append, show (encT a).take ((k + 1) * 3) = encT a from List.take_of_length_le (by simp [encT]; omega), show (k + 1) * 3 - (encT a).length = k * 3 by simp [encT]; omega]
theorem td_set {L : List Tm} {i p : Nat} {t : Tm} (h : i ≠ p) : td (L.set i t) p = td L p := by
  unfold td; rw [List.getD_eq_getElem?_getD, List.getD_eq_getElem?_getD, List.getElem?_set_ne h]
theorem flatT_set : ∀ (L : List Tm) (i : Nat) (t : Tm), i < L.length → flatT (L.set i t) = (((flatT L).set (i * 3) t.1).set (i * 3 + 1) t.2.1).set (i * 3 + 2) t.2.2
  | [], _, _, h => by simp at h
  | a :: r, 0, t, _ => rfl
  | a :: r, i + 1, t, h => by
    have ih := flatT_set r i t (by simpa using h)
    show encT a ++ flatT (r.set i t) = _
    rw [ih, show (i + 1) * 3 = i * 3 + 1 + 1 + 1 by omega]
    rfl
theorem take_set_snoc {L : List Tm} {i : Nat} {t : Tm} (h : i < L.length) : (L.set i t).take (i + 1) = L.take i ++ [t] := by
  rw [take_td _ _ (by simpa using h), List.take_set_of_le (Nat.le_refl _), td_eq _ _ (by simpa using h)]
  simp
theorem ent_same : ∀ (args : Array Value) (w : World), (callFunc 82 args).run Try.prog w = .ok (.enter 82 args) w := enters_of Try.func82 (by kernel_rfl) rfl
set_option maxHeartbeats 2000000 in
set_option maxRecDepth 100000 in
theorem compactFunc_any (w : World) (B : Nat) (v : Value) (d : List Tm) (h : TmS w B v d) (hz : d.length ≤ 1000000) : Calls Try.prog 81 #[v, .func (.func 82) #[] #[]] w fun e w' => ∃ r, e = .returned r ∧ TmS w' B r (cmpN d d.length) ∧ w.grownBy w' v.ownBlock := by
  have hlen := h.len
  have eg := ent_same
  obtain ⟨n, hn⟩ : ∃ n, n = d.length := ⟨_, rfl⟩
  have HN := Lib.hid hn
  by_cases h2 : n < 2
  · have HC := Lib.hid (show cmpN d d.length = d by
      rcases Nat.eq_zero_or_pos d.length with h0 | h0
      · rw [List.eq_nil_of_length_eq_zero h0]; rfl
      · have h1 : d.length = 1 := by omega
        rw [h1, cmpN_one h0, ← h1, List.take_length])
    have H0 := Lib.hid h
    obtain ⟨A, cap, rfl, -, -⟩ := TmS.parts h
    rw [← hn] at hz ⊢
    clear h hn hlen
    go_enter Try.func81, Try.ntmps81
    go_wp2
    go_ret
    refine ⟨_, rfl, ?_, World.grownBy.refl _ _⟩
    rw [HN.out, HC.out]
    exact H0.out
  · rcases h.2 with ⟨rfl, h0⟩ | ⟨g, cap, cur, rfl, hBg, hh, hnc, hcm, -⟩
    · omega
    · have hg : g < w.heap.size := (Array.getElem?_eq_some_iff.1 hh).1
      obtain ⟨A', cap', hv', -, hp⟩ := TmS.parts h
      simp only [Value.slice.injEq, true_and] at hv'
      obtain ⟨rfl, rfl⟩ := hv'
      have HP := Lib.hid (fun k hk => by
        obtain ⟨g', hg', hx⟩ := hp k hk
        obtain rfl : g = g' := by simpa using hg'
        exact (hx : X3 w g (k * 3) (td d k)))
      have H0 := Lib.hid h
      have HS := Lib.hid (fun s t W => haveSame_any s t W)
      have h2' : 2 ≤ n := by omega
      rw [← hn] at hz hnc ⊢
      clear h hn hlen hp hh h2
      go_enter Try.func81, Try.ntmps81
      go_wp2
      go_loopw [5] (fun i wr => ∃ k : Nat, 1 ≤ k ∧ k ≤ n ∧ i = .int .i64 k ∧ Hid (cmpN d k = d.take k) ∧ Hid (Gr w wr)) (fun i _ => n - (intOf i).toNat)
      case atStart => exact ⟨1, by omega, by omega, rfl, Lib.hid (cmpN_one (by rw [← HN.out]; omega)), Lib.hid (gr0 w)⟩
      case round =>
        obtain ⟨k, hk1, hk, rfl, hco, hgr⟩ := hrel
        by_cases hlt : k < n
        · have ck := X3.below (HP.out k (by rw [← HN.out]; exact hlt)) hgr.out.below
          have cp := X3.below (HP.out (k - 1) (by rw [← HN.out]; omega)) hgr.out.below
          obtain ⟨a0, a1, a2⟩ := X3.grown ck
          obtain ⟨b0, b1, b2⟩ := X3.grown cp
          have q1 : IntKind.i64.wrap ((k : Int) - 1) = ((k - 1 : Nat) : Int) := by rw [IntWalk.i64_in _ (by omega)]; omega
          have z1 : ((k - 1 : Nat) : Int) < (n : Int) := by omega
          have z2 : (0 : Int) ≤ ((k - 1 : Nat) : Int) := by omega
          have z3 : k - 1 < n := by omega
          clear ck cp
          cases hsm : sameTB (td d k) (td d (k - 1))
          · have HK := Lib.hid (cmpN_keep hsm)
            have HS' := Lib.hid (fun W => show Calls Try.prog 82 #[tmV (td d k), tmV (td d (k - 1))] W fun e w' => e = .returned (.bool false) ∧ Gr W w' by rw [← hsm]; exact HS.out _ _ W)
            clear hsm
            go_wp2_with fail
            refine wp_region_quiet_grown (by kernel_rfl) (by kernel_rfl) ?_
            repeat (go_big_quiet_step ((first | (go_at_fn 82; refine Calls.grown_of (HS'.out _)))))
            refine wpQuiet_nil ?_
            intro _ hw'
            obtain ⟨⟨nq, osq⟩, hw''⟩ := hw'
            subst hw''
            clear q1
            go_wp2
            go_roundw
            case rel => exact ⟨k + 1, by omega, by omega, by go_num, Lib.hid (by rw [HK.out, hco.out, take_td d k (by rw [← HN.out]; exact hlt)]), Lib.hid (hgr.out.trans ⟨_, _, rfl⟩)⟩
            case measure => simp [intOf]; omega
          · have HK := Lib.hid (cmpN_skip (by omega) hsm)
            have HS' := Lib.hid (fun W => show Calls Try.prog 82 #[tmV (td d k), tmV (td d (k - 1))] W fun e w' => e = .returned (.bool true) ∧ Gr W w' by rw [← hsm]; exact HS.out _ _ W)
            clear hsm
            go_wp2_with fail
            refine wp_region_quiet_grown (by kernel_rfl) (by kernel_rfl) ?_
            repeat (go_big_quiet_step ((first | (go_at_fn 82; refine Calls.grown_of (HS'.out _)))))
            refine wpQuiet_nil ?_
            intro _ hw'
            obtain ⟨⟨nq, osq⟩, hw''⟩ := hw'
            subst hw''
            clear q1 a0 a1 a2 b0 b1 b2
            have hG := Lib.hid (hgr.out.trans ⟨nq, osq, rfl⟩)
            generalize grow (wr.drewN nq) osq = w1 at hG ⊢
            have HR := Lib.hid (FS.below H0.out hG.out.below)
            have hd1 : cmpN d (k + 1) = d.take k := by rw [HK.out, hco.out]
            have HD1 := Lib.hid hd1
            clear hd1
            go_wp2
            go_loopw [5, 7] (fun i5 i7 wq => ∃ W : World, W = wq ∧ ∃ (kk k2 : Nat) (L : List Tm), i5 = .int .i64 kk ∧ i7 = .int .i64 k2 ∧ 1 ≤ k2 ∧ k + k2 ≤ n ∧ kk < k + k2 ∧ Hid (kk = (cmpN d (k + k2)).length) ∧ Hid (L.length = n) ∧ Hid (L.take kk = cmpN d (k + k2)) ∧ Hid (∀ p, k + k2 - 1 ≤ p → td L p = td d p) ∧ Hid (wq.ownsRow B 54 3 (.slice (some ⟨g, 0, none⟩) n cap) n (ints (flatT L))) ∧ Hid (w.grownBy wq (some g))) (fun _ i _ => n - k - (intOf i).toNat)
            case atStart =>
              refine ⟨_, rfl, k, 1, d, rfl, rfl, by omega, by omega, by omega, Lib.hid ?_, Lib.hid HN.out.symm, Lib.hid HD1.out.symm, Lib.hid fun _ _ => rfl, Lib.hid ?_, Lib.hid ?_⟩
              · rw [HD1.out, List.length_take, ← HN.out]; omega
              · have := HR.out
                unfold FS at this
                rw [← HN.out] at this
                exact this
              · obtain ⟨q, os, rfl⟩ := hG.out
                have hb := Lib.below_grow w.heap.size w (Nat.le_refl _) q os
                exact ⟨hb.os, hb.tape, hb.output, hb.size, fun j hj _ => hb.block j hj⟩
            case round =>
              obtain ⟨wq, rfl, kk, k2, L, rfl, rfl, h1, hle, hkk, hlen, hL, htk, hhi, hrow, hgr2⟩ := hrel
              have hgq : g < wq.heap.size := (World.ownsRow.lt hrow.out g rfl).2
              have hcell : ∀ p, p < n → X3 wq g (p * 3) (td L p) := fun p hp => by
                have e : ∀ i, i < 3 → wq.cell? ⟨g, p * 3 + i, none⟩ = (encV (td L p))[i]? := fun i hi => by
                  rw [World.ownsRow.cellAt hrow.out (p * 3 + i) (by omega), flatT_at L p i (by rw [hL.out]; exact hp) hi]
                exact ⟨e 0 (by omega), e 1 (by omega), e 2 (by omega)⟩
              have HCell := Lib.hid hcell
              clear hcell
              by_cases hlt2 : k + k2 < n
              · have ck := HCell.out (k + k2) hlt2
                have cp := HCell.out (k + k2 - 1) (by omega)
                rw [hhi.out (k + k2) (by omega), show (k + k2) * 3 = k * 3 + k2 * 3 by omega] at ck
                rw [hhi.out (k + k2 - 1) (by omega), show (k + k2 - 1) * 3 = k * 3 + (k2 - 1) * 3 by omega] at cp
                obtain ⟨a0, a1, a2⟩ := X3.grown ck
                obtain ⟨b0, b1, b2⟩ := X3.grown cp
                have q1 : IntKind.i64.wrap ((k2 : Int) - 1) = ((k2 - 1 : Nat) : Int) := by rw [IntWalk.i64_in _ (by omega)]; omega
                have z3 : k2 - 1 < n - k := by omega
                have z4 : k2 < n - k := by omega
                have z2 : (0 : Int) ≤ ((k2 - 1 : Nat) : Int) := by omega
                cases hsm : sameTB (td d (k + k2)) (td d (k + k2 - 1))
                · have HK2 := Lib.hid (cmpN_keep hsm)
                  have HS' := Lib.hid (fun W => show Calls Try.prog 82 #[tmV (td d (k + k2)), tmV (td d (k + k2 - 1))] W fun e w' => e = .returned (.bool false) ∧ Gr W w' by rw [← hsm]; exact HS.out _ _ W)
                  clear hsm
                  go_wp2_with fail
                  refine wp_region_quiet_grown (by kernel_rfl) (by kernel_rfl) ?_
                  repeat (go_big_quiet_step ((first | (go_at_fn 82; refine Calls.grown_of (HS'.out _)))))
                  refine wpQuiet_nil ?_
                  intro _ hw'
                  obtain ⟨⟨nq, osq⟩, hw''⟩ := hw'
                  subst hw''
                  have hrow1 := Lib.hid (show (grow (wq.drewN nq) osq).ownsRow B 54 3 (.slice (some ⟨g, 0, none⟩) n cap) n (ints (flatT L)) from FS.below (zs := flatT L) hrow.out (grB nq osq))
                  have ck1 := X3.below ck (grB nq osq)
                  have hg1 := Lib.hid (Lib.grownBy_trans hgr2.out (show wq.grownBy (grow (wq.drewN nq) osq) (some g) from by
                    have hb := grB (w := wq) nq osq
                    exact ⟨hb.os, hb.tape, hb.output, hb.size, fun j hj _ => hb.block j hj⟩))
                  clear q1 a0 a1 a2 b0 b1 b2 ck cp
                  generalize grow (wq.drewN nq) osq = W1 at hrow1 ck1 hg1 ⊢
                  obtain ⟨c0, c1, c2⟩ := ck1
                  have f0 := World.ownsRow.frozenAt hrow1.out (kk * 3)
                  have f1 := World.ownsRow.frozenAt hrow1.out (kk * 3 + 1)
                  have f2 := World.ownsRow.frozenAt hrow1.out (kk * 3 + 2)
                  have e : ∀ i, i < 3 → W1.cell? ⟨g, kk * 3 + i, none⟩ = (encV (td L kk))[i]? := fun i hi => by
                    rw [World.ownsRow.cellAt hrow1.out (kk * 3 + i) (by omega), flatT_at L kk i (by rw [hL.out]; omega) hi]
                  have o0 : W1.cell? ⟨g, kk * 3, none⟩ = some (.int .i64 (td L kk).1) := e 0 (by omega)
                  have o1 : W1.cell? ⟨g, kk * 3 + 1, none⟩ = some (.int .i64 (td L kk).2.1) := e 1 (by omega)
                  have o2 : W1.cell? ⟨g, kk * 3 + 2, none⟩ = some (.int .i64 (td L kk).2.2) := e 2 (by omega)
                  have s0 := World.ownsRow.stored hrow1.out (kk * 3) (.int .i64 (td d (k + k2)).1)
                  have s1 := World.ownsRow.stored s0.1 (kk * 3 + 1) (.int .i64 (td d (k + k2)).2.1)
                  have s2 := World.ownsRow.stored s1.1 (kk * 3 + 2) (.int .i64 (td d (k + k2)).2.2)
                  have hrow2 := s2.1
                  rw [show (((ints (flatT L)).set (kk * 3) (.int .i64 (td d (k + k2)).1)).set (kk * 3 + 1) (.int .i64 (td d (k + k2)).2.1)).set (kk * 3 + 2) (.int .i64 (td d (k + k2)).2.2) = ints (flatT (L.set kk (td d (k + k2)))) from by rw [flatT_set L kk _ (by rw [hL.out]; omega)]; unfold ints; simp only [List.map_set]] at hrow2
                  have HF := Lib.hid (And.intro hrow2 (Lib.grownBy_trans (Lib.grownBy_trans (Lib.grownBy_trans hg1.out s0.2) s1.2) s2.2))
                  clear s0 s1 s2 hrow2 e
                  have hkn : kk < n := by omega
                  go_wp2
                  go_roundw
                  case rel =>
                    refine ⟨_, rfl, kk + 1, k2 + 1, L.set kk (td d (k + k2)), by go_num, by go_num, by omega, by omega, by omega, Lib.hid ?_, Lib.hid (by rw [List.length_set]; exact hL.out), Lib.hid ?_, Lib.hid fun p hp => ?_, Lib.hid HF.out.1, Lib.hid HF.out.2⟩
                    · rw [show k + (k2 + 1) = k + k2 + 1 by omega, HK2.out, List.length_append, ← hlen.out]; rfl
                    · rw [show k + (k2 + 1) = k + k2 + 1 by omega, HK2.out, take_set_snoc (by rw [hL.out]; exact hkn), htk.out]
                    · rw [td_set (by omega)]; exact hhi.out p (by omega)
                  case measure => simp [intOf]; omega
                · have HK2 := Lib.hid (cmpN_skip (by omega) hsm)
                  have HS' := Lib.hid (fun W => show Calls Try.prog 82 #[tmV (td d (k + k2)), tmV (td d (k + k2 - 1))] W fun e w' => e = .returned (.bool true) ∧ Gr W w' by rw [← hsm]; exact HS.out _ _ W)
                  clear hsm
                  go_wp2_with fail
                  refine wp_region_quiet_grown (by kernel_rfl) (by kernel_rfl) ?_
                  repeat (go_big_quiet_step ((first | (go_at_fn 82; refine Calls.grown_of (HS'.out _)))))
                  refine wpQuiet_nil ?_
                  intro _ hw'
                  obtain ⟨⟨nq, osq⟩, hw''⟩ := hw'
                  subst hw''
                  clear q1 a0 a1 a2 b0 b1 b2
                  go_wp2
                  go_roundw
                  case rel =>
                    refine ⟨_, rfl, kk, k2 + 1, L, rfl, by go_num, by omega, by omega, by omega, Lib.hid ?_, hL, Lib.hid ?_, Lib.hid fun p hp => hhi.out p (by omega), Lib.hid (FS.below (zs := flatT L) hrow.out (grB _ _)), Lib.hid ?_⟩
                    · rw [show k + (k2 + 1) = k + k2 + 1 by omega, HK2.out]; exact hlen.out
                    · rw [show k + (k2 + 1) = k + k2 + 1 by omega, HK2.out]; exact htk.out
                    · have hb := grB (w := wq) nq osq
                      exact Lib.grownBy_trans hgr2.out ⟨hb.os, hb.tape, hb.output, hb.size, fun j hj _ => hb.block j hj⟩
                  case measure => simp [intOf]; omega
              · have hkn : kk < n := by omega
                have hke : k + k2 = n := by omega
                have hcl : ∀ ty, (Builtin.clear_ #[25] ty #[.slice (some ⟨g, kk * 3, none⟩) (n - kk) (cap - kk)]).run Try.prog wq = .ok (.tuple #[]) (wq.setCells g (kk * 3) (ints (List.replicate ((n - kk) * 3) 0))) := fun ty =>
                  clear_at wq 25 54 ty _ Try.underlying25 Try.zeroValue54 3 (by omega) rfl g (kk * 3) (n - kk) (cap - kk) (by omega)
                    (fun j hj => by rw [World.ownsRow.cellAt hrow.out (kk * 3 + j) (by omega), getD_ints _ _ (by rw [flatT_len, hL.out]; omega)]; rfl)
                    (fun j hj => World.ownsRow.frozenAt hrow.out (kk * 3 + j))
                obtain ⟨ys, y1, y2, y3⟩ := row_stores (ints (List.replicate ((n - kk) * 3) 0)) (kk * 3) wq _ hrow.out
                have HY := Lib.hid (And.intro (row_cut y1 (Nat.le_of_lt hkn)) (And.intro (Lib.grownBy_trans hgr2.out y2) y3))
                clear y1 y2 y3
                generalize wq.setCells g (kk * 3) (ints (List.replicate ((n - kk) * 3) 0)) = W2 at hcl HY
                go_wp2
                go_ret
                obtain ⟨y1, y2, y3⟩ := HY.out
                refine ⟨_, rfl, ?_, y2⟩
                rw [y3] at y1
                have hlk := hlen.out
                rw [hke] at hlk
                have htk := htk.out
                rw [hke] at htk
                unfold TmS FS
                rw [← hlk, ← htk, ← flatT_take]
                unfold ints at y1 ⊢
                rw [List.map_take]
                exact y1
        · obtain rfl : k = n := by omega
          go_wp2
          go_ret
          refine ⟨_, rfl, ?_, ?_⟩
          · have := FS.below H0.out hgr.out.below
            rw [hco.out, HN.out, List.take_length]
            exact this
          · have hb := hgr.out.below
            exact ⟨hb.os, hb.tape, hb.output, hb.size, fun j hj _ => hb.block j hj⟩
end Go.Proofs.Ytibdbgeknphljaa

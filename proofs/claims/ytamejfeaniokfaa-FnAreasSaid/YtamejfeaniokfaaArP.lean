/-
  Areas, points of the boundary and inside, widths of polygons: plain mathematics for the law on areas.
  No condition.
-/
import Derived.Test.YtamejfeaniokfaaArM
import Derived.Test.YtamejfeaniokfaaPgW
namespace Go.Proofs.Ytamejfeaniokfaa
set_option linter.unusedSimpArgs false
set_option linter.unusedVariables false

/-! ### The area by its terms -/
def sumF (g : Nat → Int) : Nat → Int
  | 0 => 0
  | k + 1 => sumF g k + g k
theorem sumF_shift (g : Nat → Int) : ∀ n, sumF g (n + 1) = g 0 + sumF (fun k => g (k + 1)) n
  | 0 => by simp [sumF]
  | n + 1 => by
    have ih := sumF_shift g n
    have e1 : sumF g (n + 1 + 1) = sumF g (n + 1) + g (n + 1) := rfl
    have e2 : sumF (fun k => g (k + 1)) (n + 1) = sumF (fun k => g (k + 1)) n + g (n + 1) := rfl
    rw [e1, e2, ih]; omega
theorem sumF_congr {g g' : Nat → Int} : ∀ n, (∀ k, k < n → g k = g' k) → sumF g n = sumF g' n
  | 0, _ => rfl
  | n + 1, h => by
    have e1 : sumF g (n + 1) = sumF g n + g n := rfl
    have e2 : sumF g' (n + 1) = sumF g' n + g' n := rfl
    rw [e1, e2, sumF_congr n fun k hk => h k (by omega), h n (by omega)]
theorem wsum_idx (f : Pt → Pt → Int) : ∀ (t : List Pt) (a : Pt), wsum f (a :: t) = sumF (fun k => f (pd (a :: t) k) (pd (a :: t) (k + 1))) t.length
  | [], a => by simp [wsum, sumF]
  | b :: t, a => by
    have ih := wsum_idx f t b
    rw [List.length_cons, sumF_shift]
    show f a b + wsum f (b :: t) = _
    rw [ih]
    rfl
theorem arS_sum (l : List Pt) : ∀ k, arS l k = sumF (fun k => crP (pd l k) (nxP l k)) k
  | 0 => rfl
  | k + 1 => by rw [arS, arS_sum l k]; rfl
theorem pd_appL (l m : List Pt) {k : Nat} (h : k < l.length) : pd (l ++ m) k = pd l k := by
  unfold pd; rw [List.getD_eq_getElem?_getD, List.getElem?_append_left h, ← List.getD_eq_getElem?_getD]
theorem pd_appR (l : List Pt) (a : Pt) : pd (l ++ [a]) l.length = a := by
  unfold pd; rw [List.getD_eq_getElem?_getD, List.getElem?_append_right (Nat.le_refl _)]; simp
theorem arL_eq {l : List Pt} (hl : l ≠ []) : arL l = areaL l := by
  match l, hl with
  | a :: t, _ =>
    show arS (a :: t) (t.length + 1) = wsum crP (a :: (t ++ [a]))
    rw [arS_sum, wsum_idx, List.length_append]
    refine sumF_congr _ fun k hk => ?_
    have hk' : k < (a :: t).length := by simpa using hk
    have e1 : pd (a :: (t ++ [a])) k = pd (a :: t) k := pd_appL (a :: t) [a] hk'
    have e2 : pd (a :: (t ++ [a])) (k + 1) = nxP (a :: t) k := by
      unfold nxP
      by_cases h : k + 1 < (a :: t).length
      · rw [Nat.mod_eq_of_lt h]
        exact pd_appL (a :: t) [a] h
      · have h1 : k + 1 = (a :: t).length := by omega
        rw [h1, Nat.mod_self]
        exact pd_appR (a :: t) a
    rw [e1, e2]
/-! ### Parity -/
def vP (p : Pt) : Int := p.1 + p.2 + p.1 * p.2
theorem gI_two (a b : Int) : (2 : Int) ∣ gI a b ↔ (2 : Int) ∣ a ∧ (2 : Int) ∣ b := by
  unfold gI
  constructor
  · intro h
    exact ⟨Int.dvd_trans h (Int.gcd_dvd_left ..), Int.dvd_trans h (Int.gcd_dvd_right ..)⟩
  · rintro ⟨h, h'⟩
    exact Int.dvd_coe_gcd h h'
theorem gI_par (a b : Int) : gI a b % 2 = (a + b + a * b) % 2 := by
  have h := gI_two a b
  rw [Int.add_emod (a + b), Int.mul_emod]
  rcases (by omega : a % 2 = 0 ∨ a % 2 = 1) with ha | ha <;> rcases (by omega : b % 2 = 0 ∨ b % 2 = 1) with hb | hb <;> rw [ha, hb] <;> simp <;> omega
theorem par_step (p q : Pt) : ∃ t : Int, gI (q.1 - p.1) (q.2 - p.2) + crP p q = vP p + vP q + 2 * t := by
  have h := gI_par (q.1 - p.1) (q.2 - p.2)
  obtain ⟨g, hg⟩ : ∃ g, g = gI (q.1 - p.1) (q.2 - p.2) := ⟨_, rfl⟩
  rw [← hg] at h ⊢
  have h2 : ∃ s : Int, g = (q.1 - p.1) + (q.2 - p.2) + (q.1 - p.1) * (q.2 - p.2) + 2 * s := ⟨(g - ((q.1 - p.1) + (q.2 - p.2) + (q.1 - p.1) * (q.2 - p.2))) / 2, by omega⟩
  obtain ⟨s, hs⟩ := h2
  refine ⟨s - p.1 - p.2 - p.2 * q.1, ?_⟩
  rw [hs]
  unfold crP vP
  grind
theorem par_sum {l : List Pt} (hn : 0 < l.length) : ∀ m, m ≤ l.length → ∃ t : Int, sumF (fun k => gI (edP l k).1 (edP l k).2) m + arS l m = vP (pd l 0) + vP (pd l (m % l.length)) + 2 * t
  | 0, _ => ⟨- vP (pd l 0), by rw [Nat.zero_mod]; simp only [sumF, arS]; omega⟩
  | m + 1, h => by
    obtain ⟨t, ht⟩ := par_sum hn m (by omega)
    rw [Nat.mod_eq_of_lt (by omega)] at ht
    obtain ⟨s, hs⟩ := par_step (pd l m) (nxP l m)
    refine ⟨t + s + vP (pd l m), ?_⟩
    have e1 : sumF (fun k => gI (edP l k).1 (edP l k).2) (m + 1) = sumF (fun k => gI (edP l k).1 (edP l k).2) m + gI (edP l m).1 (edP l m).2 := rfl
    have e2 : gI (edP l m).1 (edP l m).2 = gI ((nxP l m).1 - (pd l m).1) ((nxP l m).2 - (pd l m).2) := rfl
    have e3 : pd l ((m + 1) % l.length) = nxP l m := rfl
    rw [e1, e2, e3, arS]
    omega
theorem bnS_sum (E : List Pt) : ∀ k, bnS E k = sumF (fun k => gI (pd E k).1 (pd E k).2) k
  | 0 => rfl
  | k + 1 => by rw [bnS, bnS_sum E k]; rfl
theorem inner_fits {l : List Pt} (h2 : 2 < l.length) : arL l = 2 * inL l + bnL l - 2 := by
  have e1 : bnL l = bnT l := if_neg (by omega)
  have e2 : inL l = (arL l - bnL l + 2).tdiv 2 := if_neg (by omega)
  obtain ⟨t, ht⟩ := par_sum (l := l) (by omega) l.length (Nat.le_refl _)
  rw [Nat.mod_self] at ht
  have e3 : bnT l = sumF (fun k => gI (edP l k).1 (edP l k).2) l.length := by
    unfold bnT
    have e4 : edL l = edT l l.length := if_neg (by omega)
    rw [e4, edT_len, bnS_sum]
    exact sumF_congr _ fun k hk => by rw [edT_pd l hk]
  rw [e2]
  rw [← e3] at ht
  have e5 : arL l - bnL l + 2 = 2 * (vP (pd l 0) + t - bnL l + 1) := by rw [e1]; unfold arL; omega
  rw [e5, Int.mul_tdiv_cancel_left _ (by omega)]
  omega
/-! ### Sums -/
theorem suL_comm (a b : List Pt) : suL b a = suL a b := by unfold suL; rw [← hul_same, ← hul_same, srt_swap]
theorem sgB_comm (a b : List Pt) : sgB b a = sgB a b := by
  unfold sgB; rw [suL_comm]
  cases pgB a <;> cases pgB b <;> rfl
theorem mxR_comm (a b : List Pt) : mxR b a = mxR a b := by
  unfold mxR mxL; rw [sgB_comm, suL_comm]
  rw [show arL (suL a b) - arL b - arL a = arL (suL a b) - arL a - arL b by omega]
theorem pg_hul {l : List Pt} (h : pgB l = true) : hulL l = l ∧ l ≠ [] := by
  obtain ⟨-, h1, -⟩ := pg_sm h
  exact ⟨((pgB_iff l).1 h).2, List.length_pos_iff.1 (by omega)⟩
theorem mixed_fits {a b : List Pt} (h : sgB a b = true) : daR (sgR a b) = daR a + daR b + 2 * mxR a b ∧ 0 ≤ mxR a b := by
  obtain ⟨ha, hb, hs⟩ := sgB_parts h
  obtain ⟨ga, na⟩ := pg_hul ha
  obtain ⟨gb, nb⟩ := pg_hul hb
  obtain ⟨M, hM, h0⟩ := area_sum na nb ga gb
  have e1 : daR (sgR a b) = arL (suL a b) := by rw [sgR_yes h, daR_yes hs]
  rw [e1, daR_yes ha, daR_yes hb, mxR_yes h]
  have e2 : arL (suL a b) = arL a + arL b + 2 * M := by
    rw [arL_eq na, arL_eq nb, ← hM]
    exact arL_eq (pg_hul hs).2
  have e3 : mxL a b = M := by
    unfold mxL
    rw [e2, show arL a + arL b + 2 * M - arL a - arL b = 2 * M by omega, Int.mul_tdiv_cancel_left _ (by omega)]
  rw [e3, e2]
  exact ⟨rfl, h0⟩
/-! ### Widths -/
theorem mn_mx (zs : List Int) : ∀ k, mnS zs k ≤ mxS zs k
  | 0 => Int.le_refl _
  | k + 1 => by
    have := mn_mx zs k
    unfold mnS mxS lessI
    split <;> omega
theorem wd_pos (l : List Pt) (d : Pt) : 0 ≤ wdR l d := by
  unfold wdR wdL
  split
  · have := mn_mx (vdL l d) l.length; omega
  · exact Int.le_refl _
theorem mx_is {zs : List Int} : ∀ n, 0 < n → (∀ k, k < n → gd zs k ≤ mxS zs n) ∧ ∃ k, k < n ∧ gd zs k = mxS zs n
  | 1, _ => by
    rw [mxS_1]
    exact ⟨fun k hk => by obtain rfl : k = 0 := by omega
                          exact Int.le_refl _, 0, by omega, rfl⟩
  | n + 2, _ => by
    obtain ⟨h1, k, hk, h2⟩ := mx_is (zs := zs) (n + 1) (by omega)
    have e : mxS zs (n + 2) = max (mxS zs (n + 1)) (gd zs (n + 1)) := rfl
    rw [e]
    refine ⟨fun j hj => ?_, ?_⟩
    · rcases Nat.lt_or_ge j (n + 1) with q | q
      · have := h1 j q; omega
      · obtain rfl : j = n + 1 := by omega
        omega
    · rcases Int.le_total (mxS zs (n + 1)) (gd zs (n + 1)) with q | q
      · exact ⟨n + 1, by omega, by omega⟩
      · exact ⟨k, by omega, by omega⟩
theorem mn_is {zs : List Int} : ∀ n, 0 < n → (∀ k, k < n → mnS zs n ≤ gd zs k) ∧ ∃ k, k < n ∧ gd zs k = mnS zs n
  | 1, _ => by
    rw [mnS_1]
    exact ⟨fun k hk => by obtain rfl : k = 0 := by omega
                          exact Int.le_refl _, 0, by omega, rfl⟩
  | n + 2, _ => by
    obtain ⟨h1, k, hk, h2⟩ := mn_is (zs := zs) (n + 1) (by omega)
    have e : mnS zs (n + 2) = lessI (mnS zs (n + 1)) (gd zs (n + 1)) := rfl
    rw [e]
    unfold lessI
    refine ⟨fun j hj => ?_, ?_⟩
    · rcases Nat.lt_or_ge j (n + 1) with q | q
      · have := h1 j q; split <;> omega
      · obtain rfl : j = n + 1 := by omega
        split <;> omega
    · split
      · exact ⟨k, by omega, by omega⟩
      · exact ⟨n + 1, by omega, rfl⟩
/-- A most valued point that is the last of them. -/
theorem best_ex (v : Pt → Int) : ∀ S : List Pt, S ≠ [] → ∃ q ∈ S, ∀ c ∈ S, v c ≤ v q ∧ (v c = v q → ¬ Bf q c)
  | [a], _ => ⟨a, by simp, fun c hc => by
      obtain rfl : c = a := by simpa using hc
      exact ⟨Int.le_refl _, fun _ => geo_up.irr⟩⟩
  | a :: b :: t, _ => by
    obtain ⟨q, hq, hb⟩ := best_ex v (b :: t) (by simp)
    by_cases h : v q < v a ∨ (v q = v a ∧ Bf q a)
    · refine ⟨a, by simp, fun c hc => ?_⟩
      rcases List.mem_cons.1 hc with rfl | hc
      · exact ⟨Int.le_refl _, fun _ => geo_up.irr⟩
      · obtain ⟨h1, h2⟩ := hb c hc
        rcases h with h | ⟨h, h'⟩
        · exact ⟨by omega, fun e => by omega⟩
        · refine ⟨by omega, fun e hac => ?_⟩
          exact h2 (by omega) (geo_up.trans h' hac)
    · refine ⟨q, List.mem_cons_of_mem _ hq, fun c hc => ?_⟩
      rcases List.mem_cons.1 hc with rfl | hc
      · refine ⟨?_, fun e hqa => h (.inr ⟨e.symm, hqa⟩)⟩
        rcases Int.lt_or_le (v q) (v c) with q1 | q1
        · exact absurd (.inl q1) h
        · exact q1
      · exact hb c hc
theorem vd_df (d p q : Pt) : vdP d q - vdP d p = cr (d.2, - d.1) (dfP p q) := by unfold vdP cr dfP; grind
/-- The most valued point in a direction is a corner. -/
theorem corner_best {l : List Pt} (hl : l ≠ []) (d : Pt) : ∃ q ∈ hulL l, ∀ c ∈ l, vdP d c ≤ vdP d q := by
  obtain ⟨q, hq, hb⟩ := best_ex (vdP d) (srtP l) (srtP_ne hl)
  refine ⟨q, ?_, fun c hc => (hb c ((srtP_mem _ _).2 hc)).1⟩
  rw [hul_mem hl]
  by_cases h1 : Ext Bf trn (srtP l) q
  · left
    unfold lowH
    rw [List.mem_reverse]
    exact ((low_inv l).mem q).2 ⟨hq, h1⟩
  by_cases h2 : Ext Bf trnN (srtP l) q
  · right
    exact ((upp_inv l).mem q).2 ⟨hq, h2⟩
  exfalso
  unfold Ext at h1 h2
  simp only [Classical.not_forall] at h1 h2
  obtain ⟨a, ha, b, hbm, r1, r2, h1⟩ := h1
  obtain ⟨a', ha', b', hbm', r1', r2', h2⟩ := h2
  obtain ⟨w, hw⟩ : ∃ w : Pt, w = (d.2, - d.1) := ⟨_, rfl⟩
  have f1 := bf_fw r1
  have f2 := bf_fw r2
  have f1' := bf_fw r1'
  have f2' := bf_fw r2'
  have k1 : trn a q b = cr (dfP a q) (dfP q b) := by unfold trn cr dfP; grind
  have k2 : trn a' q b' = cr (dfP a' q) (dfP q b') := by unfold trn cr dfP; grind
  unfold trnN at h2
  rw [k1] at h1
  rw [k2] at h2
  have va := vd_df d a q
  have vb := vd_df d q b
  have va' := vd_df d a' q
  have vb' := vd_df d q b'
  rw [← hw] at va vb va' vb'
  have ga := (hb a ha).1
  have ga' := (hb a' ha').1
  have gb : vdP d b < vdP d q := by
    obtain ⟨x, y⟩ := hb b hbm
    rcases Int.lt_or_le (vdP d b) (vdP d q) with z | z
    · exact z
    · exact absurd r2 (y (by omega))
  have gb' : vdP d b' < vdP d q := by
    obtain ⟨x, y⟩ := hb b' hbm'
    rcases Int.lt_or_le (vdP d b') (vdP d q) with z | z
    · exact z
    · exact absurd r2' (y (by omega))
  have anti : ∀ u v : Pt, cr v u = - cr u v := fun u v => by unfold cr; grind
  have e1 := anti w (dfP q b')
  have e2 := anti (dfP a' q) (dfP q b')
  have hfw : Fw w ∨ Fw (-w.1, -w.2) := by
    unfold Fw
    have hnz : ¬ (w.1 = 0 ∧ w.2 = 0) := fun ⟨z1, z2⟩ => by
      have : cr w (dfP q b) = 0 := by unfold cr; rw [z1, z2]; simp
      omega
    simp only
    omega
  rcases hfw with hfw | hfw
  · have tf := cr_tf f2' hfw f1'
    have tf' : TF (cr (dfP q b') w) (cr (dfP q b') (dfP a' q)) (cr w (dfP a' q)) := tf
    unfold TF at tf'
    omega
  · have tf := cr_tf f1 hfw f2
    have tf' : TF (cr (dfP a q) (-w.1, -w.2)) (cr (dfP a q) (dfP q b)) (cr (-w.1, -w.2) (dfP q b)) := tf
    have n1 : cr (dfP a q) (-w.1, -w.2) = cr w (dfP a q) := by unfold cr; grind
    have n2 : cr (-w.1, -w.2) (dfP q b) = - cr w (dfP q b) := by unfold cr; grind
    rw [n1, n2] at tf'
    unfold TF at tf'
    omega
theorem vd_mem {l : List Pt} {d p : Pt} (h : p ∈ l) : ∃ k, k < l.length ∧ gd (vdL l d) k = vdP d p := by
  obtain ⟨k, hk, rfl⟩ := List.getElem_of_mem h
  exact ⟨k, hk, by rw [vdL_gd l d k hk, pd_eq l k hk]⟩
theorem vd_at {l : List Pt} {d : Pt} {k : Nat} (h : k < l.length) : gd (vdL l d) k = vdP d (pd l k) ∧ pd l k ∈ l := ⟨vdL_gd l d k h, pd_mem h⟩
theorem vd_ad (d p q : Pt) : vdP d (adP p q) = vdP d p + vdP d q := by unfold vdP adP; grind
theorem vd_neg (d p : Pt) : vdP (-d.1, -d.2) p = - vdP d p := by unfold vdP; grind
theorem wd_twice {u : List Pt} (hu : u ≠ []) (d : Pt) : wdL (suL u u) d = 2 * wdL u d := by
  have h0 : 0 < u.length := List.length_pos_iff.2 hu
  have hne := sumL_ne h0 h0
  have hs : 0 < (suL u u).length := List.length_pos_iff.2 (hul_ne hne)
  obtain ⟨x1, i, hi, x2⟩ := mx_is (zs := vdL u d) u.length h0
  obtain ⟨y1, j, hj, y2⟩ := mn_is (zs := vdL u d) u.length h0
  obtain ⟨p1, k, hk, p2⟩ := mx_is (zs := vdL (suL u u) d) (suL u u).length hs
  obtain ⟨q1, m, hm, q2⟩ := mn_is (zs := vdL (suL u u) d) (suL u u).length hs
  unfold wdL
  have both : ∀ h ∈ suL u u, 2 * mnS (vdL u d) u.length ≤ vdP d h ∧ vdP d h ≤ 2 * mxS (vdL u d) u.length := fun h hh => by
    obtain ⟨x, hx, y, hy, rfl⟩ := (sumL_mem _ _ _).1 (hul_sub hne hh)
    obtain ⟨s, hs, es⟩ := vd_mem (d := d) hx
    obtain ⟨t, ht, et⟩ := vd_mem (d := d) hy
    have := x1 s hs
    have := x1 t ht
    have := y1 s hs
    have := y1 t ht
    rw [vd_ad]; omega
  have a1 := vd_at (d := d) hi
  have a2 := vd_at (d := d) hj
  have a3 := vd_at (d := d) hk
  have a4 := vd_at (d := d) hm
  have b3 := both _ a3.2
  have b4 := both _ a4.2
  obtain ⟨c, hc, best⟩ := corner_best hne d
  obtain ⟨c', hc', best'⟩ := corner_best hne (-d.1, -d.2)
  have g1 := best (adP (pd u i) (pd u i)) ((sumL_mem _ _ _).2 ⟨_, a1.2, _, a1.2, rfl⟩)
  have g2 := best' (adP (pd u j) (pd u j)) ((sumL_mem _ _ _).2 ⟨_, a2.2, _, a2.2, rfl⟩)
  rw [vd_ad] at g1
  rw [vd_neg, vd_neg, vd_ad] at g2
  obtain ⟨s, hs', es⟩ := vd_mem (l := suL u u) (d := d) hc
  obtain ⟨t, ht', et⟩ := vd_mem (l := suL u u) (d := d) hc'
  have k1 := p1 s hs'
  have k2 := q1 t ht'
  omega
theorem width_fits {u : List Pt} {d : Pt} (h : hpB u d = true) (hs : sgB u u = true) : hpB (sgR u u) d = true ∧ wdR (sgR u u) d = 2 * wdR u d := by
  have h1 : pgB u = true ∧ ptG d = true := by unfold hpB at h; simpa using h
  obtain ⟨-, -, h2⟩ := sgB_parts hs
  rw [sgR_yes hs]
  have h3 : hpB (suL u u) d = true := by unfold hpB; rw [h2, h1.2]; rfl
  refine ⟨h3, ?_⟩
  rw [wdR_yes h3, wdR_yes h]
  exact wd_twice (pg_hul h1.1).2 d
/-! ### Bounds -/
theorem da_bd (l : List Pt) : -80000000 ≤ daR l ∧ daR l ≤ 80000000 := by
  unfold daR
  split
  · next h =>
    obtain ⟨h1, h2, h3⟩ := pg_sm h
    have := arS_bd h1 l.length (Nat.le_refl _)
    unfold arL; omega
  · omega
theorem bn_bd (l : List Pt) : 0 ≤ bnR l ∧ bnR l ≤ 160001 := by
  unfold bnR
  split
  · next h =>
    obtain ⟨h1, h2, h3⟩ := pg_sm h
    have := bnT_bd h1
    unfold bnL
    split
    · have := Int.tdiv_nonneg (a := bnT l) (b := 2) (by omega) (by omega)
      have := Int.tdiv_le_self (a := bnT l) 2 (by omega)
      omega
    · omega
  · omega
/-- The sum of two polygons in the law's numbers. -/
theorem sum_fits {a b : List Pt} (h : sgB a b = true) : pgB a = true ∧ pgB b = true ∧ pgB (sgR a b) = true ∧ daR (sgR a b) = daR a + daR b + 2 * mxR a b ∧ 0 ≤ mxR a b ∧ mxR a b ≤ 200000000 ∧ (-80000000 ≤ daR a ∧ daR a ≤ 80000000) ∧ (-80000000 ≤ daR b ∧ daR b ≤ 80000000) := by
  obtain ⟨h1, h2, h3⟩ := sgB_parts h
  obtain ⟨h4, h5⟩ := mixed_fits h
  have b1 := da_bd (sgR a b)
  have b2 := da_bd a
  have b3 := da_bd b
  exact ⟨h1, h2, by rw [sgR_yes h]; exact h3, h4, h5, by omega, b2, b3⟩
theorem pick_fits {l : List Pt} (h : pgB l = true) (h2 : 2 < l.length) : daR l = 2 * inR l + bnR l - 2 ∧ (-200000000 ≤ inR l ∧ inR l ≤ 200000000) ∧ 0 ≤ bnR l ∧ bnR l ≤ 160001 := by
  have h3 := inner_fits h2
  have h4 : daR l = 2 * inR l + bnR l - 2 := by rw [daR_yes h, inR_yes h, bnR_yes h]; exact h3
  have b1 := da_bd l
  have b2 := bn_bd l
  exact ⟨h4, by omega, b2⟩
theorem wd_bd (l : List Pt) (d : Pt) : 0 ≤ wdR l d ∧ wdR l d ≤ 40000 := by
  refine ⟨wd_pos l d, ?_⟩
  unfold wdR
  split
  · next h =>
    have h1 : pgB l = true ∧ ptG d = true := by unfold hpB at h; simpa using h
    obtain ⟨-, h3, -⟩ := pg_sm h1.1
    have hb := mm_bd (zs := vdL l d) (M := 20000) (vdL_bd (pg_100 h1.1) (Sm.of h1.2)) (by rw [vdL_len]; omega) l.length (by rw [vdL_len]; exact Nat.le_refl _)
    unfold wdL; omega
  · omega
end Go.Proofs.Ytamejfeaniokfaa

/-
  Vertices and ends of cells: plain mathematics.
-/
import Derived.Test.YtcfplfjllnojoaaGreatEdM
import Derived.Test.YtcfplfjllnojoaaGreatCuB
import Derived.Test.YtcfplfjllnojoaaGreatFrac
namespace Go.Proofs.YtcfplfjllnojoaaGreat
set_option linter.unusedSimpArgs false
set_option linter.unusedVariables false

/-! ### Sides of cells -/
theorem cell_left {l : List Tm} {x : List Int} (hx : x ∈ ceL l) {m : Int} (hm : m ∈ x) {k : Nat} (hk : k < (hcL l x).length) : 0 ≤ trn (pd (hcL l x) k) (nxP (hcL l x) k) (ptO (td l m.toNat)) := by
  have h3 := hc_3 hx
  have h := hul_has (cpt_ne hx) (p := ptO (td l m.toNat)) (List.mem_map.2 ⟨m, hm, rfl⟩)
  rw [show hulL (cptL l x) = hcL l x from rfl] at h
  unfold hasB at h
  rw [if_neg (by omega), if_neg (by omega)] at h
  exact of_decide_eq_true h k hk
theorem trn_swap (p q r : Pt) : trn q p r = - trn p q r := by unfold trn; grind
/-- Are all terms of a cell on the left of the way from one term to another one, or on it. -/
def LefC (l : List Tm) (x : List Int) (i k : Nat) : Prop := ∀ m ∈ x, 0 ≤ trn (ptO (td l i)) (ptO (td l k)) (ptO (td l m.toNat))
theorem fnI_in {l : List Tm} (hl : plB l = true) {x : List Int} (hx : x ∈ ceL l) {q : Pt} (hq : q ∈ hcL l x) : ((fnI l q : Nat) : Int) ∈ x := by
  obtain ⟨m, hm, hml, rfl⟩ := hc_mem hx hq
  rw [fnI_is hl hml]; exact hm
theorem side_of {l : List Tm} (hl : plB l = true) {x : List Int} (hx : x ∈ ceL l) {e : List Int} (he : e ∈ sdL l x) :
    ∃ i k : Nat, i < k ∧ k < l.length ∧ e = [(i : Int), (k : Int)] ∧ ((i : Int) ∈ x ∧ (k : Int) ∈ x) ∧ (LefC l x i k ∨ LefC l x k i) := by
  obtain ⟨n, hn, rfl⟩ := List.mem_map.1 he
  rw [List.mem_range] at hn
  have h3 := hc_3 hx
  have mn : (n + 1) % (hcL l x).length < (hcL l x).length := Nat.mod_lt _ (by omega)
  have q1 := pd_mem hn
  have q2 := pd_mem mn
  have p1 := hc_pts hx q1
  have p2 := hc_pts hx q2
  have l1 := fnI_lt p1
  have l2 := fnI_lt p2
  have hne : fnI l (pd (hcL l x) n) ≠ fnI l (pd (hcL l x) ((n + 1) % (hcL l x).length)) := fun e => by
    have := pd_inj (hul_nodup _ : (hcL l x).Nodup) hn mn (fnI_inj p1 p2 e)
    rw [mod_succ hn] at this
    split at this <;> omega
  have key : ∀ m ∈ x, 0 ≤ trn (pd (hcL l x) n) (nxP (hcL l x) n) (ptO (td l m.toNat)) := fun m hm => cell_left hx hm hn
  have r1 := fnI_in hl hx q1
  have r2 := fnI_in hl hx q2
  have a1 := fnI_at p1
  have a2 := fnI_at p2
  rw [nx_of hn] at key
  unfold sdP
  rw [nx_of hn]
  generalize pd (hcL l x) n = P at *
  generalize pd (hcL l x) ((n + 1) % (hcL l x).length) = Q at *
  rcases Nat.lt_or_gt_of_ne hne with h | h
  · exact ⟨fnI l P, fnI l Q, h, l2, by rw [Nat.min_eq_left (Nat.le_of_lt h), Nat.max_eq_right (Nat.le_of_lt h)], ⟨r1, r2⟩, .inl (fun m hm => by rw [a1, a2]; exact key m hm)⟩
  · exact ⟨fnI l Q, fnI l P, h, l1, by rw [Nat.min_eq_right (Nat.le_of_lt h), Nat.max_eq_left (Nat.le_of_lt h)], ⟨r2, r1⟩, .inr (fun m hm => by rw [a1, a2]; exact key m hm)⟩
/-- Not all terms of a cell are on one line; nor are its corners. -/
theorem cell_off {l : List Tm} {x : List Int} (hx : x ∈ ceL l) {p q : Pt} (hpq : p ≠ q) : ∃ m ∈ x, trn p q (ptO (td l m.toNat)) ≠ 0 := by
  apply Classical.byContradiction
  intro h
  have z : ∀ m ∈ x, trn p q (ptO (td l m.toNat)) = 0 := fun m hm => by
    apply Classical.byContradiction
    exact fun h' => h ⟨m, hm, h'⟩
  obtain ⟨i, j, k, -, -, -, ht, h1, h2, h3⟩ := cell_three hx
  exact ht (line_zero hpq (z _ h1) (z _ h2) (z _ h3))
theorem trS_zero {H : List Pt} {p q r : Pt} (hpq : p ≠ q) (hr : trn p q r = 0) (h : ∀ c ∈ H, trn p q c = 0) (h0 : 0 < H.length) : ∀ k, k ≤ H.length → trS H r k = 0
  | 0, _ => rfl
  | k + 1, hk => by
    rw [trS, trS_zero hpq hr h h0 k (by omega), show trn r (pd H k) (nxP H k) = 0 from line_zero hpq hr (h _ (pd_mem (by omega))) (h _ (pd_mem (Nat.mod_lt _ h0)))]; rfl
theorem hull_off {l : List Tm} {x : List Int} (hx : x ∈ ceL l) {p q : Pt} (hpq : p ≠ q) : ∃ r ∈ hcL l x, trn p q r ≠ 0 := by
  apply Classical.byContradiction
  intro h
  have z : ∀ r ∈ hcL l x, trn p q r = 0 := fun r hr => by
    apply Classical.byContradiction
    exact fun h' => h ⟨r, hr, h'⟩
  have h3 := hc_3 hx
  have ha := cell_area hx
  have h0 : 0 < (hcL l x).length := by omega
  rw [show hulL (cptL l x) = hcL l x from rfl, ← trS_all (hcL l x) (pd (hcL l x) 0) h0, trS_zero hpq (z _ (pd_mem h0)) z h0 _ (Nat.le_refl _)] at ha
  omega
theorem ptO_ne {l : List Tm} (hl : plB l = true) {i k : Nat} (hi : i < l.length) (hk : k < l.length) (h : i ≠ k) : ptO (td l i) ≠ ptO (td l k) := fun e => h (pt_inj hl hi hk e)
/-- Is a cell at the right of the way. -/
def rgB (l : List Tm) (x : List Int) (i k : Nat) : Bool := decide (∃ m ∈ x, trn (ptO (td l i)) (ptO (td l k)) (ptO (td l m.toNat)) < 0)
theorem rg_hull {l : List Tm} (hl : plB l = true) {x : List Int} (hx : x ∈ ceL l) {i k : Nat} (he : [(i : Int), (k : Int)] ∈ sdL l x) : rgB l x i k = decide (∃ r ∈ hcL l x, trn (ptO (td l i)) (ptO (td l k)) r < 0) := by
  unfold rgB
  rw [decide_eq_decide]
  obtain ⟨i', k', h1, h2, h3, -, h5⟩ := side_of hl hx he
  simp only [List.cons.injEq, and_true] at h3
  obtain rfl : i = i' := by omega
  obtain rfl : k = k' := by omega
  constructor
  · rintro ⟨m, hm, hlt⟩
    have hR : LefC l x k i := by
      rcases h5 with h | h
      · have := h m hm; omega
      · exact h
    obtain ⟨r, hr, hne⟩ := hull_off hx (ptO_ne hl (by omega) h2 (by omega : i ≠ k))
    obtain ⟨m', hm', hml, rfl⟩ := hc_mem hx hr
    have := hR m' hm'
    rw [trn_swap, show ((m' : Nat) : Int).toNat = m' from by omega] at this
    exact ⟨_, hr, by omega⟩
  · rintro ⟨r, hr, hlt⟩
    obtain ⟨m', hm', hml, rfl⟩ := hc_mem hx hr
    exact ⟨m', hm', by rw [show ((m' : Nat) : Int).toNat = m' from by omega]; exact hlt⟩

/-! ### Planes of cells -/
theorem htT_move {a N p : Tm} (h : htT a N p = 0) (t : Tm) : htT a N t = htT p N t := by unfold htT at *; grind
/-- Two planes through p and q, each not below the other one at a point on the left, are the same. -/
theorem plane_same {p q r s N M : Tm} (hN : 0 < N.2.2) (hM : 0 < M.2.2) (h1 : htT p N q = 0) (h2 : htT p M q = 0) (h3 : htT p N r = 0) (h4 : 0 ≤ htT p M r) (h5 : htT p M s = 0) (h6 : 0 ≤ htT p N s)
    (hr : 0 < tuT p q r) (hs : 0 < tuT p q s) (t : Tm) : htT p N t = 0 ↔ htT p M t = 0 := by
  obtain ⟨p1, p2, p3⟩ := p
  obtain ⟨q1, q2, q3⟩ := q
  obtain ⟨r1, r2, r3⟩ := r
  obtain ⟨s1, s2, s3⟩ := s
  obtain ⟨t1, t2, t3⟩ := t
  obtain ⟨n1, n2, n3⟩ := N
  obtain ⟨m1, m2, m3⟩ := M
  unfold tuT trn ptO at hr hs
  unfold htT at *
  simp only at *
  obtain ⟨u1, hu1⟩ : ∃ u, u = q1 - p1 := ⟨_, rfl⟩
  obtain ⟨u2, hu2⟩ : ∃ u, u = q2 - p2 := ⟨_, rfl⟩
  obtain ⟨u3, hu3⟩ : ∃ u, u = q3 - p3 := ⟨_, rfl⟩
  obtain ⟨a1, ha1⟩ : ∃ u, u = r1 - p1 := ⟨_, rfl⟩
  obtain ⟨a2, ha2⟩ : ∃ u, u = r2 - p2 := ⟨_, rfl⟩
  obtain ⟨a3, ha3⟩ : ∃ u, u = r3 - p3 := ⟨_, rfl⟩
  obtain ⟨b1, hb1⟩ : ∃ u, u = s1 - p1 := ⟨_, rfl⟩
  obtain ⟨b2, hb2⟩ : ∃ u, u = s2 - p2 := ⟨_, rfl⟩
  obtain ⟨b3, hb3⟩ : ∃ u, u = s3 - p3 := ⟨_, rfl⟩
  obtain ⟨c1, hc1⟩ : ∃ u, u = t1 - p1 := ⟨_, rfl⟩
  obtain ⟨c2, hc2⟩ : ∃ u, u = t2 - p2 := ⟨_, rfl⟩
  obtain ⟨c3, hc3⟩ : ∃ u, u = t3 - p3 := ⟨_, rfl⟩
  rw [← hu1, ← hu2, ← hu3] at h1 h2
  rw [← ha1, ← ha2, ← ha3] at h3 h4
  rw [← hb1, ← hb2, ← hb3] at h5 h6
  rw [← hu1, ← hu2, ← ha1, ← ha2] at hr
  rw [← hu1, ← hu2, ← hb1, ← hb2] at hs
  rw [← hc1, ← hc2, ← hc3]
  clear hu1 hu2 hu3 ha1 ha2 ha3 hb1 hb2 hb3 hc1 hc2 hc3
  obtain ⟨al, hal⟩ : ∃ u, u = m3 * n1 - n3 * m1 := ⟨_, rfl⟩
  obtain ⟨be, hbe⟩ : ∃ u, u = m3 * n2 - n3 * m2 := ⟨_, rfl⟩
  have hq : al * u1 + be * u2 = 0 := by rw [hal, hbe]; grind
  obtain ⟨X, hX⟩ : ∃ X, X = m1 * a1 + m2 * a2 + m3 * a3 := ⟨_, rfl⟩
  obtain ⟨Y, hY⟩ : ∃ Y, Y = n1 * b1 + n2 * b2 + n3 * b3 := ⟨_, rfl⟩
  rw [← hX] at h4
  rw [← hY] at h6
  have dr : al * a1 + be * a2 = - (n3 * X) := by rw [hal, hbe, hX]; grind
  have ds : al * b1 + be * b2 = m3 * Y := by rw [hal, hbe, hY]; grind
  obtain ⟨R, hR⟩ : ∃ R, R = u1 * a2 - u2 * a1 := ⟨_, rfl⟩
  obtain ⟨S, hS⟩ : ∃ S, S = u1 * b2 - u2 * b1 := ⟨_, rfl⟩
  rw [← hR] at hr
  rw [← hS] at hs
  have e1 : be * R = u1 * (- (n3 * X)) := by rw [hR, ← dr]; grind
  have e2 : be * S = u1 * (m3 * Y) := by rw [hS, ← ds]; grind
  have e3 : al * R = - (u2 * (- (n3 * X))) := by rw [hR, ← dr]; grind
  have e4 : al * S = - (u2 * (m3 * Y)) := by rw [hS, ← ds]; grind
  have hA : u1 * ((n3 * X) * S + (m3 * Y) * R) = 0 := by
    have : u1 * ((n3 * X) * S + (m3 * Y) * R) = - (be * R) * S + (be * S) * R := by rw [e1, e2]; grind
    rw [this]; grind
  have hB : u2 * ((n3 * X) * S + (m3 * Y) * R) = 0 := by
    have : u2 * ((n3 * X) * S + (m3 * Y) * R) = (al * R) * S - (al * S) * R := by rw [e3, e4]; grind
    rw [this]; grind
  have hZ : (n3 * X) * S + (m3 * Y) * R = 0 := by
    rcases Int.mul_eq_zero.1 hA with h | h
    · rcases Int.mul_eq_zero.1 hB with h' | h'
      · rw [h, h'] at hR; simp at hR; omega
      · exact h'
    · exact h
  have g1 : 0 ≤ (n3 * X) * S := Int.mul_nonneg (Int.mul_nonneg (by omega) h4) (by omega)
  have g2 : 0 ≤ (m3 * Y) * R := Int.mul_nonneg (Int.mul_nonneg (by omega) h6) (by omega)
  have g3 : (n3 * X) * S = 0 := by omega
  have g4 : n3 * X = 0 := by
    rcases Int.mul_eq_zero.1 g3 with h | h
    · exact h
    · omega
  rw [g4] at e1 e3
  have z1 : be = 0 := by
    rcases Int.mul_eq_zero.1 (show be * R = 0 by rw [e1]; simp) with h | h
    · exact h
    · omega
  have z2 : al = 0 := by
    rcases Int.mul_eq_zero.1 (show al * R = 0 by rw [e3]; simp) with h | h
    · exact h
    · omega
  have fin : m3 * (n1 * c1 + n2 * c2 + n3 * c3) = n3 * (m1 * c1 + m2 * c2 + m3 * c3) := by
    have : m3 * (n1 * c1 + n2 * c2 + n3 * c3) - n3 * (m1 * c1 + m2 * c2 + m3 * c3) = al * c1 + be * c2 := by rw [hal, hbe]; grind
    rw [z1, z2] at this
    omega
  constructor
  · intro h
    rw [h] at fin
    rcases Int.mul_eq_zero.1 (show n3 * (m1 * c1 + m2 * c2 + m3 * c3) = 0 by omega) with h | h
    · omega
    · exact h
  · intro h
    rw [h] at fin
    rcases Int.mul_eq_zero.1 (show m3 * (n1 * c1 + n2 * c2 + n3 * c3) = 0 by omega) with h | h
    · omega
    · exact h
theorem nmT_pos {a b c : Tm} (h : tuT a b c ≠ 0) : 0 < (nmT a b c).2.2 := by
  rw [← noT_tu] at h
  unfold nmT
  split
  · unfold ngT; dsimp only; omega
  · omega
theorem zeL_ext {P Q : Tm × Tm} {l : List Tm} : ∀ n, (∀ m, m < n → (hgtP P (td l m) = 0 ↔ hgtP Q (td l m) = 0)) → zeL P l n = zeL Q l n
  | 0, _ => rfl
  | n + 1, h => by
    rw [zeL, zeL, zeL_ext n (fun m hm => h m (by omega))]
    by_cases e : hgtP P (td l n) = 0
    · rw [if_pos e, if_pos ((h n (by omega)).1 e)]
    · rw [if_neg e, if_neg (fun h' => e ((h n (by omega)).2 h'))]
/-- The plane of a cell. -/
theorem cell_plane {l : List Tm} {x : List Int} (hx : x ∈ ceL l) : ∃ i j k : Nat, i < l.length ∧ j < l.length ∧ k < l.length ∧ 0 < (plO l i j k).2.2.2 ∧ (∀ m, m < l.length → 0 ≤ hgtP (plO l i j k) (td l m)) ∧ (∀ m : Int, m ∈ x ↔ (0 ≤ m ∧ m < l.length) ∧ hgtP (plO l i j k) (td l m.toNat) = 0) ∧ x = zeL (plO l i j k) l l.length := by
  obtain ⟨i, j, k, hij, hjk, hk, ht, hok, rfl⟩ := (ceL_mem l x).1 hx
  refine ⟨i, j, k, by omega, by omega, hk, nmT_pos ht, hok, fun m => ?_, rfl⟩
  rw [zeL_mem]
  constructor
  · rintro ⟨n, h1, rfl, h3⟩
    exact ⟨by omega, h3⟩
  · rintro ⟨⟨h1, h2⟩, h3⟩
    exact ⟨m.toNat, by omega, by omega, h3⟩
/-- Two cells on the same side of two of their terms are the same. -/
theorem same_cell {l : List Tm} {x y : List Int} (hx : x ∈ ceL l) (hy : y ∈ ceL l) {i k : Nat} (hne : ptO (td l i) ≠ ptO (td l k)) (ix : (i : Int) ∈ x) (kx : (k : Int) ∈ x) (iy : (i : Int) ∈ y) (ky : (k : Int) ∈ y) (Lx : LefC l x i k) (Ly : LefC l y i k) : x = y := by
  obtain ⟨a, b, c, -, -, -, hN, hN0, hNm, ex⟩ := cell_plane hx
  obtain ⟨a', b', c', -, -, -, hM, hM0, hMm, ey⟩ := cell_plane hy
  obtain ⟨r, hr, hr0⟩ := cell_off hx hne
  obtain ⟨s, hs, hs0⟩ := cell_off hy hne
  have hr1 := Lx r hr
  have hs1 := Ly s hs
  generalize plO l a b c = P at *
  generalize plO l a' b' c' = Q at *
  have z1 := ((hNm _).1 ix).2
  have z2 := ((hMm _).1 iy).2
  rw [show ((i : Nat) : Int).toNat = i by omega] at z1 z2
  have mv1 : ∀ t, hgtP P t = htT (td l i) P.2 t := fun t => htT_move z1 t
  have mv2 : ∀ t, hgtP Q t = htT (td l i) Q.2 t := fun t => htT_move z2 t
  have hrm := (hNm r).1 hr
  have hsm := (hMm s).1 hs
  have w1 := ((hNm _).1 kx).2
  have w2 := ((hMm _).1 ky).2
  rw [show ((k : Nat) : Int).toNat = k by omega] at w1 w2
  have key := plane_same (p := td l i) (q := td l k) (r := td l r.toNat) (s := td l s.toNat) (N := P.2) (M := Q.2) hN hM (by rw [← mv1]; exact w1) (by rw [← mv2]; exact w2)
    (by rw [← mv1]; exact hrm.2) (by rw [← mv2]; exact hM0 _ (by omega)) (by rw [← mv2]; exact hsm.2) (by rw [← mv1]; exact hN0 _ (by omega)) (by unfold tuT; omega) (by unfold tuT; omega)
  rw [ex, ey]
  exact zeL_ext _ fun m _ => by rw [mv1, mv2]; exact key _
theorem ceL_nodup (l : List Tm) {c d : Nat} (hc : c < (ceL l).length) (hd : d < (ceL l).length) (h : (ceL l).getD c [] = (ceL l).getD d []) : c = d := by
  have key : ∀ a b : Nat, a < b → b < (ceL l).length → (ceL l).getD a [] ≠ (ceL l).getD b [] := fun a b hab hb e => by
    have h1 := List.pairwise_iff_getElem.1 (ceL_inc l) a b (by omega) hb hab
    rw [List.getD_eq_getElem?_getD, List.getD_eq_getElem?_getD, List.getElem?_eq_getElem hb, List.getElem?_eq_getElem (show a < (ceL l).length by omega)] at e
    simp only [Option.getD_some] at e
    rw [e, totLx.irr] at h1
    cases h1
  rcases Nat.lt_trichotomy c d with h' | h' | h'
  · exact absurd h (key c d h' hd)
  · exact h'
  · exact absurd h.symm (key d c h' hc)
/-! ### Vertices -/
/-- No three corners are on one line. -/
theorem hull_three {L : List Pt} (hL : L ≠ []) {a b c : Pt} (ha : a ∈ hulL L) (hb : b ∈ hulL L) (hc : c ∈ hulL L) (hab : a ≠ b) (hac : a ≠ c) (hbc : b ≠ c) : trn a b c ≠ 0 := by
  have hs : ∀ q ∈ hulL L, q ∈ srtP L ∧ (Ext Bf trn (srtP L) q ∨ Ext Bf trnN (srtP L) q) := fun q hq => by
    rcases (hul_mem hL q).1 hq with h | h
    · unfold lowH at h
      rw [List.mem_reverse] at h
      have := ((low_inv L).mem q).1 h
      exact ⟨this.1, .inl this.2⟩
    · have := ((upp_inv L).mem q).1 h
      exact ⟨this.1, .inr this.2⟩
  have mid : ∀ p q r, p ∈ hulL L → q ∈ hulL L → r ∈ hulL L → Bf p q → Bf q r → trn p q r ≠ 0 := fun p q r hp hq hr h1 h2 h0 => by
    rcases (hs q hq).2 with h | h
    · have := h p (hs p hp).1 r (hs r hr).1 h1 h2; omega
    · have := h p (hs p hp).1 r (hs r hr).1 h1 h2
      unfold trnN at this; omega
  have tot : ∀ p q : Pt, p ≠ q → Bf p q ∨ Bf q p := fun p q h => by
    obtain ⟨p1, p2⟩ := p
    obtain ⟨q1, q2⟩ := q
    unfold Bf
    simp only [ne_eq, Prod.mk.injEq] at h ⊢
    omega
  intro h0
  have e1 : trn a c b = 0 := by have : trn a c b = - trn a b c := by unfold trn; grind
                                omega
  have e2 : trn b a c = 0 := by rw [trn_swap]; omega
  have e3 : trn b c a = 0 := by have : trn b c a = trn a b c := by unfold trn; grind
                                omega
  have e4 : trn c a b = 0 := by have : trn c a b = trn a b c := by unfold trn; grind
                                omega
  have e5 : trn c b a = 0 := by have : trn c b a = - trn a b c := by unfold trn; grind
                                omega
  rcases tot a b hab with h1 | h1 <;> rcases tot a c hac with h2 | h2 <;> rcases tot b c hbc with h3 | h3
  · exact mid a b c ha hb hc h1 h3 h0
  · exact mid a c b ha hc hb h2 h3 e1
  · exact mid a b c ha hb hc h1 h3 h0
  · exact mid c a b hc ha hb h2 h1 e4
  · exact mid b a c hb ha hc h1 h2 e2
  · exact mid b a c hb ha hc h1 h2 e2
  · exact mid b c a hb hc ha h3 h2 e3
  · exact mid c b a hc hb ha h3 h1 e5
/-- The model's normal of a cell: that of its first three corners. -/
def cnO (l : List Tm) (x : List Int) (n : Nat) : Tm := td l (fnI l (pd (hcL l x) n))
def nvO (l : List Tm) (x : List Int) : Tm := noT (cnO l x 0) (cnO l x 1) (cnO l x 2)
theorem cnO_at {l : List Tm} {x : List Int} (hx : x ∈ ceL l) {n : Nat} (hn : n < 3) : ptO (cnO l x n) = pd (hcL l x) n ∧ fnI l (pd (hcL l x) n) < l.length := by
  have h3 := hc_3 hx
  have := hc_pts hx (pd_mem (show n < (hcL l x).length by omega))
  exact ⟨fnI_at this, fnI_lt this⟩
theorem nvO_ne {l : List Tm} {x : List Int} (hx : x ∈ ceL l) : (nvO l x).2.2 ≠ 0 := by
  have h3 := hc_3 hx
  unfold nvO
  rw [noT_tu]
  unfold tuT
  rw [(cnO_at hx (by omega)).1, (cnO_at hx (by omega)).1, (cnO_at hx (by omega)).1]
  have hn : (hcL l x).Nodup := hul_nodup _
  exact hull_three (cpt_ne hx) (pd_mem (l := hcL l x) (by omega)) (pd_mem (l := hcL l x) (by omega)) (pd_mem (l := hcL l x) (by omega))
    (fun e => by have := pd_inj hn (by omega) (by omega) e; omega) (fun e => by have := pd_inj hn (by omega) (by omega) e; omega) (fun e => by have := pd_inj hn (by omega) (by omega) e; omega)
/-- A plane's normal is along that of any three of its terms. -/
theorem normal_along {a N p q r : Tm} (hp : htT a N p = 0) (hq : htT a N q = 0) (hr : htT a N r = 0) : N.1 * (noT p q r).2.2 = (noT p q r).1 * N.2.2 ∧ N.2.1 * (noT p q r).2.2 = (noT p q r).2.1 * N.2.2 := by
  rw [htT_move hp] at hq hr
  obtain ⟨p1, p2, p3⟩ := p
  obtain ⟨q1, q2, q3⟩ := q
  obtain ⟨r1, r2, r3⟩ := r
  obtain ⟨n1, n2, n3⟩ := N
  unfold noT crT stT
  unfold htT at hq hr
  simp only at *
  constructor <;> grind
/-- The vertex of a cell: both coordinates, as fractions. -/
def vxN (l : List Tm) (x : List Int) : Int := mkN (nvO l x).1 (nvO l x).2.2
def vxD (l : List Tm) (x : List Int) : Int := mkD (nvO l x).1 (nvO l x).2.2
def vyN (l : List Tm) (x : List Int) : Int := mkN (nvO l x).2.1 (nvO l x).2.2
def vyD (l : List Tm) (x : List Int) : Int := mkD (nvO l x).2.1 (nvO l x).2.2
theorem lo_bd {n d : Int} (hn : -24000000 ≤ n ∧ n ≤ 24000000) (hd0 : d ≠ 0) (hd : -72 ≤ d ∧ d ≤ 72) : mkB n d = true := by
  obtain ⟨k, hk, e1, e2, hpos, hg⟩ := red n d hd0
  unfold mkB frB
  have hk1 : 1 ≤ k.natAbs := by omega
  have a1 : (loN n d).natAbs ≤ n.natAbs := by
    have : n.natAbs = (loN n d).natAbs * k.natAbs := by rw [← Int.natAbs_mul, ← e1]
    rw [this]; exact Nat.le_mul_of_pos_right _ (by omega)
  have a2 : (loD n d).natAbs ≤ d.natAbs := by
    have : d.natAbs = (loD n d).natAbs * k.natAbs := by rw [← Int.natAbs_mul, ← e2]
    rw [this]; exact Nat.le_mul_of_pos_right _ (by omega)
  simp only [Bool.and_eq_true, bne_iff_ne, ne_eq, inB_iff, beq_iff_eq]
  refine ⟨hd0, ⟨by omega, by omega⟩, ⟨by omega, by omega⟩, ?_⟩
  unfold gI; omega
theorem nvO_bd {l : List Tm} (hl : plB l = true) {x : List Int} (hx : x ∈ ceL l) : BdN (nvO l x) := by
  have h := fun {n : Nat} (hn : n < 3) => plB_at hl (cnO_at hx hn).2
  exact BdN.of (BdS.of (h (by omega)) (h (by omega))) (BdS.of (h (by omega)) (h (by omega)))
/-- What both programs reckon from three terms of a cell is its vertex. -/
theorem vx_three {l : List Tm} (hl : plB l = true) {x : List Int} (hx : x ∈ ceL l) {i j k : Nat} (hi : (i : Int) ∈ x) (hj : (j : Int) ∈ x) (hk : (k : Int) ∈ x) {N : Tm} (hN : N = nmT (td l i) (td l j) (td l k)) (ht : tuT (td l i) (td l j) (td l k) ≠ 0) :
    mkB N.1 N.2.2 = true ∧ mkB N.2.1 N.2.2 = true ∧ mkN N.1 N.2.2 = vxN l x ∧ mkD N.1 N.2.2 = vxD l x ∧ mkN N.2.1 N.2.2 = vyN l x ∧ mkD N.2.1 N.2.2 = vyD l x := by
  have hb := ceL_bd hx
  have bi := hb.1 _ hi
  have bj := hb.1 _ hj
  have bk := hb.1 _ hk
  have hNp := nmT_pos ht
  rw [← hN] at hNp
  have hNb : BdN N := by rw [hN]; exact BdN.nm (plB_at hl (by omega)) (plB_at hl (by omega)) (plB_at hl (by omega))
  have hvb := nvO_bd hl hx
  have hv0 := nvO_ne hx
  obtain ⟨a, b, c, -, -, -, hP, hP0, hPm, -⟩ := cell_plane hx
  generalize plO l a b c = P at *
  have zz : ∀ m : Nat, (m : Int) ∈ x → htT P.1 P.2 (td l m) = 0 := fun m hm => by
    have := ((hPm _).1 hm).2
    rwa [show ((m : Nat) : Int).toNat = m by omega] at this
  have hc : ∀ n, n < 3 → htT P.1 P.2 (cnO l x n) = 0 := fun n hn => by
    have h3 := hc_3 hx
    exact zz _ (fnI_in hl hx (pd_mem (by omega)))
  obtain ⟨e1, e2⟩ := normal_along (hc 0 (by omega)) (hc 1 (by omega)) (hc 2 (by omega))
  rw [show noT (cnO l x 0) (cnO l x 1) (cnO l x 2) = nvO l x from rfl] at e1 e2
  obtain ⟨f1, f2⟩ := normal_along (zz i hi) (zz j hj) (zz k hk)
  have f1' : P.2.1 * N.2.2 = N.1 * P.2.2.2 := by
    rw [hN]; unfold nmT
    split
    · unfold ngT; dsimp only; rw [Int.mul_neg, Int.neg_mul, f1]
    · exact f1
  have f2' : P.2.2.1 * N.2.2 = N.2.1 * P.2.2.2 := by
    rw [hN]; unfold nmT
    split
    · unfold ngT; dsimp only; rw [Int.mul_neg, Int.neg_mul, f2]
    · exact f2
  have c1 : N.1 * (nvO l x).2.2 = (nvO l x).1 * N.2.2 := by
    refine Int.eq_of_mul_eq_mul_right (show P.2.2.2 ≠ 0 by omega) ?_
    generalize P.2.2.2 = p3 at *
    generalize P.2.1 = p1 at *
    grind
  have c2 : N.2.1 * (nvO l x).2.2 = (nvO l x).2.1 * N.2.2 := by
    refine Int.eq_of_mul_eq_mul_right (show P.2.2.2 ≠ 0 by omega) ?_
    generalize P.2.2.2 = p3 at *
    generalize P.2.2.1 = p1 at *
    grind
  obtain ⟨v1, v2, v3⟩ := hvb
  obtain ⟨n1, n2, n3⟩ := hNb
  have m1 := lo_bd v1 hv0 v3
  have m2 := lo_bd v2 hv0 v3
  have k1 := mk_parts m1
  have k2 := mk_parts m2
  have u1 := mk_uniq (p := N.1) (q := N.2.2) k1.2.1 (by omega) (by
    refine Int.eq_of_mul_eq_mul_right hv0 ?_
    have := k1.2.2
    generalize mkD (nvO l x).1 (nvO l x).2.2 = D at *
    generalize mkN (nvO l x).1 (nvO l x).2.2 = M at *
    grind)
  have u2 := mk_uniq (p := N.2.1) (q := N.2.2) k2.2.1 (by omega) (by
    refine Int.eq_of_mul_eq_mul_right hv0 ?_
    have := k2.2.2
    generalize mkD (nvO l x).2.1 (nvO l x).2.2 = D at *
    generalize mkN (nvO l x).2.1 (nvO l x).2.2 = M at *
    grind)
  exact ⟨u1.1, u2.1, u1.2.1, u1.2.2, u2.2.1, u2.2.2⟩
end Go.Proofs.YtcfplfjllnojoaaGreat

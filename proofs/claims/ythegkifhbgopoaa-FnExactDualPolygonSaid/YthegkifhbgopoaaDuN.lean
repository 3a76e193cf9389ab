/-
  The sides that belong to the rays of a star, and the corners of its dual polygon: plain mathematics.
  No condition.
-/
import Derived.Test.YthegkifhbgopoaaDuM
import Derived.Test.YthegkifhbgopoaaPg
import Derived.Test.YthegkifhbgopoaaStB
namespace Go.Proofs.Ythegkifhbgopoaa
set_option linter.unusedSimpArgs false
set_option linter.unusedVariables false

theorem sgn_mul {w y : Int} (hw : 0 < w) : (0 < w * y ↔ 0 < y) ∧ (w * y = 0 ↔ y = 0) ∧ (w * y < 0 ↔ y < 0) := by
  have p := fun (h : 0 < y) => mpp hw h
  have q := fun (h : 0 < -y) => mpp hw h
  rw [Int.mul_neg] at q
  have z : y = 0 → w * y = 0 := fun h => by rw [h, Int.mul_zero]
  omega
theorem prim {x y x' y' : Int} (h : x * y' = y * x') (h1 : gI x y = 1) (h2 : gI x' y' = 1) : (x' = x ∧ y' = y) ∨ (x' = -x ∧ y' = -y) := by
  have c1 : Nat.Coprime x.natAbs y.natAbs := by unfold gI Int.gcd at h1; unfold Nat.Coprime; omega
  have c2 : Nat.Coprime x'.natAbs y'.natAbs := by unfold gI Int.gcd at h2; unfold Nat.Coprime; omega
  have e : x.natAbs * y'.natAbs = y.natAbs * x'.natAbs := by rw [← Int.natAbs_mul, ← Int.natAbs_mul, h]
  have a1 : x.natAbs ∣ x'.natAbs := c1.dvd_of_dvd_mul_left (by rw [← e]; exact Nat.dvd_mul_right _ _)
  have a2 : x'.natAbs ∣ x.natAbs := c2.dvd_of_dvd_mul_right (by rw [e]; exact Nat.dvd_mul_left _ _)
  have b1 : y.natAbs ∣ y'.natAbs := c1.symm.dvd_of_dvd_mul_left (by rw [e]; exact Nat.dvd_mul_right _ _)
  have b2 : y'.natAbs ∣ y.natAbs := c2.symm.dvd_of_dvd_mul_right (by rw [← e]; exact Nat.dvd_mul_left _ _)
  have ex := Nat.dvd_antisymm a1 a2
  have ey := Nat.dvd_antisymm b1 b2
  have hx : x' = x ∨ x' = -x := by omega
  have hy : y' = y ∨ y' = -y := by omega
  rcases hx with rfl | rfl <;> rcases hy with rfl | rfl
  · exact .inl ⟨rfl, rfl⟩
  · rw [Int.mul_neg, Int.mul_comm y x'] at h
    have h0 : x' * y = 0 := by omega
    rcases Int.mul_eq_zero.1 h0 with rfl | rfl
    · exact .inr ⟨rfl, rfl⟩
    · exact .inl ⟨rfl, rfl⟩
  · rw [Int.mul_neg, Int.mul_comm y' x] at h
    have h0 : x * y' = 0 := by omega
    rcases Int.mul_eq_zero.1 h0 with rfl | rfl
    · exact .inl ⟨rfl, rfl⟩
    · exact .inr ⟨rfl, rfl⟩
  · exact .inr ⟨rfl, rfl⟩
/-- The side of a ray. -/
def sdO (t : Tm) : Pt := (t.2.2 * t.2.1, -t.2.2 * t.1)
def sdL9 (l : List Tm) : List Pt := l.map sdO
theorem sdL9_len (l : List Tm) : (sdL9 l).length = l.length := by simp [sdL9]
theorem sdO_fw {t : Tm} (hw : 0 < t.2.2) : fwB (sdO t) = true ↔ 0 < t.2.1 ∨ (t.2.1 = 0 ∧ t.1 < 0) := by
  have a := sgn_mul (y := t.2.1) hw
  have b := sgn_mul (y := t.1) hw
  unfold sdO
  rw [fw_at, Int.neg_mul]; omega
theorem sdO_uw {t : Tm} (hw : 0 < t.2.2) : uwB (sdO t) = true ↔ t.1 < 0 ∨ (t.1 = 0 ∧ 0 < t.2.1) := by
  have a := sgn_mul (y := t.2.1) hw
  have b := sgn_mul (y := t.1) hw
  unfold sdO
  rw [uw_at, Int.neg_mul]; omega
theorem sdO_cr (s t : Tm) : cr (sdO s) (sdO t) = s.2.2 * (t.2.2 * (s.1 * t.2.1 - s.2.1 * t.1)) := by
  unfold cr sdO; grind
theorem sdO_ne {t : Tm} (h : ryT t = true) : Nz (sdO t) := by
  have h1 := ryT_parts h
  have h2 := ryT_ne h
  have a := sgn_mul (w := t.2.2) (y := t.2.1) (by omega)
  have b := sgn_mul (w := t.2.2) (y := t.1) (by omega)
  unfold sdO
  rw [nz_at, Int.neg_mul]; omega
theorem sdO_bd {t : Tm} (h : ryT t = true) : Sm 400 (sdO t) := by
  have h1 := ry_bd h
  unfold Sm sdO
  simp only [Int.neg_mul]; omega
theorem sdO_dif {s t : Tm} (hs : ryT s = true) (ht : ryT t = true) (hn : ¬ Same s t) : ¬ (fwB (sdO s) = fwB (sdO t) ∧ cr (sdO s) (sdO t) = 0) ∧ ¬ (uwB (sdO s) = uwB (sdO t) ∧ cr (sdO s) (sdO t) = 0) := by
  have p1 := ryT_parts hs
  have p2 := ryT_parts ht
  have n1 := ryT_ne hs
  have key : cr (sdO s) (sdO t) = 0 → t.1 = -s.1 ∧ t.2.1 = -s.2.1 := by
    intro h
    rw [sdO_cr] at h
    have e1 := (sgn_mul (w := s.2.2) (y := t.2.2 * (s.1 * t.2.1 - s.2.1 * t.1)) (by omega)).2.1.1 h
    have e2 := (sgn_mul (w := t.2.2) (y := s.1 * t.2.1 - s.2.1 * t.1) (by omega)).2.1.1 e1
    rcases prim (x := s.1) (y := s.2.1) (x' := t.1) (y' := t.2.1) (by omega) p1.2.2.2.2.1 p2.2.2.2.2.1 with ⟨h1, h2⟩ | h1
    · exact absurd ⟨h1.symm, h2.symm⟩ hn
    · exact h1
  constructor
  · rintro ⟨h1, h2⟩
    obtain ⟨k1, k2⟩ := key h2
    have f1 := sdO_fw (t := s) (by omega)
    have f2 := sdO_fw (t := t) (by omega)
    rw [h1] at f1
    rw [f1] at f2
    omega
  · rintro ⟨h1, h2⟩
    obtain ⟨k1, k2⟩ := key h2
    have f1 := sdO_uw (t := s) (by omega)
    have f2 := sdO_uw (t := t) (by omega)
    rw [h1] at f1
    rw [f1] at f2
    omega
theorem sdL_nz {l : List Tm} (h : ryB l = true) : ∀ a ∈ sdL9 l, Nz a := fun a ha => by
  obtain ⟨t, ht, rfl⟩ := List.mem_map.1 ha
  exact sdO_ne (((ryB_iff l).1 h).2.1 t ht)
theorem sdL_sm {l : List Tm} (h : ryB l = true) : ∀ a ∈ sdL9 l, Sm 400 a := fun a ha => by
  obtain ⟨t, ht, rfl⟩ := List.mem_map.1 ha
  exact sdO_bd (((ryB_iff l).1 h).2.1 t ht)
theorem sdL_dif {l : List Tm} (h : ryB l = true) : Dif fwB (sdL9 l) ∧ Dif uwB (sdL9 l) := by
  have hp : l.Pairwise fun a b => ryT a = true ∧ ryT b = true ∧ ¬ Same a b := by
    rw [List.pairwise_iff_getElem]
    intro i j hi hj hij
    refine ⟨((ryB_iff l).1 h).2.1 _ (List.getElem_mem _), ((ryB_iff l).1 h).2.1 _ (List.getElem_mem _), ?_⟩
    exact List.pairwise_iff_getElem.1 (srt_diff (ryB_srt h)) i j hi hj hij
  unfold Dif sdL9
  rw [List.pairwise_map, List.pairwise_map]
  exact ⟨hp.imp fun ⟨a, b, c⟩ => (sdO_dif a b c).1, hp.imp fun ⟨a, b, c⟩ => (sdO_dif a b c).2⟩
theorem pd_sdL {l : List Tm} {k : Nat} (hk : k < l.length) : pd (sdL9 l) k = sdO (td l k) := by
  rw [pd_eq _ _ (by rw [sdL9_len]; exact hk), td_eq _ _ hk]; simp [sdL9]
theorem sdL_sum (l : List Tm) : ∀ k, k ≤ l.length → psF Prod.fst (sdL9 l) k = syA l k ∧ psF Prod.snd (sdL9 l) k = -sxA l k
  | 0, _ => by simp [psF_0, sxA, syA]
  | k + 1, hk => by
    obtain ⟨h1, h2⟩ := sdL_sum l k (by omega)
    rw [psF_next _ _ _ (by rw [sdL9_len]; omega), psF_next _ _ _ (by rw [sdL9_len]; omega), h1, h2, pd_sdL (by omega)]
    rw [sy_next, sx_next]
    refine ⟨rfl, ?_⟩
    show -sxA l k + -(td l k).2.2 * (td l k).1 = -(sxA l k + (td l k).2.2 * (td l k).1)
    rw [Int.neg_mul]; omega
/-- The sides in the program's order. -/
def duI (l : List Tm) : List Pt := insA fwB (sdL9 l) l.length
def duS (l : List Tm) : List Pt := insA uwB (sdL9 l) l.length
theorem duI_len (l : List Tm) : (duI l).length = l.length := insA_len _ _ _
theorem duI_perm (l : List Tm) : (duI l).Perm (sdL9 l) := by
  have := insA_perm fwB (sdL9 l) l.length (by rw [sdL9_len]; exact Nat.le_refl _)
  rwa [List.take_of_length_le (by rw [sdL9_len]; exact Nat.le_refl _)] at this
theorem duS_perm (l : List Tm) : (duS l).Perm (sdL9 l) := by
  have := insA_perm uwB (sdL9 l) l.length (by rw [sdL9_len]; exact Nat.le_refl _)
  rwa [List.take_of_length_le (by rw [sdL9_len]; exact Nat.le_refl _)] at this
theorem duI_ord {l : List Tm} (h : ryB l = true) : (duI l).Pairwise fun a b => hfB fwB a b = true := insA_ord hlf_fw (sdL_nz h) (sdL_dif h).1 _ (by rw [sdL9_len]; exact Nat.le_refl _)
theorem duS_ord {l : List Tm} (h : ryB l = true) : (duS l).Pairwise fun a b => hfB uwB a b = true := insA_ord hlf_uw (sdL_nz h) (sdL_dif h).2 _ (by rw [sdL9_len]; exact Nat.le_refl _)
theorem hfB_uniq {H : Pt → Bool} {a b : List Pt} (hp : a.Perm b) (ha : a.Pairwise fun x y => hfB H x y = true) (hb : b.Pairwise fun x y => hfB H x y = true) : a = b :=
  List.Perm.eq_of_pairwise (le := fun x y => hfB H x y = true) (fun x y _ _ h h' => by rw [hfB_asym h] at h'; cases h') ha hb hp
/-- Any order of the sides by their directions, with none before an earlier one, is this one. -/
theorem duI_is {l : List Tm} (h : ryB l = true) {d : List Pt} (hp : d.Perm (sdL9 l)) (hd : d.Pairwise fun a b => hfB fwB b a = false) : d = duI l := by
  refine hfB_uniq (hp.trans (duI_perm l).symm) ?_ (duI_ord h)
  have hdif : d.Pairwise fun a b => ¬ (fwB a = fwB b ∧ cr a b = 0) := by
    refine (hp.pairwise_iff ?_).2 (sdL_dif h).1
    rintro x y hxy ⟨h1, h2⟩
    refine hxy ⟨h1.symm, ?_⟩
    have := cr_back x y
    omega
  refine List.Pairwise.imp₂ ?_ hd hdif
  intro a b h1 h2
  refine hfB_tot ?_ h1
  rintro ⟨h3, h4⟩
  refine h2 ⟨h3.symm, ?_⟩
  have := cr_back a b
  omega
theorem duS_is {l : List Tm} (h : ryB l = true) : duS l = (duI l).filter (fun a => !lasB a) ++ (duI l).filter lasB := by
  have hz : ∀ a ∈ duI l, Nz a := fun a ha => sdL_nz h a ((duI_perm l).mem_iff.1 ha)
  obtain ⟨t1, t2⟩ := turned hz (duI_ord h)
  refine hfB_uniq ?_ (duS_ord h) t2
  refine (duS_perm l).trans ((duI_perm l).symm.trans ?_)
  conv => lhs; rw [t1]
  exact List.perm_append_comm
theorem du_corners {l : List Tm} (h : ryB l = true) (h0 : 0 < l.length) (hb : baB l = true) : corS (duS l) = corI (duI l) := by
  have hz : ∀ a ∈ duI l, Nz a := fun a ha => sdL_nz h a ((duI_perm l).mem_iff.1 ha)
  have hB := baB_is h
  rw [hb] at hB
  have hB := hB.symm
  simp only [Bool.and_eq_true, decide_eq_true_eq] at hB
  obtain ⟨e1, e2⟩ := sdL_sum l l.length (Nat.le_refl _)
  refine corners hz (duI_ord h) ?_ ?_ (by rw [duI_len]; exact h0) (duS_is h)
  · rw [psF_perm Prod.fst (duI_perm l), sdL9_len, e1]; exact hB.2
  · rw [psF_perm Prod.snd (duI_perm l), sdL9_len, e2, hB.1]; rfl
def duB (l : List Tm) : Bool := baB l && (decide (l.length ≠ 0) && (corI (duI l)).all ptG)
def duR (l : List Tm) : List Pt := if duB l = true then corI (duI l) else []
theorem corI_len (l : List Pt) : (corI l).length = l.length := by simp [corI]
theorem duR_le (l : List Tm) : (duR l).length ≤ 1048576 := by
  unfold duR; split
  · rename_i h
    unfold duB at h
    simp only [Bool.and_eq_true] at h
    have h1 : ryB l = true := by
      cases hr : ryB l
      · have := h.1; unfold baB at this; rw [hr] at this; cases this
      · rfl
    have := ryB_le h1
    rw [corI_len, duI_len]; omega
  · simp
theorem du_no {l : List Tm} (h : duB l = false) : duR l = [] := if_neg (by simp [h])
theorem du_no1 {l : List Tm} (h : baB l = false) : duB l = false := by unfold duB; rw [h]; rfl
theorem du_no2 {l : List Tm} (h : l.length = 0) : duB l = false := by unfold duB; simp [h]
theorem du_is {l : List Tm} (h : baB l = true) (h0 : 0 < l.length) : duB l = (corI (duI l)).all ptG := by
  unfold duB; rw [h, decide_eq_true (show l.length ≠ 0 by omega)]; rfl
/-- The bounds of the sums of sides. -/
theorem psF_bd {f : Pt → Int} {l : List Pt} (h : ∀ a ∈ l, -400 ≤ f a ∧ f a ≤ 400) : ∀ k, k ≤ l.length → -(400 * (k : Int)) ≤ psF f l k ∧ psF f l k ≤ 400 * (k : Int)
  | 0, _ => by rw [psF_0]; omega
  | k + 1, hk => by
    have := psF_bd h k (by omega)
    have := h (pd l k) (by rw [pd_eq l k (by omega)]; exact List.getElem_mem _)
    rw [psF_next f l k (by omega)]; omega
theorem mnA_bd {f : Nat → Int} {b : Int} (hb : 0 ≤ b) : ∀ n, (∀ k, k ≤ n → -b ≤ f k) → -b ≤ mnA f n ∧ mnA f n ≤ 0
  | 0, _ => by unfold mnA; omega
  | n + 1, h => by
    have := mnA_bd hb n fun k hk => h k (by omega)
    have := h (n + 1) (Nat.le_refl _)
    unfold mnA; omega
end Go.Proofs.Ythegkifhbgopoaa

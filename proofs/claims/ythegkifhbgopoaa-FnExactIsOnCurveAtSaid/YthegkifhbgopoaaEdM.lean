/-
  The edges of cells: plain mathematics.
-/
import Derived.Test.YthegkifhbgopoaaCePg
import Derived.Test.YthegkifhbgopoaaGcd
namespace Go.Proofs.Ythegkifhbgopoaa
set_option linter.unusedSimpArgs false
set_option linter.unusedVariables false

/-- The place of a point among the terms'. -/
def fnI (l : List Tm) (p : Pt) : Nat := (ptsL l).idxOf p
theorem fnI_lt {l : List Tm} {p : Pt} (h : p ∈ ptsL l) : fnI l p < l.length := by
  have := List.idxOf_lt_length_iff.2 h
  rwa [ptsL_len] at this
theorem pts_pd {l : List Tm} {k : Nat} (hk : k < l.length) : (ptsL l)[k]'(by rw [ptsL_len]; exact hk) = ptO (td l k) := by
  rw [td_eq l k hk]; simp [ptsL, ptO]
theorem fnI_at {l : List Tm} {p : Pt} (h : p ∈ ptsL l) : ptO (td l (fnI l p)) = p := by
  rw [← pts_pd (fnI_lt h)]
  exact List.getElem_idxOf _
theorem fnI_first {l : List Tm} {p : Pt} {k : Nat} (hk : k < fnI l p) (hl : k < l.length) : ptO (td l k) ≠ p := by
  rw [← pts_pd hl]
  intro e
  have := List.not_of_lt_findIdx (xs := ptsL l) (p := (· == p)) (i := k) hk
  simp [e] at this
/-- Terms' points differ. -/
theorem pt_inj {l : List Tm} (hl : plB l = true) {i j : Nat} (hi : i < l.length) (hj : j < l.length) (h : ptO (td l i) = ptO (td l j)) : i = j := by
  have hs := ((plB_iff l).1 hl).2.2
  have key : ∀ a b : Nat, a < b → b < l.length → ptO (td l a) ≠ ptO (td l b) := fun a b hab hb e => by
    have h1 := List.pairwise_iff_getElem.1 hs a b (by omega) hb hab
    rw [← td_eq l a (by omega), ← td_eq l b hb] at h1
    unfold plLt at h1
    unfold ptO at e
    simp only [Prod.mk.injEq] at e
    simp only [Bool.or_eq_true, Bool.and_eq_true, decide_eq_true_eq] at h1
    omega
  rcases Nat.lt_trichotomy i j with h' | h' | h'
  · exact absurd h (key i j h' hj)
  · exact h'
  · exact absurd h.symm (key j i h' hi)
theorem fnI_is {l : List Tm} (hl : plB l = true) {m : Nat} (hm : m < l.length) : fnI l (ptO (td l m)) = m := by
  have hmem : ptO (td l m) ∈ ptsL l := by rw [← pts_pd hm]; exact List.getElem_mem _
  exact pt_inj hl (fnI_lt hmem) hm (fnI_at hmem)
/-- The polygon of a cell and its sides, as pairs of terms, the less one first. -/
def hcL (l : List Tm) (x : List Int) : List Pt := hulL (cptL l x)
def sdP (l : List Tm) (H : List Pt) (n : Nat) : List Int := [(min (fnI l (pd H n)) (fnI l (nxP H n)) : Nat), (max (fnI l (pd H n)) (fnI l (nxP H n)) : Nat)]
def sdL (l : List Tm) (x : List Int) : List (List Int) := (List.range (hcL l x).length).map (sdP l (hcL l x))
theorem sdL_len (l : List Tm) (x : List Int) : (sdL l x).length = (hcL l x).length := by simp [sdL]
theorem sdL_next (l : List Tm) (x : List Int) {k : Nat} (hk : k < (hcL l x).length) : (sdL l x).take (k + 1) = (sdL l x).take k ++ [sdP l (hcL l x) k] := by
  rw [List.take_add_one, List.getElem?_eq_getElem (by rw [sdL_len]; exact hk)]
  simp [sdL]
theorem cpt_ne {l : List Tm} {x : List Int} (h : x ∈ ceL l) : cptL l x ≠ [] := fun e => by
  have h1 := cptL_len l x
  have := cell_3 h
  rw [e] at h1; simp at h1; omega
theorem hc_mem {l : List Tm} {x : List Int} (hx : x ∈ ceL l) {q : Pt} (hq : q ∈ hcL l x) : ∃ m : Nat, (m : Int) ∈ x ∧ m < l.length ∧ ptO (td l m) = q := by
  have h1 := hul_sub (cpt_ne hx) hq
  obtain ⟨n, hn, rfl⟩ := List.mem_map.1 h1
  have := (ceL_bd hx).1 n hn
  exact ⟨n.toNat, by rwa [Int.toNat_of_nonneg this.1], by omega, rfl⟩
theorem hc_pts {l : List Tm} {x : List Int} (hx : x ∈ ceL l) {q : Pt} (hq : q ∈ hcL l x) : q ∈ ptsL l := by
  obtain ⟨m, -, hm, rfl⟩ := hc_mem hx hq
  rw [← pts_pd hm]; exact List.getElem_mem _
theorem fnI_inj {l : List Tm} {p q : Pt} (hp : p ∈ ptsL l) (hq : q ∈ ptsL l) (h : fnI l p = fnI l q) : p = q := by
  rw [← fnI_at hp, ← fnI_at hq, h]
theorem nx_of {l : List Pt} {k : Nat} (hk : k < l.length) : nxP l k = pd l ((k + 1) % l.length) := rfl
theorem hc_3 {l : List Tm} {x : List Int} (hx : x ∈ ceL l) : 3 ≤ (hcL l x).length := by
  have h := cell_area hx
  unfold hcL
  obtain ⟨H, hH⟩ : ∃ H, H = hulL (cptL l x) := ⟨_, rfl⟩
  rw [← hH] at h ⊢
  have h0 : H.length ≠ 0 := fun e => by
    rw [List.eq_nil_of_length_eq_zero e] at h
    simp [arL, arS] at h
  have h1 : H.length ≠ 1 := fun e => by
    obtain ⟨a, rfl⟩ := List.length_eq_one_iff.1 e
    simp only [arL, arS, nxP, List.length_cons, List.length_nil] at h
    rw [show (0 + 1) % (0 + 1) = 0 from rfl, crP_self] at h
    omega
  have h2 : H.length ≠ 2 := fun e => by
    match H, e with
    | [a, b], _ =>
      have : arL [a, b] = 0 + crP a b + crP b a := by simp [arL, arS, nxP, pd]
      rw [this, crP_anti a b] at h
      omega
  omega
theorem hc_le {l : List Tm} {x : List Int} (hx : x ∈ ceL l) (hl : l.length ≤ 12) : (hcL l x).length ≤ 12 := by
  have h1 := hul_le (cpt_ne hx)
  rw [cptL_len] at h1
  have := (ceL_bd hx).2.2
  unfold hcL; omega
theorem pd_inj {H : List Pt} (hn : H.Nodup) {i j : Nat} (hi : i < H.length) (hj : j < H.length) (h : pd H i = pd H j) : i = j := by
  rw [pd_eq H i hi, pd_eq H j hj] at h
  rcases Nat.lt_trichotomy i j with h' | h' | h'
  · exact absurd h (List.pairwise_iff_getElem.1 (List.nodup_iff_pairwise_ne.1 hn) i j hi hj h')
  · exact h'
  · exact absurd h.symm (List.pairwise_iff_getElem.1 (List.nodup_iff_pairwise_ne.1 hn) j i hj hi h')
theorem mod_succ {k n : Nat} (hk : k < n) : (k + 1) % n = if k + 1 = n then 0 else k + 1 := by
  split
  · next h => rw [h, Nat.mod_self]
  · exact Nat.mod_eq_of_lt (by omega)
/-- A cell's sides differ. -/
theorem sd_nodup {l : List Tm} {x : List Int} (hx : x ∈ ceL l) : (sdL l x).Nodup := by
  have h3 := hc_3 hx
  have hn : (hcL l x).Nodup := hul_nodup _
  obtain ⟨H, hH⟩ : ∃ H, H = hcL l x := ⟨_, rfl⟩
  have hp : ∀ q ∈ H, q ∈ ptsL l := fun q hq => hc_pts hx (by rw [← hH]; exact hq)
  unfold sdL
  rw [← hH] at h3 hn ⊢
  rw [List.nodup_iff_pairwise_ne, List.pairwise_map]
  refine List.Pairwise.imp_of_mem (R := fun a b : Nat => a ≠ b) ?_ (List.nodup_iff_pairwise_ne.1 List.nodup_range)
  intro a b ha hb hab e
  rw [List.mem_range] at ha hb
  unfold sdP at e
  simp only [List.cons.injEq, and_true] at e
  obtain ⟨e1, e2⟩ := e
  have ma : (a + 1) % H.length < H.length := Nat.mod_lt _ (by omega)
  have mb : (b + 1) % H.length < H.length := Nat.mod_lt _ (by omega)
  have ia : ∀ {i j : Nat}, i < H.length → j < H.length → fnI l (pd H i) = fnI l (pd H j) → i = j := fun hi hj he =>
    pd_inj hn hi hj (fnI_inj (hp _ (pd_mem hi)) (hp _ (pd_mem hj)) he)
  rw [nx_of ha, nx_of hb] at e1 e2
  have hc : (fnI l (pd H a) = fnI l (pd H b) ∧ fnI l (pd H ((a + 1) % H.length)) = fnI l (pd H ((b + 1) % H.length))) ∨ (fnI l (pd H a) = fnI l (pd H ((b + 1) % H.length)) ∧ fnI l (pd H ((a + 1) % H.length)) = fnI l (pd H b)) := by omega
  rcases hc with ⟨h1, -⟩ | ⟨h1, h2⟩
  · exact hab (ia ha hb h1)
  · have e3 := ia ha mb h1
    have e4 := ia ma hb h2
    rw [mod_succ hb] at e3
    rw [mod_succ ha] at e4
    split at e3 <;> split at e4 <;> omega
/-- How many of the first cells have an edge; and with some sides of one more. -/
def cntN (l : List Tm) (k : Nat) (e : List Int) : Nat := ((ceL l).take k).countP fun x => decide (e ∈ sdL l x)
def cntM (l : List Tm) (k : Nat) (X : List (List Int)) (e : List Int) : Nat := cntN l k e + if e ∈ X then 1 else 0
theorem cntN_zero (l : List Tm) (e : List Int) : cntN l 0 e = 0 := by simp [cntN]
theorem cntM_nil (l : List Tm) (k : Nat) (e : List Int) : cntM l k [] e = cntN l k e := by simp [cntM]
theorem cntM_next {l : List Tm} {k : Nat} {X : List (List Int)} {s : List Int} (hs : s ∉ X) (e : List Int) : cntM l k (X ++ [s]) e = cntM l k X e + if e = s then 1 else 0 := by
  unfold cntM
  by_cases h : e = s
  · subst h; simp [hs]
  · simp [h]
theorem cntN_next {l : List Tm} {k : Nat} (hk : k < (ceL l).length) {X : List (List Int)} (hX : ∀ e, e ∈ X ↔ e ∈ sdL l ((ceL l).getD k [])) (e : List Int) : cntM l k X e = cntN l (k + 1) e := by
  unfold cntM cntN
  rw [List.take_add_one, List.getElem?_eq_getElem hk, List.countP_append]
  have : (ceL l).getD k [] = (ceL l)[k] := by rw [List.getD_eq_getElem?_getD, List.getElem?_eq_getElem hk]; rfl
  rw [this] at hX
  congr 1
  by_cases h : e ∈ X
  · rw [if_pos h]; simp [(hX e).1 h]
  · rw [if_neg h]
    have h' : ¬ e ∈ sdL l (ceL l)[k] := fun h' => h ((hX e).2 h')
    simp [h']
/-- ALL EDGES, in order; those of so many cells at least. -/
def eaL (l : List Tm) : List (List Int) := setX lxL ((ceL l).flatMap (sdL l))
def edM2 (l : List Tm) (n : Nat) : List (List Int) := (eaL l).filter fun e => decide (n ≤ cntN l (ceL l).length e)
theorem edM2_inc (l : List Tm) (n : Nat) : Inc lxL (edM2 l n) := List.Pairwise.filter _ (setX_inc totLx _)
theorem cntN_pos {l : List Tm} {e : List Int} : 1 ≤ cntN l (ceL l).length e ↔ e ∈ eaL l := by
  unfold cntN eaL
  rw [List.take_length, setX_mem totLx, List.mem_flatMap]
  constructor
  · intro h
    obtain ⟨x, hx, hp⟩ := List.countP_pos_iff.1 (Nat.lt_of_lt_of_le Nat.zero_lt_one h)
    exact ⟨x, hx, of_decide_eq_true hp⟩
  · rintro ⟨x, hx, he⟩
    have : 0 < List.countP (fun x => decide (e ∈ sdL l x)) (ceL l) := List.countP_pos_iff.2 ⟨x, hx, decide_eq_true he⟩
    omega
theorem edM2_mem {l : List Tm} {n : Nat} (hn : 1 ≤ n) (e : List Int) : e ∈ edM2 l n ↔ n ≤ cntN l (ceL l).length e := by
  unfold edM2
  rw [List.mem_filter, decide_eq_true_iff]
  constructor
  · exact fun h => h.2
  · exact fun h => ⟨cntN_pos.1 (by omega), h⟩
theorem edM2_is {l : List Tm} {n : Nat} (hn : 1 ≤ n) {out : List (List Int)} (h : Inc lxL out) (hm : ∀ e, e ∈ out ↔ n ≤ cntN l (ceL l).length e) : out = edM2 l n :=
  inc_ext totLx h (edM2_inc l n) fun e => by rw [hm, edM2_mem hn]
theorem flat_len12 {l : List Tm} (h12 : l.length ≤ 12) : ((ceL l).flatMap (sdL l)).length ≤ 20736 := by
  have h1 := flat_le (sdL l) 12 (ceL l) (fun x hx => by rw [sdL_len]; exact hc_le hx h12)
  have h2 := ceL_len h12
  omega
theorem inc_le2 {out : List (List Int)} {l : List Tm} (h12 : l.length ≤ 12) (h : Inc lxL out) (hs : ∀ e ∈ out, e ∈ eaL l) : out.length ≤ 20736 := by
  have h1 := inc_le h (setX_inc totLx ((ceL l).flatMap (sdL l))) hs
  have h2 := setX_len ((ceL l).flatMap (sdL l))
  have h3 := flat_len12 h12
  omega
theorem cntN_mono (l : List Tm) (e : List Int) {k n : Nat} (h : k ≤ n) : cntN l k e ≤ cntN l n e := by
  unfold cntN
  exact List.Sublist.countP_le (List.take_sublist_take_left h)
theorem edM2_le {l : List Tm} {n : Nat} (h12 : l.length ≤ 12) : (edM2 l n).length ≤ 20736 :=
  inc_le2 h12 (edM2_inc l n) fun e he => (List.mem_filter.1 he).1
/-- Edges are pairs of terms. -/
theorem ea_pair {l : List Tm} {e : List Int} (h : e ∈ eaL l) : ∃ i k : Nat, i < k ∧ k < l.length ∧ e = [(i : Int), (k : Int)] := by
  unfold eaL at h
  rw [setX_mem totLx, List.mem_flatMap] at h
  obtain ⟨x, hx, he⟩ := h
  obtain ⟨n, hn, rfl⟩ := List.mem_map.1 he
  rw [List.mem_range] at hn
  have h3 := hc_3 hx
  have mn : (n + 1) % (hcL l x).length < (hcL l x).length := Nat.mod_lt _ (by omega)
  have p1 := hc_pts hx (pd_mem hn)
  have p2 := hc_pts hx (pd_mem mn)
  have l1 := fnI_lt p1
  have l2 := fnI_lt p2
  have hne : fnI l (pd (hcL l x) n) ≠ fnI l (pd (hcL l x) ((n + 1) % (hcL l x).length)) := fun e => by
    have := pd_inj (hul_nodup _ : (hcL l x).Nodup) hn mn (fnI_inj p1 p2 e)
    rw [mod_succ hn] at this
    split at this <;> omega
  refine ⟨_, _, ?_, ?_, rfl⟩
  · rw [nx_of hn]; omega
  · rw [nx_of hn]; omega
end Go.Proofs.Ythegkifhbgopoaa
/-
  The model of edges: what its calls return.
  Condition: the slice reads as the terms that are named; they are valid.
-/
namespace Go.Proofs.Ythegkifhbgopoaa
set_option linter.unusedSimpArgs false
set_option linter.unusedVariables false
open Go.ChangeShapes Go.WideShapes Go.ChangeAt Go.RowKit
open Go.Sort (grow)

theorem putX_length (s : List Int) : ∀ L : List (List Int), s ∉ L → (putX lxL s L).length = L.length + 1
  | [], _ => rfl
  | a :: t, h => by
    have h1 : a ≠ s := fun e => h (by simp [e])
    have h2 : s ∉ t := fun e => h (by simp [e])
    unfold putX
    split
    · rw [List.length_cons, putX_length s t h2, List.length_cons]
    · split
      · simp
      · next h3 h4 => exact absurd (totLx.tot (by simpa using h3) (by simpa using h4)) h1
theorem putX_same {s : List Int} {L : List (List Int)} (hL : Inc lxL L) (h : s ∈ L) : putX lxL s L = L :=
  inc_ext totLx (putX_inc totLx s hL) hL fun x => by
    rw [putX_mem totLx]
    exact ⟨fun hx => by rcases hx with rfl | hx; exact h; exact hx, .inr⟩
theorem inc_nodup {L : List (List Int)} (h : Inc lxL L) : L.Nodup := List.nodup_iff_pairwise_ne.2 (h.imp fun {a b} hab e => by rw [e, totLx.irr] at hab; cases hab)
theorem IS2.new (w : World) (a b : Int) : IS (w.alloc (.cells #[.int .i64 a, .int .i64 b] 3)) w.heap.size (.slice (some ⟨w.heap.size, 0, none⟩) 2 2) [a, b] :=
  ⟨rfl, .inr ⟨w.heap.size, 2, _, rfl, Nat.le_refl _, heap_alloc_new w _, Nat.le_refl _, by unfold maxLen; omega, rfl, rfl⟩⟩
theorem cellU' {l : List Tm} {P : VL} (hP : lls P = ceL l) {k : Nat} (hk : k < P.length) : pll P k ∈ ceL l := by
  rw [← hP, ← lls_get hk (by rw [lls_len]; exact hk)]; exact List.getElem_mem _
/-- Both lists of edges, when the first k cells and some sides X of the next one have been looked at; the sides of R from j on lie elsewhere. -/
def EI (l : List Tm) (B k : Nat) (X : List (List Int)) (R : VL) (j : Nat) (o1 o2 : Value) (w : World) : Prop := ∃ P Q, (LS w B o1 P ∧ LS w B o2 Q) ∧ ((P.length = 0 → o1 = .slice none 0 0) ∧ (Q.length = 0 → o2 = .slice none 0 0)) ∧
  (Inc lxL (lls P) ∧ Inc lxL (lls Q)) ∧ (∀ e, (e ∈ lls P ↔ 1 ≤ cntM l k X e) ∧ (e ∈ lls Q ↔ 2 ≤ cntM l k X e)) ∧
  ∀ p, p ∈ P ∨ p ∈ Q → ∀ m, j ≤ m → m < R.length → ∀ g, p.1.ownBlock = some g → (pvl R m).ownBlock ≠ some g
theorem EI.below {l : List Tm} {B k : Nat} {X : List (List Int)} {R : VL} {j : Nat} {o1 o2 : Value} {w w' : World} (h : EI l B k X R j o1 o2 w) (hb : Below w.heap.size w w') : EI l B k X R j o1 o2 w' := by
  obtain ⟨P, Q, ⟨h1, h2⟩, h3⟩ := h
  exact ⟨P, Q, ⟨h1.below hb, h2.below hb⟩, h3⟩
theorem EI.start {l : List Tm} {B k : Nat} {o1 o2 : Value} {w w' : World} {r : Value} {R : VL} (h : EI l B k [] [] 0 o1 o2 w) (hb : Below w.heap.size w w') (hR : LS w' w.heap.size r R) : EI l B k [] R 0 o1 o2 w' := by
  obtain ⟨P, Q, ⟨h1, h2⟩, h3, h4, h5, -⟩ := h
  refine ⟨P, Q, ⟨h1.below hb, h2.below hb⟩, h3, h4, h5, fun p hp m _ hm g hg e => ?_⟩
  have a1 := (hR.2.at hm).lt g e
  have a2 : g < w.heap.size := by
    rcases hp with hp | hp
    · exact ((h1.2.1 p hp).lt g hg).2
    · exact ((h2.2.1 p hp).lt g hg).2
  omega
theorem EI.close {l : List Tm} {B k : Nat} {X : List (List Int)} {R : VL} {j : Nat} {o1 o2 : Value} {w : World} (h : EI l B k X R j o1 o2 w) (hk : k < (ceL l).length) (hX : ∀ e, e ∈ X ↔ e ∈ sdL l ((ceL l).getD k [])) : EI l B (k + 1) [] [] 0 o1 o2 w := by
  obtain ⟨P, Q, h1, h2, h3, h4, -⟩ := h
  refine ⟨P, Q, h1, h2, h3, fun e => ?_, fun p _ m _ hm => by simp at hm⟩
  rw [cntM_nil, ← cntN_next hk hX e]
  exact h4 e
theorem EI.zero (l : List Tm) (B : Nat) (w : World) : EI l B 0 [] [] 0 (.slice none 0 0) (.slice none 0 0) w :=
  ⟨[], [], ⟨LS.nil_ _ _, LS.nil_ _ _⟩, ⟨fun _ => rfl, fun _ => rfl⟩, ⟨List.Pairwise.nil, List.Pairwise.nil⟩, fun e => by simp [lls, cntM_nil, cntN_zero], fun p _ m _ hm => by simp at hm⟩
theorem cntM_le {l : List Tm} {k : Nat} {X : List (List Int)} (hk : k < (ceL l).length) (hX : ∀ e ∈ X, e ∈ sdL l ((ceL l).getD k [])) (e : List Int) : cntM l k X e ≤ cntN l (ceL l).length e := by
  have h1 : cntM l k X e ≤ cntM l k (sdL l ((ceL l).getD k [])) e := by
    unfold cntM
    by_cases h : e ∈ X
    · rw [if_pos h, if_pos (hX e h)]; exact Nat.le_refl _
    · rw [if_neg h]; split <;> omega
  rw [cntN_next hk (fun e => Iff.rfl)] at h1
  exact Nat.le_trans h1 (cntN_mono l e hk)
theorem ei_le {l : List Tm} (h12 : l.length ≤ 12) {k : Nat} {X : List (List Int)} (hk : k < (ceL l).length) (hX : ∀ e ∈ X, e ∈ sdL l ((ceL l).getD k [])) {P : VL} (hi : Inc lxL (lls P)) {n : Nat} (hn : 1 ≤ n) (hm : ∀ e, e ∈ lls P ↔ n ≤ cntM l k X e) : P.length ≤ 20736 := by
  rw [← lls_len]
  exact inc_le2 h12 hi fun e he => cntN_pos.1 (by have := (hm e).1 he; have := cntM_le hk hX e; omega)
theorem lv_apart {w : World} {B : Nat} {R : VL} (h : LV w B R) {i j : Nat} (hi : i < R.length) (hj : j < R.length) (hij : i < j) : ∀ g, (pvl R i).ownBlock = some g → (pvl R j).ownBlock ≠ some g := by
  have := List.pairwise_iff_getElem.1 h.2 i j hi hj hij
  rw [← p_eq hi, ← p_eq hj] at this
  exact this
end Go.Proofs.Ythegkifhbgopoaa

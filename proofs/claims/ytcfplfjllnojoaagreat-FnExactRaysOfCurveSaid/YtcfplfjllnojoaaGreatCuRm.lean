import Derived.Test.YtcfplfjllnojoaaGreatCuI
import Derived.Test.YtcfplfjllnojoaaGreatSf
/-
  The rays of a curve: plain mathematics. What the model lists (the edges of one cell, in order) and what the program lists and sorts
  (the ends of the cells) is the same.
  No condition.
-/
namespace Go.Proofs.YtcfplfjllnojoaaGreat
set_option linter.unusedSimpArgs false
set_option linter.unusedVariables false
open Go.ChangeShapes Go.WideShapes Go.ChangeAt Go.RowKit Go.Maps
open Go.Sort (grow)

/-- The numbers of the cells at an edge; is it the edge of one cell. -/
def clA (l : List Tm) (e : List Int) : List Int := clL l (ceL l).length e
def isRy (l : List Tm) (e : List Int) : Bool := decide ((clA l e).length = 1)
/-- A ray: the edge, its cell's number, the end's direction and weight. -/
def ryX (l : List Tm) (e : List Int) : List Int := e ++ [gd (clA l e) 0] ++ enT l ((ceL l).getD (gd (clA l e) 0).toNat []) (gd e 0).toNat (gd e 1).toNat
def ryT (l : List Tm) (j : Nat) : List (List Int) := (((edM2 l 1).take j).filter (isRy l)).map (ryX l)
def ryL (l : List Tm) : List (List Int) := ((edM2 l 1).filter (isRy l)).map (ryX l)
def ryR (l : List Tm) : List (List Int) := if plB l = true then ryL l else []
theorem ryR_yes {l : List Tm} (h : plB l = true) : ryR l = ryL l := if_pos h
theorem ryR_no {l : List Tm} (h : plB l = false) : ryR l = [] := if_neg (by simp [h])
theorem ryT_zero (l : List Tm) : ryT l 0 = [] := by simp [ryT]
theorem ryT_next {l : List Tm} {j : Nat} (hj : j < (edM2 l 1).length) {e : List Int} (he : (edM2 l 1)[j] = e) : ryT l (j + 1) = ryT l j ++ if isRy l e = true then [ryX l e] else [] := by
  unfold ryT
  rw [List.take_add_one, List.getElem?_eq_getElem hj, he, List.filter_append, List.map_append]
  congr 1
  cases hq : isRy l e <;> simp [hq]
theorem ryT_end {l : List Tm} {j : Nat} (h : (edM2 l 1).length ≤ j) : ryT l j = ryL l := by
  unfold ryT ryL
  rw [List.take_of_length_le h]
theorem ryT_len {l : List Tm} (h12 : l.length ≤ 12) (j : Nat) : (ryT l j).length ≤ 144 := by
  unfold ryT
  rw [List.length_map]
  have h1 := List.length_filter_le (isRy l) ((edM2 l 1).take j)
  have h2 := ed_few h12 1
  rw [List.length_take] at h1
  omega
/-- An edge of one cell: that cell. -/
theorem ry_one {l : List Tm} {e : List Int} (h : isRy l e = true) : ∃ c : Nat, clA l e = [(c : Int)] ∧ c < (ceL l).length ∧ e ∈ sdL l ((ceL l).getD c []) := by
  have h1 := of_decide_eq_true h
  obtain ⟨L, hL⟩ : ∃ L, L = clA l e := ⟨_, rfl⟩
  rw [← hL] at h1
  match L, h1 with
  | [a], _ =>
    have ha : a ∈ clA l e := by rw [← hL]; simp
    unfold clA clL at ha
    obtain ⟨c, hc, rfl⟩ := List.mem_map.1 ha
    obtain ⟨q1, q2⟩ := List.mem_filter.1 hc
    exact ⟨c, hL.symm, List.mem_range.1 q1, of_decide_eq_true q2⟩
theorem cl_has {l : List Tm} {c : Nat} (hc : c < (ceL l).length) {e : List Int} (he : e ∈ sdL l ((ceL l).getD c [])) : (c : Int) ∈ clA l e :=
  List.mem_map.2 ⟨c, List.mem_filter.2 ⟨List.mem_range.2 hc, decide_eq_true he⟩, rfl⟩
theorem ry_cell {l : List Tm} {c : Nat} (hc : c < (ceL l).length) {e : List Int} (he : e ∈ sdL l ((ceL l).getD c [])) (h : isRy l e = true) : clA l e = [(c : Int)] := by
  obtain ⟨d, h1, -, -⟩ := ry_one h
  have := cl_has hc he
  rw [h1] at this ⊢
  rw [List.mem_singleton.1 this]
theorem ryX_of {l : List Tm} {c : Nat} {i k : Nat} (h : clA l [(i : Int), (k : Int)] = [(c : Int)]) : ryX l [(i : Int), (k : Int)] = [(i : Int), (k : Int), (c : Int)] ++ enT l ((ceL l).getD c []) i k := by
  unfold ryX
  rw [h, show gd [(c : Int)] 0 = (c : Int) from rfl, show gd [(i : Int), (k : Int)] 0 = (i : Int) from rfl, show gd [(i : Int), (k : Int)] 1 = (k : Int) from rfl, Int.toNat_natCast, Int.toNat_natCast, Int.toNat_natCast]
  rfl
theorem ry_inc (l : List Tm) : Inc lxL (ryL l) := by
  unfold ryL Inc
  rw [List.pairwise_map]
  refine List.Pairwise.imp_of_mem ?_ (List.Pairwise.filter _ (edM2_inc l 1))
  intro a b ha hb hab
  obtain ⟨i, k, -, -, rfl⟩ := ea_pair (List.mem_filter.1 (List.mem_filter.1 ha).1).1
  obtain ⟨i', k', -, -, rfl⟩ := ea_pair (List.mem_filter.1 (List.mem_filter.1 hb).1).1
  unfold ryX
  rw [List.append_assoc, List.append_assoc]
  exact lxL_pre rfl hab

/-- The program's list: cell by cell the ends that are rays. -/
def rpX (c : Nat) (e : List Int) : List Int := e.take 2 ++ [(c : Int)] ++ e.drop 2
def rpP (l : List Tm) (e : List Int) : Bool := isRy l (e.take 2)
def rpT (l : List Tm) (c j : Nat) : List (List Int) := (((enL l ((ceL l).getD c [])).take j).filter (rpP l)).map (rpX c)
def rpL (l : List Tm) (c : Nat) : List (List Int) := ((enL l ((ceL l).getD c [])).filter (rpP l)).map (rpX c)
def rpA (l : List Tm) (n : Nat) : List (List Int) := (List.range n).flatMap (rpL l)
theorem rpT_zero (l : List Tm) (c : Nat) : rpT l c 0 = [] := by simp [rpT]
theorem rpT_next {l : List Tm} {c j : Nat} (hj : j < (enL l ((ceL l).getD c [])).length) {e : List Int} (he : (enL l ((ceL l).getD c []))[j] = e) : rpT l c (j + 1) = rpT l c j ++ if rpP l e = true then [rpX c e] else [] := by
  unfold rpT
  rw [List.take_add_one, List.getElem?_eq_getElem hj, he, List.filter_append, List.map_append]
  congr 1
  cases hq : rpP l e <;> simp [hq]
theorem rpT_end {l : List Tm} {c j : Nat} (h : (enL l ((ceL l).getD c [])).length ≤ j) : rpT l c j = rpL l c := by
  unfold rpT rpL
  rw [List.take_of_length_le h]
theorem rpA_zero (l : List Tm) : rpA l 0 = [] := by simp [rpA]
theorem rpA_next (l : List Tm) (n : Nat) : rpA l (n + 1) = rpA l n ++ rpL l n := by
  unfold rpA
  rw [List.range_succ, List.flatMap_append]
  simp
theorem rpL_mem {l : List Tm} (hl : plB l = true) {c : Nat} (hc : c < (ceL l).length) {z : List Int} : z ∈ rpL l c ↔ ∃ i k : Nat, [(i : Int), (k : Int)] ∈ sdL l ((ceL l).getD c []) ∧ isRy l [(i : Int), (k : Int)] = true ∧ z = ryX l [(i : Int), (k : Int)] := by
  have hx := ceL_at hc
  unfold rpL
  rw [List.mem_map]
  constructor
  · rintro ⟨e, he, rfl⟩
    obtain ⟨h1, h2⟩ := List.mem_filter.1 he
    obtain ⟨s, hs, rfl⟩ := List.mem_map.1 h1
    rw [setX_mem totLx] at hs
    obtain ⟨i, k, -, -, rfl, -⟩ := side_of hl hx hs
    unfold rpP at h2
    rw [enE_pair] at h2 ⊢
    have h3 : isRy l [(i : Int), (k : Int)] = true := h2
    refine ⟨i, k, hs, h3, ?_⟩
    rw [ryX_of (ry_cell hc hs h3)]
    rfl
  · rintro ⟨i, k, hs, h3, rfl⟩
    refine ⟨enE l ((ceL l).getD c []) [(i : Int), (k : Int)], List.mem_filter.2 ⟨List.mem_map.2 ⟨_, (setX_mem totLx _ _).2 hs, rfl⟩, ?_⟩, ?_⟩
    · unfold rpP
      rw [enE_pair]
      exact h3
    · rw [enE_pair, ryX_of (ry_cell hc hs h3)]
      rfl
theorem rp_mem {l : List Tm} (hl : plB l = true) (z : List Int) : z ∈ rpA l (ceL l).length ↔ z ∈ ryL l := by
  unfold rpA ryL
  rw [List.mem_flatMap, List.mem_map]
  constructor
  · rintro ⟨c, hc, hz⟩
    rw [List.mem_range] at hc
    obtain ⟨i, k, h1, h2, rfl⟩ := (rpL_mem hl hc).1 hz
    refine ⟨_, List.mem_filter.2 ⟨?_, h2⟩, rfl⟩
    rw [edM2_mem (by omega), ← clL_len l _ _ (Nat.le_refl _)]
    have := List.length_pos_of_mem (cl_has hc h1)
    exact this
  · rintro ⟨e, he, rfl⟩
    obtain ⟨h1, h2⟩ := List.mem_filter.1 he
    obtain ⟨i, k, -, -, rfl⟩ := ea_pair (List.mem_filter.1 h1).1
    obtain ⟨c, -, hc, hs⟩ := ry_one h2
    exact ⟨c, List.mem_range.2 hc, (rpL_mem hl hc).2 ⟨i, k, hs, h2, rfl⟩⟩
theorem rp_third {l : List Tm} (hl : plB l = true) {c : Nat} (hc : c < (ceL l).length) {z : List Int} (hz : z ∈ rpL l c) : gd z 2 = (c : Int) := by
  obtain ⟨i, k, h1, h2, rfl⟩ := (rpL_mem hl hc).1 hz
  rw [ryX_of (ry_cell hc h1 h2)]
  rfl
theorem rpL_nodup {l : List Tm} (hl : plB l = true) {c : Nat} (hc : c < (ceL l).length) : (rpL l c).Pairwise (· ≠ ·) := by
  have hx := ceL_at hc
  unfold rpL
  rw [List.pairwise_map]
  refine List.Pairwise.imp_of_mem ?_ (List.Pairwise.filter _ (enL_inc hl hx))
  intro a b ha hb hab e
  obtain ⟨s, hs, rfl⟩ := List.mem_map.1 (List.mem_filter.1 ha).1
  obtain ⟨t, ht, rfl⟩ := List.mem_map.1 (List.mem_filter.1 hb).1
  rw [setX_mem totLx] at hs ht
  obtain ⟨i, k, -, -, rfl, -⟩ := side_of hl hx hs
  obtain ⟨i', k', -, -, rfl, -⟩ := side_of hl hx ht
  rw [enE_pair, enE_pair] at e hab
  have e1 : [(i : Int), (k : Int), (c : Int)] ++ enT l ((ceL l).getD c []) i k = [(i' : Int), (k' : Int), (c : Int)] ++ enT l ((ceL l).getD c []) i' k' := e
  simp only [List.cons_append, List.nil_append, List.cons.injEq, true_and] at e1
  obtain ⟨q1, q2, q3⟩ := e1
  rw [q1, q2, q3, totLx.irr] at hab
  cases hab
theorem rp_nodup {l : List Tm} (hl : plB l = true) : (rpA l (ceL l).length).Pairwise (· ≠ ·) := by
  unfold rpA
  rw [List.pairwise_flatMap]
  refine ⟨fun c hc => rpL_nodup hl (List.mem_range.1 hc), ?_⟩
  refine List.Pairwise.imp_of_mem ?_ (List.pairwise_lt_range (n := (ceL l).length))
  intro a b ha hb hab x hx y hy e
  have h1 := rp_third hl (List.mem_range.1 ha) hx
  have h2 := rp_third hl (List.mem_range.1 hb) hy
  rw [e] at h1
  omega
/-- The program's list, sorted, is the model's. -/
theorem rp_sorted {l : List Tm} (hl : plB l = true) {P : VL} {L : VL} (hP : lls P = rpA l (ceL l).length) (hp : L.Perm P) (hs : L.Pairwise fun p q => lxL q.2 p.2 = false) : lls L = ryL l := by
  have hp2 : (lls L).Perm (rpA l (ceL l).length) := by rw [← hP]; exact hp.map _
  have hn : (lls L).Nodup := hp2.nodup_iff.2 (List.nodup_iff_pairwise_ne.2 (rp_nodup hl))
  refine inc_ext totLx ?_ (ry_inc l) fun e => ?_
  · have h1 : (lls L).Pairwise fun a b => lxL b a = false := by unfold lls; rw [List.pairwise_map]; exact hs
    have h2 := List.nodup_iff_pairwise_ne.1 hn
    refine (h1.and h2).imp fun {a b} h => ?_
    cases hab : lxL a b
    · exact absurd (totLx.tot hab h.1) h.2
    · rfl
  · rw [hp2.mem_iff, rp_mem hl]
theorem rpT_len {l : List Tm} (hl : plB l = true) {c : Nat} (hc : c < (ceL l).length) (j : Nat) : (rpT l c j).length ≤ 12 := by
  unfold rpT
  rw [List.length_map]
  have h1 := List.length_filter_le (rpP l) ((enL l ((ceL l).getD c [])).take j)
  have h2 := (enL_few hl (ceL_at hc)).1
  rw [List.length_take] at h1
  omega
theorem rpL_len {l : List Tm} (hl : plB l = true) {c : Nat} (hc : c < (ceL l).length) : (rpL l c).length ≤ 12 := by
  rw [← rpT_end (Nat.le_refl _)]
  exact rpT_len hl hc _
theorem rpA_len {l : List Tm} (hl : plB l = true) : ∀ n, n ≤ (ceL l).length → (rpA l n).length ≤ 12 * n
  | 0, _ => by rw [rpA_zero]; simp
  | n + 1, h => by
    have h1 := rpA_len hl n (by omega)
    have h2 := rpL_len hl (show n < (ceL l).length by omega)
    rw [rpA_next, List.length_append]
    omega
/-- An end of a cell: its five integers, its side. -/
theorem en_at {l : List Tm} (hl : plB l = true) {c : Nat} (hc : c < (ceL l).length) {e : List Int} (he : e ∈ enL l ((ceL l).getD c [])) : ∃ i k : Nat, i < 12 ∧ k < 12 ∧ e = [(i : Int), (k : Int)] ++ enT l ((ceL l).getD c []) i k := by
  obtain ⟨s, hs, rfl⟩ := List.mem_map.1 he
  rw [setX_mem totLx] at hs
  obtain ⟨i, k, h1, h2, rfl, -⟩ := side_of hl (ceL_at hc) hs
  have := (plB_le hl).2
  exact ⟨i, k, by omega, by omega, enE_pair l _ i k⟩
theorem few_ry {l : List Tm} {P : VL} (h : lls P = ryR l) : FewL P := by
  cases hq : plB l
  · rw [ryR_no hq] at h
    have : P = [] := List.map_eq_nil_iff.1 h
    subst this
    exact ⟨by simp, fun p hp => by simp at hp⟩
  · rw [ryR_yes hq] at h
    have h1 := ryT_len (plB_le hq).2 (edM2 l 1).length
    rw [ryT_end (Nat.le_refl _)] at h1
    refine ⟨by rw [← lls_len, h]; omega, fun p hp => ?_⟩
    have : p.2 ∈ lls P := List.mem_map.2 ⟨p, hp, rfl⟩
    rw [h] at this
    obtain ⟨e, he, hpe⟩ := List.mem_map.1 this
    obtain ⟨i, k, -, -, rfl⟩ := ea_pair (List.mem_filter.1 (List.mem_filter.1 he).1).1
    rw [← hpe]
    unfold ryX
    rw [List.length_append, List.length_append, enT_len]
    simp
/-- What an edge of the model's list tells. -/
theorem ry_edge {l : List Tm} {e : List Int} (he : e ∈ edM2 l 1) : ∃ i k : Nat, i < k ∧ k < l.length ∧ e = [(i : Int), (k : Int)] := by
  obtain ⟨i, k, h1, h2, rfl⟩ := ea_pair (List.mem_filter.1 he).1
  exact ⟨i, k, h1, h2, rfl⟩
end Go.Proofs.YtcfplfjllnojoaaGreat

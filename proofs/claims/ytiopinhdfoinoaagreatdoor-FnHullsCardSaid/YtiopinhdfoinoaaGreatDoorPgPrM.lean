/-
  Texts of lists of points, cut into pieces: plain mathematics.
-/
import Derived.Test.YtiopinhdfoinoaaGreatDoorPair
import Derived.Test.YtiopinhdfoinoaaGreatDoorPgTM
namespace Go.Proofs.YtiopinhdfoinoaaGreatDoor
set_option linter.unusedSimpArgs false
set_option linter.unusedVariables false
open Go.ChangeShapes Go.WideShapes Go.ChangeAt Go.RowKit

theorem pyx_noB (t : Pt) : noB 59 (pyx t) := by
  unfold pyx
  exact noB_app (noB_app (itoa_noB (by decide) _) (noB_one (by decide))) (itoa_noB (by decide) _)
theorem pyx_eq (t : Pt) : pyx t = Lib.itoa t.1 ++ 44 :: Lib.itoa t.2 := by unfold pyx; simp
/-- A point's text, as the program reads it. -/
def ppV (l : List UInt8) : Pt := (pnV (cuI l), pnV (cuJ l))
theorem pp_cut (t : Pt) : cuI (pyx t) = Lib.itoa t.1 ∧ cuJ (pyx t) = Lib.itoa t.2 := by
  unfold cuI cuJ
  rw [pyx_eq, cutB_at _ (itoa_noB (by decide) _)]
  exact ⟨rfl, rfl⟩
theorem pp_of {t : Pt} (h : ptG t = true) : cuOk (pyx t) = true ∧ ppV (pyx t) = t := by
  have h1 := (ptG_iff t).1 h
  obtain ⟨e1, e2⟩ := pp_cut t
  unfold cuOk ppV
  rw [e1, e2, (okI (n := t.1) (by omega)).1, (okI (n := t.2) (by omega)).1, (okI (n := t.1) (by omega)).2, (okI (n := t.2) (by omega)).2]
  exact ⟨rfl, rfl⟩
theorem pp_form {l : List UInt8} (h : cuOk l = true) (ht : ptG (ppV l) = true) : pyx (ppV l) = l := by
  have hb := (ptG_iff _).1 ht
  simp only [cuOk, Bool.and_eq_true] at h
  obtain ⟨a1, a2⟩ := h
  have e1 : Lib.itoa (pnV (cuI l)) = cuI l := by
    have := ok_text a1
    unfold numText at this
    rwa [if_neg (by simp only [ppV] at hb; omega)] at this
  have e2 : Lib.itoa (pnV (cuJ l)) = cuJ l := by
    have := ok_text a2
    unfold numText at this
    rwa [if_neg (by simp only [ppV] at hb; omega)] at this
  rw [pyx_eq]
  show Lib.itoa (pnV (cuI l)) ++ 44 :: Lib.itoa (pnV (cuJ l)) = l
  rw [e1, e2]
  rcases firstB 44 l with hn | ⟨a, r, hl, hn⟩
  · have : cuJ l = [] := by unfold cuJ; rw [cutB_none hn]
    rw [this, ok_ne] at a2; cases a2
  · have hI : cuI l = a := by unfold cuI; rw [hl, cutB_at r hn]
    have hJ : cuJ l = r := by unfold cuJ; rw [hl, cutB_at r hn]
    rw [hI, hJ, hl]
/-- What the model reads of a coordinate. -/
def cdV (l : List UInt8) : Int :=
  if 1 < l.length ∧ l.head? = some 45 ∧ 0 ≤ l1V l.tail then -(l1V l.tail) else if 0 ≤ l1V l then l1V l else 101
theorem dec_lead (u : Nat) : lead0 (Lib.decDigits u) = false := by
  unfold lead0
  by_cases h0 : u = 0
  · subst h0; rw [dec_one (by omega)]; rfl
  · cases hh : ((Lib.decDigits u).head? == some 48)
    · rfl
    · exact absurd (dec_head u (by simpa using hh)) h0
theorem l1V_small {u : Nat} (h : u < 1000000) : l1V (Lib.decDigits u) = u := by
  have hr := rd_dec u
  have hl : (Lib.decDigits u).length ≤ 6 := dec_len 5 u (by omega)
  have hz : lead0 (Lib.decDigits u) = false := dec_lead u
  have hp : 1 ≤ (Lib.decDigits u).length := by
    have := dec_ne u
    cases hh : Lib.decDigits u with
    | nil => exact absurd hh this
    | cons a r => simp
  unfold l1V
  rw [if_pos ⟨(inB_iff _ _ _).2 (by omega), hz⟩, hr]
theorem l1V_bd (l : List UInt8) : -1 ≤ l1V l ∧ l1V l ≤ 1000000000 := by
  unfold l1V
  split
  · rename_i h
    have h1 := (inB_iff _ _ _).1 h.1
    have h2 := rdFrom_bd l 0 (by omega)
    have h3 := pw_le (show l.length ≤ 9 by omega)
    rw [pw_9] at h3
    omega
  · omega
theorem rdFrom_minus (r : List UInt8) : l1V (45 :: r) = -1 := by
  unfold l1V
  split
  · exact rd_no (by decide)
  · rfl
theorem cdV_of {n : Int} (h : -100 ≤ n ∧ n ≤ 100) : cdV (Lib.itoa n) = n := by
  by_cases hn : n < 0
  · obtain ⟨u, hu⟩ : ∃ u : Nat, -n = u := ⟨n.natAbs, by omega⟩
    have h1 := Lib.itoa_neg u (by omega)
    rw [show -(u : Int) = n by omega] at h1
    have h2 := l1V_small (u := u) (by omega)
    have hp : 1 ≤ (Lib.decDigits u).length := by
      have := dec_ne u
      cases hh : Lib.decDigits u with
      | nil => exact absurd hh this
      | cons a r => simp
    rw [h1]
    unfold cdV
    rw [if_pos ⟨by simp; omega, rfl, by rw [List.tail_cons, h2]; omega⟩, List.tail_cons, h2]
    omega
  · obtain ⟨u, rfl⟩ : ∃ u : Nat, n = u := ⟨n.toNat, by omega⟩
    rw [Lib.itoa_nonneg u]
    have h2 := l1V_small (u := u) (by omega)
    unfold cdV
    rw [if_neg, if_pos (by rw [h2]; omega), h2]
    rintro ⟨-, h3, -⟩
    have hm : (45 : UInt8) ∈ Lib.decDigits u := by
      cases hh : Lib.decDigits u with
      | nil => rw [hh] at h3; cases h3
      | cons a r => rw [hh] at h3; simp at h3; simp [h3]
    exact dec_noB (b := 45) (by decide) u _ hm rfl
/-- The parts of a point's text, as the model cuts it. -/
def pdU (l : List UInt8) : List (List UInt8) := sp 44 [] l
def pqOk (l : List UInt8) : Bool := decide ((pdU l).length = 2)
def pqV (l : List UInt8) : Pt := (cdV ((pdU l).getD 0 []), cdV ((pdU l).getD 1 []))
theorem pq_of {t : Pt} (h : ptG t = true) : pqOk (pyx t) = true ∧ pqV (pyx t) = t := by
  have h1 := (ptG_iff t).1 h
  have eU : pdU (pyx t) = [Lib.itoa t.1, Lib.itoa t.2] := by
    unfold pdU
    rw [pyx_eq, spB_at (b := 44) (i := 44) rfl _ _ [] (itoa_noB (by decide) _), spB_none (b := 44) (i := 44) rfl _ [] (itoa_noB (by decide) _)]; rfl
  unfold pqOk pqV
  rw [eU]
  refine ⟨rfl, ?_⟩
  show (cdV (Lib.itoa t.1), cdV (Lib.itoa t.2)) = t
  rw [cdV_of (n := t.1) (by omega), cdV_of (n := t.2) (by omega)]
/-! ### A list's text -/
theorem pyA_eq (L : List Pt) : pyA L = (L.map pyx).flatMap (· ++ [59]) := by
  unfold pyA pyT
  rw [List.take_length, List.flatMap_map]
  rfl
def pypB (l : List UInt8) : Bool := pgB ((pcs l).map pqV) && decide (pyA ((pcs l).map pqV) = l)
def pypR (l : List UInt8) : List Pt := if pypB l = true then (pcs l).map pqV else []
theorem pypR_no {l : List UInt8} (h : pypB l = false) : pypR l = [] := if_neg (by simp [h])
theorem pyp_yes {l : List UInt8} (h : pypB l = true) : ∃ L, pgB L = true ∧ l = pyA L ∧ pypR l = L ∧ pieces9 l = L.map pyx ++ [[]] ∧ pcs l = L.map pyx := by
  have hR : pypR l = (pcs l).map pqV := if_pos h
  simp only [pypB, Bool.and_eq_true, decide_eq_true_eq] at h
  have h9 : pieces9 l = ((pcs l).map pqV).map pyx ++ [[]] := by
    have := spB_join (b := 59) (i := 59) rfl (((pcs l).map pqV).map pyx) fun p hp => by
      obtain ⟨t, -, rfl⟩ := List.mem_map.1 hp
      exact pyx_noB t
    rw [← pyA_eq, h.2] at this
    exact this
  exact ⟨_, h.1, h.2.symm, hR, h9, by unfold pcs at h9 ⊢; conv => lhs; rw [h9]; rw [List.dropLast_concat]⟩
theorem pyp_of {l : List UInt8} {L : List Pt} (h : pgB L = true) (hl : l = pyA L) : pypB l = true ∧ pypR l = L := by
  have h9 : pieces9 l = L.map pyx ++ [[]] := by
    rw [hl, pyA_eq]
    exact spB_join (b := 59) rfl _ fun p hp => by
      obtain ⟨t, -, rfl⟩ := List.mem_map.1 hp
      exact pyx_noB t
  have hp : (pcs l).map pqV = L := by
    unfold pcs
    rw [h9, List.dropLast_concat, List.map_map]
    conv => rhs; rw [← List.map_id L]
    exact List.map_congr_left fun t ht => (pq_of (((ptsB_iff L).1 ((pgB_iff L).1 h).1).2.2 t ht)).2
  have hb : pypB l = true := by
    unfold pypB; rw [hp, h, hl]; simp
  exact ⟨hb, by unfold pypR; rw [if_pos hb, hp]⟩
theorem pyp_no {l : List UInt8} (h : pypB l = true → False) : pypB l = false := by
  cases e : pypB l
  · rfl
  · exact (h e).elim
theorem pypR_le (l : List UInt8) : (pypR l).length ≤ 40 := by
  cases h : pypB l
  · rw [pypR_no h]; simp
  · obtain ⟨L, h1, -, h3, -, -⟩ := pyp_yes h
    rw [h3]; exact (pg_pts h1).2.1
/-- Too many pieces. -/
theorem pyp_long {l : List UInt8} (h : 41 < (pieces9 l).length) : pypB l = false := pyp_no fun hp => by
  obtain ⟨L, h1, -, -, h4, -⟩ := pyp_yes hp
  have := (pg_pts h1).2.1
  rw [h4] at h; simp at h; omega
/-- A piece that is no term's text. -/
theorem pyp_pq {l : List UInt8} {p : List UInt8} (hm : p ∈ pcs l) (h : pqOk p = false) : pypB l = false := pyp_no fun hp => by
  obtain ⟨L, h1, -, -, -, h5⟩ := pyp_yes hp
  rw [h5] at hm
  obtain ⟨t, ht, rfl⟩ := List.mem_map.1 hm
  rw [(pq_of (((ptsB_iff L).1 ((pgB_iff L).1 h1).1).2.2 t ht)).1] at h; cases h
theorem pyp_tc {l : List UInt8} {p : List UInt8} (hm : p ∈ pcs l) (h : cuOk p = false) : pypB l = false := pyp_no fun hp => by
  obtain ⟨L, h1, -, -, -, h5⟩ := pyp_yes hp
  rw [h5] at hm
  obtain ⟨t, ht, rfl⟩ := List.mem_map.1 hm
  rw [(pp_of (((ptsB_iff L).1 ((pgB_iff L).1 h1).1).2.2 t ht)).1] at h; cases h
/-- The pieces that the library makes. -/
def skP (l : List UInt8) : List (List UInt8) := skN 41 l
theorem skP_cases (l : List UInt8) : (∃ ps q, skP l = ps ++ [q] ∧ q ≠ [] ∧ pypB l = false) ∨ (∃ ps, skP l = ps ++ [[]] ∧ pcs l = ps ∧ l = ps.flatMap (· ++ [59]) ∧ ps.length ≤ 40) := by
  have hc := spB_count 59 l []
  rcases Nat.lt_or_ge (min 41 (l.length + 1) - 1 + 1) (sp 59 [] l).length with hm | hf
  · obtain ⟨ps, q, h1, h2⟩ := skB_many (b := 59) rfl _ l hm
    exact .inl ⟨ps, q, h1, h2, pyp_long (by unfold pieces9; omega)⟩
  · obtain ⟨ps, q, h1, h2⟩ := spB_back (b := 59) (i := 59) rfl l []
    have h3 : skP l = ps ++ [q] := (skB_few (b := 59) rfl _ l hf).trans h1
    rw [List.nil_append] at h2
    by_cases hq : q = []
    · subst hq
      refine .inr ⟨ps, h3, by unfold pcs pieces9; rw [h1, List.dropLast_concat], by rw [h2]; simp, ?_⟩
      rw [h1] at hf; simp at hf; omega
    · refine .inl ⟨ps, q, h3, hq, pyp_no fun hp => ?_⟩
      obtain ⟨L, -, -, -, h4, -⟩ := pyp_yes hp
      unfold pieces9 at h4
      rw [h1] at h4
      have := List.append_inj_right' h4 rfl
      simp at this
      exact hq this
/-- All pieces read: then the list that they give decides. -/
theorem pyp_end {l : List UInt8} {ps : List (List UInt8)} (h : pcs l = ps) (hl : l = ps.flatMap (· ++ [59])) (ho : ∀ p ∈ ps, cuOk p = true) : pypB l = pgB (ps.map ppV) ∧ (pgB (ps.map ppV) = true → pypR l = ps.map ppV) := by
  cases hb : pgB (ps.map ppV)
  · refine ⟨pyp_no fun hp => ?_, fun h => by cases h⟩
    obtain ⟨L, h1, -, -, -, h5⟩ := pyp_yes hp
    have : ps.map ppV = L := by
      rw [← h, h5, List.map_map]
      conv => rhs; rw [← List.map_id L]
      exact List.map_congr_left fun t ht => (pp_of (((ptsB_iff L).1 ((pgB_iff L).1 h1).1).2.2 t ht)).2
    rw [this, h1] at hb; cases hb
  · have e : l = pyA (ps.map ppV) := by
      rw [pyA_eq, List.map_map]
      conv => lhs; rw [hl]
      congr 1
      conv => lhs; rw [← List.map_id ps]
      exact List.map_congr_left fun p hp => (pp_form (ho p hp) (((ptsB_iff _).1 ((pgB_iff _).1 hb).1).2.2 _ (List.mem_map.2 ⟨p, hp, rfl⟩))).symm
    have := pyp_of hb e
    exact ⟨this.1, fun _ => this.2⟩
end Go.Proofs.YtiopinhdfoinoaaGreatDoor

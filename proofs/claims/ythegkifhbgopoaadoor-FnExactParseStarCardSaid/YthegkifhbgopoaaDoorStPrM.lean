/-
  Texts of stars, cut into pieces: plain mathematics.
-/
import Derived.Test.YthegkifhbgopoaaDoorSplit
import Derived.Test.YthegkifhbgopoaaDoorStT
import Derived.Test.YthegkifhbgopoaaDoorCutM
namespace Go.Proofs.YthegkifhbgopoaaDoor
set_option linter.unusedSimpArgs false
set_option linter.unusedVariables false
open Go.ChangeShapes Go.WideShapes Go.ChangeAt Go.RowKit

theorem tmx_noB (t : Tm) : noB 59 (tmx t) := by
  unfold tmx
  exact noB_app (noB_app (noB_app (noB_app (itoa_noB (by decide) _) (noB_one (by decide))) (itoa_noB (by decide) _)) (noB_one (by decide))) (itoa_noB (by decide) _)
theorem tmx_eq (t : Tm) : tmx t = Lib.itoa t.2.2 ++ 42 :: (Lib.itoa t.1 ++ 44 :: Lib.itoa t.2.1) := by unfold tmx; simp
/-- The parts of a term's text, as the program cuts it. -/
def tcC (l : List UInt8) : List UInt8 := (Lib.cut l [42]).1
def tcE (l : List UInt8) : List UInt8 := (Lib.cut l [42]).2.1
def tcI (l : List UInt8) : List UInt8 := (Lib.cut (tcE l) [44]).1
def tcJ (l : List UInt8) : List UInt8 := (Lib.cut (tcE l) [44]).2.1
def tcOk (l : List UInt8) : Bool := okPs (tcC l) && (okPs (tcI l) && okPs (tcJ l))
def tcV (l : List UInt8) : Tm := (pnV (tcI l), pnV (tcJ l), pnV (tcC l))
theorem tc_cut (t : Tm) : tcC (tmx t) = Lib.itoa t.2.2 ∧ tcI (tmx t) = Lib.itoa t.1 ∧ tcJ (tmx t) = Lib.itoa t.2.1 := by
  unfold tcI tcJ tcE tcC
  rw [tmx_eq, cutB_at _ (itoa_noB (by decide) _), cutB_at _ (itoa_noB (by decide) _)]
  exact ⟨rfl, rfl, rfl⟩
theorem tc_of {t : Tm} (h : ryT t = true) : tcOk (tmx t) = true ∧ tcV (tmx t) = t := by
  obtain ⟨h1, h2, h3, h4, -, h6, h7⟩ := ryT_parts h
  obtain ⟨e1, e2, e3⟩ := tc_cut t
  unfold tcOk tcV
  rw [e1, e2, e3, (okI (n := t.2.2) (by omega)).1, (okI (n := t.1) (by omega)).1, (okI (n := t.2.1) (by omega)).1, (okI (n := t.2.2) (by omega)).2, (okI (n := t.1) (by omega)).2, (okI (n := t.2.1) (by omega)).2]
  exact ⟨rfl, rfl⟩
theorem tc_form {l : List UInt8} (h : tcOk l = true) (ht : ryT (tcV l) = true) : tmx (tcV l) = l := by
  obtain ⟨h1, h2, h3, h4, -, h6, h7⟩ := ryT_parts ht
  simp only [tcOk, Bool.and_eq_true] at h
  obtain ⟨a1, a2, a3⟩ := h
  have e1 : Lib.itoa (pnV (tcC l)) = tcC l := by
    have := ok_text a1
    unfold numText at this
    rwa [if_neg (by simp only [tcV] at h7; omega)] at this
  have e2 : Lib.itoa (pnV (tcI l)) = tcI l := by
    have := ok_text a2
    unfold numText at this
    rwa [if_neg (by simp only [tcV] at h2; omega)] at this
  have e3 : Lib.itoa (pnV (tcJ l)) = tcJ l := by
    have := ok_text a3
    unfold numText at this
    rwa [if_neg (by simp only [tcV] at h4; omega)] at this
  rw [tmx_eq]
  show Lib.itoa (pnV (tcC l)) ++ 42 :: (Lib.itoa (pnV (tcI l)) ++ 44 :: Lib.itoa (pnV (tcJ l))) = l
  rw [e1, e2, e3]
  have hE : ∀ x, tcE l = x → noB 44 x → False := fun x hx hn => by
    have : tcJ l = [] := by unfold tcJ; rw [hx, cutB_none hn]
    rw [this, ok_ne] at a3; cases a3
  rcases firstB 42 l with hn | ⟨a, r, hl, hn⟩
  · exact absurd (show tcE l = [] by unfold tcE; rw [cutB_none hn]) fun e => hE _ e fun _ hc => by cases hc
  · have hC : tcC l = a := by unfold tcC; rw [hl, cutB_at r hn]
    have hR : tcE l = r := by unfold tcE; rw [hl, cutB_at r hn]
    rcases firstB 44 r with hn2 | ⟨a2', r2, hl2, hn2⟩
    · exact absurd hR fun e => hE _ e hn2
    · have hI : tcI l = a2' := by unfold tcI; rw [hR, hl2, cutB_at r2 hn2]
      have hJ : tcJ l = r2 := by unfold tcJ; rw [hR, hl2, cutB_at r2 hn2]
      rw [hC, hI, hJ, hl, hl2]
theorem dec_leadR (u : Nat) : lead0 (Lib.decDigits u) = false := by
  unfold lead0
  by_cases h0 : u = 0
  · subst h0; rw [dec_one (by omega)]; rfl
  · cases hh : ((Lib.decDigits u).head? == some 48)
    · rfl
    · exact absurd (dec_head u (by simpa using hh)) h0
theorem l1V_smallR {u : Nat} (h : u < 1000000) : l1V (Lib.decDigits u) = u := by
  have hr := rd_dec u
  have hl : (Lib.decDigits u).length ≤ 6 := dec_len 5 u (by omega)
  have hz : lead0 (Lib.decDigits u) = false := dec_leadR u
  have hp : 1 ≤ (Lib.decDigits u).length := by
    have := dec_ne u
    cases hh : Lib.decDigits u with
    | nil => exact absurd hh this
    | cons a r => simp
  unfold l1V
  rw [if_pos ⟨(inB_iff _ _ _).2 (by omega), hz⟩, hr]
/-- The parts of a ray's text, as the model cuts it. -/
def pcW (l : List UInt8) : List (List UInt8) := sp 42 [] l
def pcU (l : List UInt8) : List (List UInt8) := sp 44 [] ((pcW l).getD 1 [])
def pcOk (l : List UInt8) : Bool := decide ((pcW l).length = 2) && (decide ((pcU l).length = 2) && (okPs ((pcU l).getD 0 []) && okPs ((pcU l).getD 1 [])))
def pcV (l : List UInt8) : Tm := (pnV ((pcU l).getD 0 []), pnV ((pcU l).getD 1 []), l1V ((pcW l).getD 0 []))
theorem pc_of {t : Tm} (h : ryT t = true) : pcOk (tmx t) = true ∧ pcV (tmx t) = t := by
  obtain ⟨h1, h2, h3, h4, -, h6, h7⟩ := ryT_parts h
  have n1 : noB 42 (Lib.itoa t.1 ++ 44 :: Lib.itoa t.2.1) := noB_app (itoa_noB (by decide) _) (noB_app (noB_one (by decide)) (itoa_noB (by decide) _))
  have eW : pcW (tmx t) = [Lib.itoa t.2.2, Lib.itoa t.1 ++ 44 :: Lib.itoa t.2.1] := by
    unfold pcW
    rw [tmx_eq, spB_at (b := 42) (i := 42) rfl _ _ [] (itoa_noB (by decide) _), spB_none (b := 42) (i := 42) rfl _ [] n1]; rfl
  have eU : pcU (tmx t) = [Lib.itoa t.1, Lib.itoa t.2.1] := by
    unfold pcU
    rw [eW]
    show sp 44 [] (Lib.itoa t.1 ++ 44 :: Lib.itoa t.2.1) = _
    rw [spB_at (b := 44) (i := 44) rfl _ _ [] (itoa_noB (by decide) _), spB_none (b := 44) (i := 44) rfl _ [] (itoa_noB (by decide) _)]; rfl
  have hI : l1V (Lib.itoa t.2.2) = t.2.2 := by
    obtain ⟨u, hu⟩ : ∃ u : Nat, t.2.2 = u := ⟨t.2.2.toNat, by omega⟩
    rw [hu, Lib.itoa_nonneg u]; exact l1V_smallR (by omega)
  unfold pcOk pcV
  rw [eW, eU]
  refine ⟨?_, ?_⟩
  · show (decide (2 = 2) && (decide (2 = 2) && (okPs (Lib.itoa t.1) && okPs (Lib.itoa t.2.1)))) = true
    rw [(okI (n := t.1) (by omega)).1, (okI (n := t.2.1) (by omega)).1]; rfl
  · show (pnV (Lib.itoa t.1), pnV (Lib.itoa t.2.1), l1V (Lib.itoa t.2.2)) = t
    rw [hI, (okI (n := t.1) (by omega)).2, (okI (n := t.2.1) (by omega)).2]
/-! ### A star's text -/
def txA (L : List Tm) : List UInt8 := txT L L.length
theorem txA_eq (L : List Tm) : txA L = (L.map tmx).flatMap (· ++ [59]) := by
  unfold txA txT
  rw [List.take_length, List.flatMap_map]
  rfl
def plpB (l : List UInt8) : Bool := ryB ((pcs l).map pcV) && decide (txA ((pcs l).map pcV) = l)
def plpR (l : List UInt8) : List Tm := if plpB l = true then (pcs l).map pcV else []
theorem plpR_no {l : List UInt8} (h : plpB l = false) : plpR l = [] := if_neg (by simp [h])
theorem plp_yes {l : List UInt8} (h : plpB l = true) : ∃ L, ryB L = true ∧ l = txA L ∧ plpR l = L ∧ pieces9 l = L.map tmx ++ [[]] ∧ pcs l = L.map tmx := by
  have hR : plpR l = (pcs l).map pcV := if_pos h
  simp only [plpB, Bool.and_eq_true, decide_eq_true_eq] at h
  have h9 : pieces9 l = ((pcs l).map pcV).map tmx ++ [[]] := by
    have := spB_join (b := 59) (i := 59) rfl (((pcs l).map pcV).map tmx) fun p hp => by
      obtain ⟨t, -, rfl⟩ := List.mem_map.1 hp
      exact tmx_noB t
    rw [← txA_eq, h.2] at this
    exact this
  exact ⟨_, h.1, h.2.symm, hR, h9, by unfold pcs at h9 ⊢; conv => lhs; rw [h9]; rw [List.dropLast_concat]⟩
theorem plp_of {l : List UInt8} {L : List Tm} (h : ryB L = true) (hl : l = txA L) : plpB l = true ∧ plpR l = L := by
  have h9 : pieces9 l = L.map tmx ++ [[]] := by
    rw [hl, txA_eq]
    exact spB_join (b := 59) rfl _ fun p hp => by
      obtain ⟨t, -, rfl⟩ := List.mem_map.1 hp
      exact tmx_noB t
  have hp : (pcs l).map pcV = L := by
    unfold pcs
    rw [h9, List.dropLast_concat, List.map_map]
    conv => rhs; rw [← List.map_id L]
    exact List.map_congr_left fun t ht => (pc_of (((ryB_iff L).1 h).2.1 t ht)).2
  have hb : plpB l = true := by
    unfold plpB; rw [hp, h, hl]; simp
  exact ⟨hb, by unfold plpR; rw [if_pos hb, hp]⟩
theorem plp_no {l : List UInt8} (h : plpB l = true → False) : plpB l = false := by
  cases e : plpB l
  · rfl
  · exact (h e).elim
theorem plpR_le (l : List UInt8) : (plpR l).length ≤ 10 := by
  cases h : plpB l
  · rw [plpR_no h]; simp
  · obtain ⟨L, h1, -, h3, -, -⟩ := plp_yes h
    rw [h3]; exact ryB_le h1
/-- Too many pieces. -/
theorem plp_long {l : List UInt8} (h : 11 < (pieces9 l).length) : plpB l = false := plp_no fun hp => by
  obtain ⟨L, h1, -, -, h4, -⟩ := plp_yes hp
  have := ryB_le h1
  rw [h4] at h; simp at h; omega
/-- A piece that is no term's text. -/
theorem plp_pc {l : List UInt8} {p : List UInt8} (hm : p ∈ pcs l) (h : pcOk p = false) : plpB l = false := plp_no fun hp => by
  obtain ⟨L, h1, -, -, -, h5⟩ := plp_yes hp
  rw [h5] at hm
  obtain ⟨t, ht, rfl⟩ := List.mem_map.1 hm
  rw [(pc_of (((ryB_iff L).1 h1).2.1 t ht)).1] at h; cases h
theorem plp_tc {l : List UInt8} {p : List UInt8} (hm : p ∈ pcs l) (h : tcOk p = false) : plpB l = false := plp_no fun hp => by
  obtain ⟨L, h1, -, -, -, h5⟩ := plp_yes hp
  rw [h5] at hm
  obtain ⟨t, ht, rfl⟩ := List.mem_map.1 hm
  rw [(tc_of (((ryB_iff L).1 h1).2.1 t ht)).1] at h; cases h
/-- The pieces that the library makes. -/
def sk9 (l : List UInt8) : List (List UInt8) := skN 11 l
theorem sk9_cases (l : List UInt8) : (∃ ps q, sk9 l = ps ++ [q] ∧ q ≠ [] ∧ plpB l = false) ∨ (∃ ps, sk9 l = ps ++ [[]] ∧ pcs l = ps ∧ l = ps.flatMap (· ++ [59]) ∧ ps.length ≤ 10) := by
  have hc := spB_count 59 l []
  rcases Nat.lt_or_ge (min 11 (l.length + 1) - 1 + 1) (sp 59 [] l).length with hm | hf
  · obtain ⟨ps, q, h1, h2⟩ := skB_many (b := 59) rfl _ l hm
    exact .inl ⟨ps, q, h1, h2, plp_long (by unfold pieces9; omega)⟩
  · obtain ⟨ps, q, h1, h2⟩ := spB_back (b := 59) (i := 59) rfl l []
    have h3 : sk9 l = ps ++ [q] := (skB_few (b := 59) rfl _ l hf).trans h1
    rw [List.nil_append] at h2
    by_cases hq : q = []
    · subst hq
      refine .inr ⟨ps, h3, by unfold pcs pieces9; rw [h1, List.dropLast_concat], by rw [h2]; simp, ?_⟩
      rw [h1] at hf; simp at hf; omega
    · refine .inl ⟨ps, q, h3, hq, plp_no fun hp => ?_⟩
      obtain ⟨L, -, -, -, h4, -⟩ := plp_yes hp
      unfold pieces9 at h4
      rw [h1] at h4
      have := List.append_inj_right' h4 rfl
      simp at this
      exact hq this
/-- All pieces read: then the list that they give decides. -/
theorem plp_end {l : List UInt8} {ps : List (List UInt8)} (h : pcs l = ps) (hl : l = ps.flatMap (· ++ [59])) (ho : ∀ p ∈ ps, tcOk p = true) : plpB l = ryB (ps.map tcV) ∧ (ryB (ps.map tcV) = true → plpR l = ps.map tcV) := by
  cases hb : ryB (ps.map tcV)
  · refine ⟨plp_no fun hp => ?_, fun h => by cases h⟩
    obtain ⟨L, h1, -, -, -, h5⟩ := plp_yes hp
    have : ps.map tcV = L := by
      rw [← h, h5, List.map_map]
      conv => rhs; rw [← List.map_id L]
      exact List.map_congr_left fun t ht => (tc_of (((ryB_iff L).1 h1).2.1 t ht)).2
    rw [this, h1] at hb; cases hb
  · have e : l = txA (ps.map tcV) := by
      rw [txA_eq, List.map_map]
      conv => lhs; rw [hl]
      congr 1
      conv => lhs; rw [← List.map_id ps]
      exact List.map_congr_left fun p hp => (tc_form (ho p hp) (((ryB_iff _).1 hb).2.1 _ (List.mem_map.2 ⟨p, hp, rfl⟩))).symm
    have := plp_of hb e
    exact ⟨this.1, fun _ => this.2⟩
end Go.Proofs.YthegkifhbgopoaaDoor

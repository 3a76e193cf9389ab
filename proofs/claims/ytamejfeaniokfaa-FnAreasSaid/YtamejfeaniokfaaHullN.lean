/-
  Polygons, and which points they have: plain mathematics.
  No condition.
-/
import Derived.Test.YtamejfeaniokfaaHullM
namespace Go.Proofs.Ytamejfeaniokfaa
set_option linter.unusedSimpArgs false
set_option linter.unusedVariables false


/-! ### Polygons -/
theorem hul_mem {l : List Pt} (hl : l ≠ []) (q : Pt) : q ∈ hulL l ↔ q ∈ lowH l ∨ q ∈ uppH l := by
  have hne := srtP_ne hl
  have h1 := low_inv l
  have h2 := upp_inv l
  unfold hulL
  rw [List.mem_append]
  by_cases hq : q ∈ lowH l
  · simp [hq]
  simp only [hq, false_or]
  constructor
  · intro h
    exact List.mem_of_mem_tail (List.dropLast_subset _ h)
  · intro h
    have hx : Ext Bf trnN (srtP l) q := ((h2.mem q).1 h).2
    have hqs := ((h2.mem q).1 h).1
    have hq' : ¬ Ext Bf trn (srtP l) q := fun hx => hq (by unfold lowH; rw [List.mem_reverse]; exact (h1.mem q).2 ⟨hqs, hx⟩)
    obtain ⟨a, b, ha, hb, haq, hqb, -⟩ : ∃ a b, a ∈ srtP l ∧ b ∈ srtP l ∧ Bf a q ∧ Bf q b ∧ trn a q b ≤ 0 := by
      apply Classical.byContradiction
      intro h
      refine hq' fun a ha b hb h1 h2 => ?_
      apply Classical.byContradiction
      intro h3
      exact h ⟨a, b, ha, hb, h1, h2, by omega⟩
    match hk : uppH l, h2 with
    | [], _ => rw [hk] at h; simp at h
    | z :: t, h2 =>
      rw [hk] at h
      have hz : q ≠ z := fun e => by subst e; exact h2.top q t rfl b hb hqb
      have ht : q ∈ t := by
        rcases List.mem_cons.1 h with e | e
        · exact absurd e hz
        · exact e
      rw [List.tail_cons]
      obtain ⟨u, f, rfl⟩ : ∃ u f, t = u ++ [f] := ⟨_, _, (List.dropLast_concat_getLast (List.ne_nil_of_mem ht)).symm⟩
      rw [List.dropLast_concat]
      rcases List.mem_append.1 ht with e | e
      · exact e
      · obtain rfl := List.mem_singleton.1 e
        exfalso
        have nl : ∀ (X : List Pt), Nei Bf trnN (srtP l) (X ++ [q]) → ∀ a ∈ srtP l, ¬ Bf a q := by
          intro X
          induction X with
          | nil => exact fun h => h
          | cons x X ih =>
            intro h
            match X, ih, h with
            | [], ih, h => exact ih h.2
            | y :: X, ih, h => exact ih h.2
        exact nl (z :: u) h2.nei a ha haq
theorem low_head (l : List Pt) : (lowH l).head? = (srtP l).head? := by
  match hk : srtP l with
  | [] => unfold lowH; rw [hk]; rfl
  | f :: t =>
    have hi := low_inv l
    have hm : f ∈ stkH trn (srtP l) := (hi.mem f).2 ⟨by rw [hk]; simp, fun a ha b hb haf _ => by
      rw [hk] at ha
      have hp := srtP_pw l
      rw [hk] at hp
      rcases List.mem_cons.1 ha with rfl | ha
      · exact absurd haf geo_up.irr
      · exact absurd haf (geo_up.asym ((List.pairwise_cons.1 hp).1 a ha))⟩
    have hp := hi.pw
    unfold lowH
    rw [List.head?_reverse]
    obtain ⟨u, z, he⟩ : ∃ u z, stkH trn (srtP l) = u ++ [z] := ⟨_, _, (List.dropLast_concat_getLast (List.ne_nil_of_mem hm)).symm⟩
    rw [he] at hm hp ⊢
    simp only [List.getLast?_append, List.getLast?_singleton, Option.some_or, List.head?_cons, Option.some.injEq]
    rcases List.mem_append.1 hm with e | e
    · have hzf := (List.pairwise_append.1 hp).2.2 f e z (by simp)
      have hz : z ∈ srtP l := ((hi.mem z).1 (by rw [he]; simp)).1
      have hp := srtP_pw l
      rw [hk] at hz hp
      rcases List.mem_cons.1 hz with rfl | hz
      · rfl
      · exact absurd hzf (geo_up.asym ((List.pairwise_cons.1 hp).1 z hz))
    · exact (List.mem_singleton.1 e).symm
theorem upp_last (l : List Pt) : (uppH l).getLast? = (srtP l).head? := by
  match hk : srtP l with
  | [] => unfold uppH; rw [hk]; rfl
  | f :: t =>
    have hi := upp_inv l
    have hm : f ∈ uppH l := (hi.mem f).2 ⟨by rw [hk]; simp, fun a ha b hb haf _ => by
      rw [hk] at ha
      have hp := srtP_pw l
      rw [hk] at hp
      rcases List.mem_cons.1 ha with rfl | ha
      · exact absurd haf geo_up.irr
      · exact absurd haf (geo_up.asym ((List.pairwise_cons.1 hp).1 a ha))⟩
    have hp := hi.pw
    obtain ⟨u, z, he⟩ : ∃ u z, uppH l = u ++ [z] := ⟨_, _, (List.dropLast_concat_getLast (List.ne_nil_of_mem hm)).symm⟩
    rw [he] at hm hp ⊢
    simp only [List.getLast?_append, List.getLast?_singleton, Option.some_or, List.head?_cons, Option.some.injEq]
    rcases List.mem_append.1 hm with e | e
    · have hzf := (List.pairwise_append.1 hp).2.2 f e z (by simp)
      have hz : z ∈ srtP l := ((hi.mem z).1 (by rw [he]; simp)).1
      have hp := srtP_pw l
      rw [hk] at hz hp
      rcases List.mem_cons.1 hz with rfl | hz
      · rfl
      · exact absurd hzf (geo_up.asym ((List.pairwise_cons.1 hp).1 z hz))
    · exact (List.mem_singleton.1 e).symm
theorem low_up (l : List Pt) : (lowH l).getLast? = (uppH l).head? := by
  by_cases h : srtP l = []
  · unfold lowH uppH; rw [h]; rfl
  · unfold lowH uppH
    rw [List.getLast?_reverse, stk_head _ h, stk_head _ h]
/-- Around a hull: along the lower side and back along the upper one. -/
theorem around (P : Pt → Pt → Prop) {l : List Pt} {h : Pt} (h2 : 2 ≤ (srtP l).length) (hh : (hulL l).head? = some h) : All2 P (hulL l ++ [h]) ↔ All2 (fun j i => P i j) (stkH trn (srtP l)) ∧ All2 P (uppH l) := by
  have hl1 : 2 ≤ (stkH trn (srtP l)).length := inv_two geo_up (srtP_pw l) h2
  have hl2 : 2 ≤ (uppH l).length := inv_two geo_dn (srtP_pw l) h2
  have e1 := low_up l
  have e2 := upp_last l
  have e3 := low_head l
  have hne : lowH l ≠ [] := by intro h0; have : (lowH l).length = 0 := by rw [h0]; rfl
                               unfold lowH at this; rw [List.length_reverse] at this; omega
  have hh' : (lowH l).head? = some h := by
    unfold hulL at hh
    obtain ⟨x, u, hx⟩ := List.exists_cons_of_ne_nil hne
    rw [hx] at hh ⊢
    simpa using hh
  rw [e3] at hh'
  obtain ⟨X, z, hX⟩ : ∃ X z, lowH l = X ++ [z] := ⟨_, _, (List.dropLast_concat_getLast hne).symm⟩
  match hk : uppH l, hl2 with
  | z' :: y :: t, _ =>
    rw [hX, hk] at e1
    obtain rfl : z = z' := by simpa using e1
    obtain ⟨U, f, hU⟩ : ∃ U f, y :: t = U ++ [f] := ⟨_, _, (List.dropLast_concat_getLast (by simp)).symm⟩
    rw [hk, hU, hh', show z :: (U ++ [f]) = (z :: U) ++ [f] from rfl, List.getLast?_append] at e2
    obtain rfl : f = h := by simpa using e2
    unfold hulL
    rw [hk, hX, List.tail_cons, hU, List.dropLast_concat, List.append_assoc, List.append_assoc, ← List.append_assoc X, List.append_assoc X, List.singleton_append, all2_join, ← hX]
    unfold lowH
    rw [all2_rev]
def ptG (p : Pt) : Bool := decide (-100 ≤ p.1) && (decide (p.1 ≤ 100) && (decide (-100 ≤ p.2) && decide (p.2 ≤ 100)))
def ptsB (l : List Pt) : Bool := decide (1 ≤ l.length) && (decide (l.length ≤ 40) && l.all ptG)
def pgB (l : List Pt) : Bool := ptsB l && decide (hulL l = l)
theorem ptG_iff (p : Pt) : ptG p = true ↔ -100 ≤ p.1 ∧ p.1 ≤ 100 ∧ -100 ≤ p.2 ∧ p.2 ≤ 100 := by unfold ptG; simp
theorem ptsB_iff (l : List Pt) : ptsB l = true ↔ 1 ≤ l.length ∧ l.length ≤ 40 ∧ ∀ p ∈ l, ptG p = true := by unfold ptsB; simp
theorem pgB_iff (l : List Pt) : pgB l = true ↔ ptsB l = true ∧ hulL l = l := by unfold pgB; simp
/-- Is a point on the right side of a step, or on its line. -/
def sidB (a b p : Pt) : Bool := decide (0 ≤ trn a b p)
def hasB (l : List Pt) (p : Pt) : Bool :=
  if l.length = 1 then decide (l.getD 0 (0, 0) = p)
  else if l.length = 2 then decide (trn (l.getD 0 (0, 0)) (l.getD 1 (0, 0)) p = 0) && (decide ((p.1 - (l.getD 0 (0, 0)).1) * (p.1 - (l.getD 1 (0, 0)).1) ≤ 0) && decide ((p.2 - (l.getD 0 (0, 0)).2) * (p.2 - (l.getD 1 (0, 0)).2) ≤ 0))
  else decide (∀ i, i < l.length → 0 ≤ trn (l.getD i (0, 0)) (l.getD ((i + 1) % l.length) (0, 0)) p)
/-- No corner of a point and others. -/
def InH (l : List Pt) (p : Pt) : Prop := p ∈ l ∨ (¬ Ext Bf trn (srtP l) p ∧ ¬ Ext Bf trnN (srtP l) p)
theorem srtP_mem_snoc (l : List Pt) (p q : Pt) : q ∈ srtP (l ++ [p]) ↔ q = p ∨ q ∈ srtP l := by rw [srtP_snoc, insP_mem]
theorem inH_iff {l : List Pt} (hl : hulL l = l) (p : Pt) : hulL (l ++ [p]) = l ↔ InH l p := by
  constructor
  · intro h
    by_cases hp : p ∈ l
    · exact .inl hp
    · have hp' : ∀ q, q ∈ hulL (l ++ [p]) → q ≠ p := fun q hq e => by rw [h] at hq; rw [e] at hq; exact hp hq
      have lift : ∀ T, (G : Geo Bf T) → Ext Bf T (srtP l) p → Ext Bf T (srtP (l ++ [p])) p := by
        intro T G hx a ha b hb hap hpb
        rcases (srtP_mem_snoc l p a).1 ha with rfl | ha
        · exact absurd hap G.irr
        · rcases (srtP_mem_snoc l p b).1 hb with rfl | hb
          · exact absurd hpb G.irr
          · exact hx a ha b hb hap hpb
      have hm : p ∈ srtP (l ++ [p]) := (srtP_mem_snoc l p p).2 (.inl rfl)
      refine .inr ⟨fun hx => ?_, fun hx => ?_⟩
      · refine hp' p ((hul_mem (by simp) p).2 (.inl ?_)) rfl
        unfold lowH
        rw [List.mem_reverse]
        exact ((low_inv (l ++ [p])).mem p).2 ⟨hm, lift _ geo_up hx⟩
      · exact hp' p ((hul_mem (by simp) p).2 (.inr (((upp_inv (l ++ [p])).mem p).2 ⟨hm, lift _ geo_dn hx⟩))) rfl
  · rintro (hp | ⟨h1, h2⟩)
    · have : srtP (l ++ [p]) = srtP l := srtP_of (srtP_pw _) fun q => by
        rw [srtP_mem_snoc, srtP_mem]
        constructor
        · rintro (rfl | h)
          · exact hp
          · exact h
        · exact .inr
      have e : hulL (l ++ [p]) = hulL l := by unfold hulL lowH uppH; rw [this]
      rw [e, hl]
    · have e1 := stk_more geo3_up (srtP_mem_snoc l p) (srtP_pw l) (srtP_pw _) h1
      have e2 := stk_more geo3_dn (srtP_mem_snoc l p) (srtP_pw l) (srtP_pw _) h2
      have e : hulL (l ++ [p]) = hulL l := by unfold hulL lowH uppH; rw [e1, e2]
      rw [e, hl]
theorem srt_of_hul {l : List Pt} (hl : hulL l = l) : l.length ≤ 1 → ∀ p ∈ l, srtP l = [p] := by
  intro h p hp
  match l, h with
  | [a], _ => rw [List.mem_singleton.1 hp]; rfl
theorem hul_len1 {l : List Pt} (h : (srtP l).length = 1) : (hulL l).length = 1 := by
  obtain ⟨a, ha⟩ := List.length_eq_one_iff.1 h
  unfold hulL lowH uppH
  rw [ha]
  simp [stkH, popH]
/-- A hull with more than one corner comes of more than one point, and its sides go from one end to the other. -/
theorem hul_len2 {l : List Pt} (hl : hulL l = l) (h : 2 ≤ l.length) : 2 ≤ (srtP l).length := by
  apply Classical.byContradiction
  intro h'
  have h0 : (srtP l).length ≠ 0 := by
    intro h0
    have := srtP_ne (l := l) (by intro e; rw [e] at h; simp at h)
    exact this (List.length_eq_zero_iff.1 h0)
  have := hul_len1 (l := l) (by omega)
  rw [hl] at this; omega
theorem hul_two {l : List Pt} (hl : hulL l = l) (h : l.length = 2) : ∃ a b, l = [a, b] ∧ srtP l = [a, b] ∧ Bf a b := by
  have h2 := hul_len2 hl (by omega)
  have h3 := inv_two geo_up (srtP_pw l) h2
  have hlow : lowH l = l := by
    have e : (lowH l).length = (stkH trn (srtP l)).length := by unfold lowH; rw [List.length_reverse]
    have e2 : l = lowH l ++ (uppH l).tail.dropLast := hl.symm
    have e3 : l.length = (lowH l).length + (uppH l).tail.dropLast.length := by
      have := congrArg List.length e2; rwa [List.length_append] at this
    have e4 : (uppH l).tail.dropLast = [] := List.length_eq_zero_iff.1 (by omega)
    rw [e4, List.append_nil] at e2
    exact e2.symm
  match l, h with
  | [a, b], _ =>
    have hp : (lowH [a, b]).Pairwise Bf := by unfold lowH; exact List.pairwise_reverse.2 (low_inv [a, b]).pw
    rw [hlow] at hp
    exact ⟨a, b, rfl, (srtP_of hp fun q => Iff.rfl).symm, (List.pairwise_cons.1 hp).1 b (by simp)⟩
theorem sq_help {d e f g : Int} (h : e * f = g * d) (h0 : 0 < e) (h1 : e < d) : g * (g - f) ≤ 0 := by
  have e1 : d * d * (g * (g - f)) = e * (e - d) * (f * f) := by grind
  have h2 : e * (e - d) ≤ 0 := by
    have := Int.mul_nonneg (a := e) (b := d - e) (by omega) (by omega)
    have e2 : e * (e - d) = -(e * (d - e)) := by grind
    omega
  have h3 : 0 ≤ f * f := by
    rcases Int.le_total 0 f with h | h
    · exact Int.mul_nonneg h h
    · exact Int.mul_nonneg_of_nonpos_of_nonpos h h
  have h4 : e * (e - d) * (f * f) ≤ 0 := Int.mul_nonpos_of_nonpos_of_nonneg h2 h3
  apply Classical.byContradiction
  intro hc
  have : 0 < d * d * (g * (g - f)) := Int.mul_pos (Int.mul_pos (by omega) (by omega)) (by omega)
  omega
theorem between {x a b : Int} (h : a < b) : (x - a) * (x - b) ≤ 0 ↔ a ≤ x ∧ x ≤ b := by
  constructor
  · intro hc
    apply Classical.byContradiction
    intro hn
    have : 0 < (x - a) * (x - b) := by
      rcases Int.lt_or_le x a with h1 | h1
      · have := Int.mul_pos (a := a - x) (b := b - x) (by omega) (by omega)
        have e : (x - a) * (x - b) = (a - x) * (b - x) := by grind
        omega
      · exact Int.mul_pos (by omega) (by omega)
    omega
  · rintro ⟨h1, h2⟩
    have := Int.mul_nonneg (a := x - a) (b := b - x) (by omega) (by omega)
    have e : (x - a) * (x - b) = -((x - a) * (b - x)) := by grind
    omega
theorem sq_le {x : Int} (h : x * x ≤ 0) : x = 0 := by
  rcases Int.lt_trichotomy x 0 with h1 | h1 | h1
  · have := Int.mul_pos_of_neg_of_neg h1 h1; omega
  · exact h1
  · have := Int.mul_pos h1 h1; omega
/-- A point of a segment. -/
theorem has_two {a b p : Pt} (h : Bf a b) : (trn a b p = 0 ∧ (p.1 - a.1) * (p.1 - b.1) ≤ 0 ∧ (p.2 - a.2) * (p.2 - b.2) ≤ 0) ↔ p = a ∨ p = b ∨ (Bf a p ∧ Bf p b ∧ trn a p b = 0) := by
  obtain ⟨a1, a2⟩ := a
  obtain ⟨b1, b2⟩ := b
  obtain ⟨p1, p2⟩ := p
  unfold Bf trn at *
  simp only [Prod.mk.injEq] at *
  constructor
  · rintro ⟨h1, h2, h3⟩
    rcases h with h | ⟨rfl, h⟩
    · rw [between h] at h2
      by_cases e1 : p1 = a1
      · subst e1
        have : (b1 - p1) * (p2 - a2) = 0 := by grind
        rcases Int.mul_eq_zero.1 this with h0 | h0 <;> omega
      · by_cases e2 : p1 = b1
        · subst e2
          have : (p1 - a1) * (p2 - b2) = 0 := by grind
          rcases Int.mul_eq_zero.1 this with h0 | h0 <;> omega
        · exact .inr (.inr ⟨by omega, by omega, by grind⟩)
    · have := sq_le h2
      rw [between h] at h3
      have e : p1 = a1 := by omega
      subst e
      by_cases e1 : p2 = a2
      · exact .inl ⟨rfl, e1⟩
      · by_cases e2 : p2 = b2
        · exact .inr (.inl ⟨rfl, e2⟩)
        · exact .inr (.inr ⟨by omega, by omega, by grind⟩)
  · rintro (⟨rfl, rfl⟩ | ⟨rfl, rfl⟩ | ⟨h1, h2, h3⟩)
    · simp
    · simp; grind
    · refine ⟨by grind, ?_, ?_⟩
      · rcases h with h | ⟨rfl, h⟩
        · rw [between h]; omega
        · have : p1 = a1 := by omega
          subst this; simp
      · rcases h with h | ⟨rfl, h⟩
        · have e1 : p1 ≠ a1 := by
            rintro rfl
            have h4 : (p2 - a2) * (b1 - p1) = 0 := by grind
            rcases Int.mul_eq_zero.1 h4 with h0 | h0 <;> omega
          have e2 : p1 ≠ b1 := by
            rintro rfl
            have h4 : (p1 - a1) * (b2 - p2) = 0 := by grind
            rcases Int.mul_eq_zero.1 h4 with h0 | h0 <;> omega
          have := sq_help (d := b1 - a1) (e := p1 - a1) (f := b2 - a2) (g := p2 - a2) (by grind) (by omega) (by omega)
          have e3 : p2 - a2 - (b2 - a2) = p2 - b2 := by omega
          rwa [e3] at this
        · rw [between h]; omega
/-- The point before all others: one of both first steps has it on the wrong side. -/
theorem hul_first {l : List Pt} {p f x y : Pt} (hx : x ∈ srtP l) (hy : y ∈ srtP l) (hf : f ∈ srtP l) (hpf : Bf p f) (hfx : Bf f x) (hfy : Bf f y) (ex : Ext Bf trn (srtP l) x) (ey : Ext Bf trnN (srtP l) y)
    (hb : ∃ b ∈ srtP l, x = y → Bf x b) (h1 : 0 ≤ trn f x p) (h2 : 0 ≤ trnN f y p) : False := by
  have c1 := geo3_up.cyc p f x
  have c2 := geo3_up.cyc p f y
  rcases geo_up.tot x y with h | h | h
  · have e := ex f hf y hy hfx h
    have g := geo_up.four hpf hfx h
    unfold G4 TF at g; unfold trnN at h2; omega
  · obtain ⟨b, hb, hxb⟩ := hb
    have e1 := ex f hf b hb hfx (hxb h)
    subst h
    have e2 := ey f hf b hb hfx (hxb rfl)
    unfold trnN at e2; omega
  · have e := ey f hf x hx hfy h
    have g := geo_up.four hpf hfy h
    unfold G4 TF at g; unfold trnN at h2 e; omega
theorem hul_last {l : List Pt} {p z x y : Pt} (hx : x ∈ srtP l) (hy : y ∈ srtP l) (hz : z ∈ srtP l) (hzp : Bf z p) (hxz : Bf x z) (hyz : Bf y z) (ex : Ext Bf trn (srtP l) x) (ey : Ext Bf trnN (srtP l) y)
    (hb : ∃ b ∈ srtP l, x = y → Bf b x) (h1 : 0 ≤ trn x z p) (h2 : 0 ≤ trnN y z p) : False := by
  rcases geo_up.tot x y with h | h | h
  · have e := ey x hx z hz h hyz
    have g := geo_up.four h hyz hzp
    unfold G4 TF at g; unfold trnN at h2 e; omega
  · obtain ⟨b, hb, hxb⟩ := hb
    have e1 := ex b hb z hz (hxb h) hxz
    subst h
    have e2 := ey b hb z hz (hxb rfl) hxz
    unfold trnN at e2; omega
  · have e := ex y hy z hz h hxz
    have g := geo_up.four h hxz hzp
    unfold G4 TF at g; unfold trnN at h2; omega
theorem all2_last {P : Pt → Pt → Prop} (a b : Pt) : ∀ X : List Pt, All2 P (X ++ [a, b]) → P a b
  | [], h => h.1
  | [_], h => h.2.1
  | _ :: y :: X, h => all2_last a b (y :: X) h.2
/-- The points of a hull with three corners or more: on the right side of all steps. -/
theorem has_more {l : List Pt} (hl : hulL l = l) (h3 : 3 ≤ l.length) (p : Pt) : (Abo trn (stkH trn (srtP l)) p ∧ Abo trnN (uppH l) p) ↔ InH l p := by
  have h2 := hul_len2 hl (by omega)
  have i1 := low_inv l
  have i2 := upp_inv l
  constructor
  · rintro ⟨a1, a2⟩
    by_cases hp : p ∈ l
    · exact .inl hp
    refine .inr ?_
    have hps : p ∉ srtP l := fun h => hp ((srtP_mem l p).1 h)
    have n1 : p ∉ stkH trn (srtP l) := fun h => hps ((i1.mem p).1 h).1
    have n2 : p ∉ uppH l := fun h => hps ((i2.mem p).1 h).1
    have l1 := inv_two geo_up (srtP_pw l) h2
    have l2 : 2 ≤ (uppH l).length := inv_two geo_dn (srtP_pw l) h2
    have e1 : (stkH trn (srtP l)).head? = (srtP l).getLast? := stk_head _ (by intro h; rw [h] at h2; simp at h2)
    have e2 : (uppH l).head? = (srtP l).getLast? := stk_head _ (by intro h; rw [h] at h2; simp at h2)
    have e3 : (stkH trn (srtP l)).getLast? = (srtP l).head? := by
      have := low_head l; unfold lowH at this; rwa [List.head?_reverse] at this
    have e4 := upp_last l
    have hsum : l.length = (stkH trn (srtP l)).length + ((uppH l).length - 2) := by
      have := congrArg List.length hl
      unfold hulL lowH at this
      rw [List.length_append, List.length_reverse, List.length_dropLast, List.length_tail] at this
      omega
    match hk1 : stkH trn (srtP l), l1, hk2 : uppH l, l2 with
    | z :: x :: t, _, z' :: y :: u, _ =>
      rw [hk1] at e1 e3 n1 a1 hsum i1
      rw [hk2] at e2 e4 n2 a2 hsum i2
      have hz : z' = z := by
        have : (some z' : Option Pt) = some z := by rw [show some z' = (z' :: y :: u).head? from rfl, e2, ← e1]; rfl
        exact Option.some.inj this
      subst hz
      have mz := (i1.mem z').1 (by simp)
      have mx := (i1.mem x).1 (by simp)
      have my := (i2.mem y).1 (by simp)
      have hxz : Bf x z' := (List.pairwise_cons.1 i1.pw).1 x (by simp)
      have hyz : Bf y z' := (List.pairwise_cons.1 i2.pw).1 y (by simp)
      rcases geo_up.tot p z' with hpz | hpz | hpz
      · -- the last two
        obtain ⟨X, c, hX⟩ : ∃ X c, x :: t = X ++ [c] := ⟨_, _, (List.dropLast_concat_getLast (by simp)).symm⟩
        obtain ⟨Y, d, hY⟩ : ∃ Y d, y :: u = Y ++ [d] := ⟨_, _, (List.dropLast_concat_getLast (by simp)).symm⟩
        have e5 : z' :: x :: t = (z' :: X) ++ [c] := by rw [hX]; rfl
        have e6 : z' :: y :: u = (z' :: Y) ++ [d] := by rw [hY]; rfl
        rw [e5, List.getLast?_append] at e3
        rw [e6, List.getLast?_append] at e4
        have hcd : d = c := by
          have : (some d : Option Pt) = some c := by simpa using e4.trans e3.symm
          exact Option.some.inj this
        subst hcd
        have md := (i1.mem d).1 (by rw [e5]; simp)
        rcases geo_up.tot p d with hpd | hpd | hpd
        · exfalso
          obtain ⟨X', v, hX'⟩ : ∃ X' v, z' :: X = X' ++ [v] := ⟨_, _, (List.dropLast_concat_getLast (by simp)).symm⟩
          obtain ⟨Y', v', hY'⟩ : ∃ Y' v', z' :: Y = Y' ++ [v'] := ⟨_, _, (List.dropLast_concat_getLast (by simp)).symm⟩
          have f1 : z' :: x :: t = X' ++ [v, d] := by rw [e5, hX']; simp
          have f2 : z' :: y :: u = Y' ++ [v', d] := by rw [e6, hY']; simp
          have mv := (i1.mem v).1 (by rw [f1]; simp)
          have mv' := (i2.mem v').1 (by rw [f2]; simp)
          have p1 : Bf d v := by
            have := i1.pw; rw [f1] at this
            exact (List.pairwise_cons.1 (List.pairwise_append.1 this).2.1).1 d (by simp)
          have p2 : Bf d v' := by
            have := i2.pw; rw [f2] at this
            exact (List.pairwise_cons.1 (List.pairwise_append.1 this).2.1).1 d (by simp)
          have q1 : 0 ≤ trn d v p := by
            unfold Abo at a1
            rw [f1] at a1; exact all2_last (P := fun j i => 0 ≤ trn i j p) v d X' a1
          have q2 : 0 ≤ trnN d v' p := by
            unfold Abo at a2
            rw [f2] at a2; exact all2_last (P := fun j i => 0 ≤ trnN i j p) v' d Y' a2
          refine hul_first mv.1 mv'.1 md.1 hpd p1 p2 mv.2 mv'.2 ?_ q1 q2
          by_cases hv : v = v'
          · -- then one of both has more than two
            have : 0 < X'.length ∨ 0 < Y'.length := by
              have g1 := congrArg List.length f1
              have g2 := congrArg List.length f2
              simp only [List.length_append, List.length_cons, List.length_nil] at g1 g2 hsum
              omega
            rcases this with h | h
            · match X', h, f1 with
              | w :: X', _, f1 =>
                refine ⟨w, ((i1.mem w).1 (by rw [f1]; simp)).1, fun _ => ?_⟩
                have := i1.pw; rw [f1] at this
                exact (List.pairwise_append.1 this).2.2 w (by simp) v (by simp)
            · match Y', h, f2 with
              | w :: Y', _, f2 =>
                refine ⟨w, ((i2.mem w).1 (by rw [f2]; simp)).1, fun _ => ?_⟩
                have := i2.pw; rw [f2] at this
                rw [hv]
                exact (List.pairwise_append.1 this).2.2 w (by simp) v' (by simp)
          · exact ⟨z', mz.1, fun h => absurd h hv⟩
        · exact absurd (by rw [hpd, e5]; simp) n1
        · obtain ⟨i, j, hi, hj, r1, r2, r3⟩ := abo_in geo3_up a1 rfl hpz (d := d) (by rw [e5]; simp) hpd n1
          obtain ⟨i', j', hi', hj', r1', r2', r3'⟩ := abo_in geo3_dn a2 rfl hpz (d := d) (by rw [e6]; simp) hpd n2
          refine ⟨fun h => ?_, fun h => ?_⟩
          · have := h i ((i1.mem i).1 hi).1 j ((i1.mem j).1 hj).1 r1 r2; omega
          · have := h i' ((i2.mem i').1 hi').1 j' ((i2.mem j').1 hj').1 r1' r2'; omega
      · exact absurd (by rw [hpz]; simp) n1
      · exfalso
        refine hul_last mx.1 my.1 mz.1 hpz hxz hyz mx.2 my.2 ?_ a1.1 a2.1
        by_cases hv : x = y
        · have : 0 < t.length ∨ 0 < u.length := by
            simp only [List.length_cons] at hsum
            omega
          rcases this with h | h
          · match t, h with
            | w :: t, _ =>
              exact ⟨w, ((i1.mem w).1 (by simp)).1, fun _ => (List.pairwise_cons.1 (List.pairwise_cons.1 i1.pw).2).1 w (by simp)⟩
          · match u, h with
            | w :: u, _ =>
              refine ⟨w, ((i2.mem w).1 (by simp)).1, fun _ => ?_⟩
              rw [hv]
              exact (List.pairwise_cons.1 (List.pairwise_cons.1 i2.pw).2).1 w (by simp)
        · exact ⟨z', mz.1, fun h => absurd h hv⟩
  · have conv : ∀ p, p ∈ srtP l → Abo trn (stkH trn (srtP l)) p ∧ Abo trnN (uppH l) p := fun p hp => ⟨abo_mem geo3_up i1 hp, abo_mem geo3_dn i2 hp⟩
    rintro (hp | ⟨h1, h2⟩)
    · exact conv p ((srtP_mem l p).2 hp)
    · have e1 := stk_more geo3_up (srtP_mem_snoc l p) (srtP_pw l) (srtP_pw _) h1
      have e2 := stk_more geo3_dn (srtP_mem_snoc l p) (srtP_pw l) (srtP_pw _) h2
      have hm := (srtP_mem_snoc l p p).2 (.inl rfl)
      have j1 := abo_mem geo3_up (low_inv (l ++ [p])) hm
      have j2 := abo_mem geo3_dn (upp_inv (l ++ [p])) hm
      unfold uppH at j2 ⊢
      rw [e1] at j1
      rw [e2] at j2
      exact ⟨j1, j2⟩
theorem has_iff {l : List Pt} (hl : hulL l = l) (hne : l ≠ []) (p : Pt) : hasB l p = true ↔ InH l p := by
  have hlen : 0 < l.length := List.length_pos_iff.2 hne
  unfold hasB
  split
  · next h1 =>
    match l, h1 with
    | [a], _ =>
      rw [decide_eq_true_iff]
      show a = p ↔ _
      unfold InH
      constructor
      · rintro rfl; simp
      · rintro (h | ⟨h, -⟩)
        · exact (List.mem_singleton.1 h).symm
        · exfalso
          refine h fun x hx y hy hxp hpy => ?_
          rw [srtP_mem, List.mem_singleton] at hx hy
          subst hx; subst hy
          exact absurd hpy (geo_up.asym hxp)
  · split
    · next h1 h2 =>
      obtain ⟨a, b, rfl, hs, hab⟩ := hul_two hl h2
      have hw := has_two (p := p) hab
      simp only [List.getD_cons_zero, List.getD_cons_succ, ← Bool.decide_and]
      rw [decide_eq_true_iff, hw]
      unfold InH
      rw [hs]
      constructor
      · rintro (rfl | rfl | ⟨h3, h4, h5⟩)
        · simp
        · simp
        · refine .inr ⟨fun h => ?_, fun h => ?_⟩
          · have := h a (by simp) b (by simp) h3 h4; omega
          · have := h a (by simp) b (by simp) h3 h4; unfold trnN at this; omega
      · rintro (h | ⟨h3, h4⟩)
        · rcases List.mem_cons.1 h with rfl | h
          · exact .inl rfl
          · exact .inr (.inl (List.mem_singleton.1 h))
        · refine .inr (.inr ?_)
          have key : ∀ T, (G : Geo Bf T) → ¬ Ext Bf T [a, b] p → Bf a p ∧ Bf p b ∧ T a p b ≤ 0 := by
            intro T G h
            apply Classical.byContradiction
            intro hc
            refine h fun x hx y hy hxp hpy => ?_
            simp only [List.mem_cons, List.not_mem_nil, or_false] at hx hy
            rcases hx with rfl | rfl
            · rcases hy with rfl | rfl
              · exact absurd hpy (geo_up.asym hxp)
              · apply Classical.byContradiction
                intro h; exact hc ⟨hxp, hpy, by omega⟩
            · rcases hy with rfl | rfl
              · exact absurd hpy (geo_up.asym (geo_up.trans hab hxp))
              · exact absurd hpy (geo_up.asym hxp)
          have k1 := key _ geo_up h3
          have k2 := key _ geo_dn h4
          unfold trnN at k2
          exact ⟨k1.1, k1.2.1, by omega⟩
    · next h1 h2 =>
      rw [decide_eq_true_iff]
      rw [← has_more hl (by omega) p]
      obtain ⟨x, hx⟩ : ∃ x, l.head? = some x := by
        match l, hne with
        | x :: t, _ => exact ⟨x, rfl⟩
      have := around (fun a b => 0 ≤ trn a b p) (hul_len2 hl (by omega)) (by rw [hl]; exact hx)
      rw [hl] at this
      rw [all2_around (P := fun a b => 0 ≤ trn a b p) hx, this]
      unfold Abo
      have e : ∀ j i, trn j i p = trnN i j p := fun j i => by unfold trnN trn; grind
      simp only [e]
/-- HasPoint of both. -/
theorem has_eq {l : List Pt} (hl : hulL l = l) (hne : l ≠ []) (p : Pt) : hasB l p = decide (hulL (l ++ [p]) = l) := by
  rw [Bool.eq_iff_iff, has_iff hl hne, decide_eq_true_iff, inH_iff hl]
/-- Neighbours of a polygon differ, all around. -/
theorem nx_ne {l : List Pt} (hl : hulL l = l) (h2 : 2 ≤ l.length) (i : Nat) (hi : i < l.length) : l.getD i (0, 0) ≠ l.getD ((i + 1) % l.length) (0, 0) := by
  obtain ⟨x, hx⟩ : ∃ x, l.head? = some x := by
    match l, h2 with
    | x :: t, _ => exact ⟨x, rfl⟩
  have h := around (fun a b => a ≠ b) (hul_len2 hl h2) (by rw [hl]; exact hx)
  rw [hl, ← all2_around (P := fun a b => a ≠ b) hx] at h
  refine h.2 ⟨?_, ?_⟩ i hi
  · refine all2_pw ((low_inv l).pw.imp fun {a b} hab => ?_)
    rintro rfl; exact geo_up.irr hab
  · refine all2_pw ((upp_inv l).pw.imp fun {a b} hab => ?_)
    rintro rfl; exact geo_up.irr hab
end Go.Proofs.Ytamejfeaniokfaa
/-
  The hull of a hull, supporting paths, sums of polygons: plain mathematics.
  No condition.
-/
namespace Go.Proofs.Ytamejfeaniokfaa
set_option linter.unusedSimpArgs false
set_option linter.unusedVariables false


/-! ### The hull of a hull -/
theorem stk_bot {R : Pt → Pt → Prop} {T : Pt → Pt → Pt → Int} {s : List Pt} : ∀ S : List Pt, Nei R T s S → S ≠ [] → ∃ u d, S = u ++ [d] ∧ ∀ a ∈ s, ¬ R a d
  | [], _, h => absurd rfl h
  | [c], hn, _ => ⟨[], c, rfl, hn⟩
  | j :: i :: t, hn, _ => by
    obtain ⟨u, d, h1, h2⟩ := stk_bot (i :: t) hn.2 (by simp)
    exact ⟨j :: u, d, by rw [h1]; rfl, h2⟩
/-- A point that is no corner lies over a step. -/
theorem ext_not {R : Pt → Pt → Prop} {T : Pt → Pt → Pt → Int} (G : Geo3 R T) {s S : List Pt} (h : Inv R T s S) {q : Pt} (hq : q ∈ s) (he : ¬ Ext R T s q) : ∃ i j, i ∈ S ∧ j ∈ S ∧ R i q ∧ R q j ∧ T i q j ≤ 0 := by
  have hqS : q ∉ S := fun hm => he ((h.mem q).1 hm).2
  obtain ⟨a, b, ha, hb, haq, hqb⟩ : ∃ a b, a ∈ s ∧ b ∈ s ∧ R a q ∧ R q b := by
    apply Classical.byContradiction
    intro hc
    exact he fun a ha b hb h1 h2 => absurd ⟨a, b, ha, hb, h1, h2⟩ hc
  have hne : S ≠ [] := by
    intro h0
    have hn := h.nei
    rw [h0] at hn
    have : s = [] := hn
    rw [this] at hq; simp at hq
  obtain ⟨u, d, h1, h2⟩ := stk_bot S h.nei hne
  match S, h, hne with
  | c :: t, h, _ =>
    refine abo_in G (abo_mem G h hq) rfl (c := c) ?_ (d := d) (by rw [h1]; simp) ?_ hqS
    · have hc := h.top c t rfl b hb
      rcases G.tot b c with h3 | h3 | h3
      · exact G.trans hqb h3
      · rw [← h3]; exact hqb
      · exact absurd h3 hc
    · rcases G.tot a d with h3 | h3 | h3
      · exact absurd h3 (h2 a ha)
      · rw [← h3]; exact haq
      · exact G.trans h3 haq
theorem stk_sub {R : Pt → Pt → Prop} {T : Pt → Pt → Pt → Int} (G : Geo3 R T) {s s' : List Pt} (h : s.Pairwise R) (h' : s'.Pairwise R) (h1 : ∀ q ∈ s', q ∈ s) (h2 : ∀ q ∈ stkH T s, q ∈ s') : stkH T s' = stkH T s := by
  have i1 := stk_inv G.toGeo h
  have i2 := stk_inv G.toGeo h'
  refine same_of G.toGeo.flip i2.pw i1.pw fun q => ?_
  constructor
  · intro hq
    obtain ⟨m, e⟩ := (i2.mem q).1 hq
    refine (i1.mem q).2 ⟨h1 q m, ?_⟩
    apply Classical.byContradiction
    intro hc
    obtain ⟨i, j, hi, hj, r1, r2, r3⟩ := ext_not G i1 (h1 q m) hc
    have := e i (h2 i hi) j (h2 j hj) r1 r2
    omega
  · intro hq
    exact (i2.mem q).2 ⟨h2 q hq, fun a ha b hb => ((i1.mem q).1 hq).2 a (h1 a ha) b (h1 b hb)⟩
theorem hul_sub {l : List Pt} (hl : l ≠ []) {q : Pt} (h : q ∈ hulL l) : q ∈ l := by
  rcases (hul_mem hl q).1 h with h | h
  · unfold lowH at h; rw [List.mem_reverse] at h; exact (srtP_mem l q).1 (((low_inv l).mem q).1 h).1
  · exact (srtP_mem l q).1 (((upp_inv l).mem q).1 h).1
theorem hul_ne {l : List Pt} (hl : l ≠ []) : hulL l ≠ [] := by
  have h := stk_ne trn (srtP_ne hl)
  intro h0
  obtain ⟨c, hc⟩ := List.exists_mem_of_ne_nil _ h
  have : c ∈ hulL l := (hul_mem hl c).2 (.inl (by unfold lowH; rw [List.mem_reverse]; exact hc))
  rw [h0] at this; simp at this
theorem hul_idem {l : List Pt} (hl : l ≠ []) : hulL (hulL l) = hulL l := by
  have hs : ∀ q ∈ srtP (hulL l), q ∈ srtP l := fun q h => (srtP_mem l q).2 (hul_sub hl ((srtP_mem _ q).1 h))
  have e1 := stk_sub geo3_up (srtP_pw l) (srtP_pw (hulL l)) hs fun q hq => (srtP_mem _ q).2 ((hul_mem hl q).2 (.inl (by unfold lowH; rw [List.mem_reverse]; exact hq)))
  have e2 := stk_sub geo3_dn (srtP_pw l) (srtP_pw (hulL l)) hs fun q hq => (srtP_mem _ q).2 ((hul_mem hl q).2 (.inr hq))
  unfold hulL lowH uppH at e1 e2 ⊢
  rw [e1, e2]
theorem len_of_sub : ∀ {a b : List Pt}, a.Nodup → (∀ q ∈ a, q ∈ b) → a.length ≤ b.length
  | [], _, _, _ => by simp
  | x :: a, b, h, hs => by
    obtain ⟨h1, h2⟩ := List.nodup_cons.1 h
    have := len_of_sub (a := a) (b := b.erase x) h2 fun q hq => (List.mem_erase_of_ne (by rintro rfl; exact h1 hq)).2 (hs q (List.mem_cons_of_mem _ hq))
    have hx := hs x (by simp)
    rw [List.length_erase_of_mem hx] at this
    have := List.length_pos_of_mem hx
    simp; omega
theorem hul_nodup (l : List Pt) : (hulL l).Nodup := by
  have i1 := low_inv l
  have i2 := upp_inv l
  unfold hulL
  rw [List.nodup_append]
  have hpw : (lowH l).Pairwise Bf := by unfold lowH; exact List.pairwise_reverse.2 i1.pw
  refine ⟨hpw.imp fun {a b} h => by rintro rfl; exact geo_up.irr h, ?_, ?_⟩
  · have : (uppH l).Nodup := i2.pw.imp fun {a b} h => by rintro rfl; exact geo_up.irr h
    exact ((this.sublist (List.tail_sublist _)).sublist (List.dropLast_sublist _))
  · intro a ha b hb hab
    subst hab
    unfold lowH at ha
    rw [List.mem_reverse] at ha
    have e1 := ((i1.mem a).1 ha).2
    match hk : uppH l, i2 with
    | [], _ => rw [hk] at hb; simp at hb
    | z :: t, i2 =>
      rw [hk, List.tail_cons] at hb
      have hat : a ∈ t := List.dropLast_subset _ hb
      have hza : Bf a z := (List.pairwise_cons.1 i2.pw).1 a hat
      obtain ⟨u, d, hu⟩ : ∃ u d, t = u ++ [d] := ⟨_, _, (List.dropLast_concat_getLast (List.ne_nil_of_mem hat)).symm⟩
      rw [hu, List.dropLast_concat] at hb
      have hda : Bf d a := by
        have hp := (List.pairwise_cons.1 i2.pw).2
        rw [hu] at hp
        exact (List.pairwise_append.1 hp).2.2 a hb d (by simp)
      have md := ((i2.mem d).1 (by rw [hu]; simp)).1
      have mz := ((i2.mem z).1 (by simp)).1
      have e2 := ((i2.mem a).1 (List.mem_cons_of_mem _ hat)).2
      have x1 := e1 d md z mz hda hza
      have x2 := e2 d md z mz hda hza
      unfold trnN at x2; omega
theorem hul_le {l : List Pt} (hl : l ≠ []) : (hulL l).length ≤ l.length := len_of_sub (hul_nodup l) fun _ h => hul_sub hl h
/-- The hull of points is a polygon that has all of them. -/
theorem hul_pg {l : List Pt} (h : ptsB l = true) : pgB (hulL l) = true := by
  obtain ⟨h1, h2, h3⟩ := (ptsB_iff l).1 h
  have hl : l ≠ [] := by intro h0; rw [h0] at h1; simp at h1
  have := List.length_pos_iff.2 (hul_ne hl)
  have := hul_le hl
  exact (pgB_iff _).2 ⟨(ptsB_iff _).2 ⟨by omega, by omega, fun p hp => h3 p (hul_sub hl hp)⟩, hul_idem hl⟩
theorem hul_has {l : List Pt} (hl : l ≠ []) {p : Pt} (hp : p ∈ l) : hasB (hulL l) p = true := by
  rw [has_iff (hul_idem hl) (hul_ne hl)]
  by_cases hm : p ∈ hulL l
  · exact .inl hm
  · refine .inr ⟨fun he => ?_, fun he => ?_⟩
    · have hn : ¬ Ext Bf trn (srtP l) p := fun hx => hm ((hul_mem hl p).2 (.inl (by unfold lowH; rw [List.mem_reverse]; exact ((low_inv l).mem p).2 ⟨(srtP_mem l p).2 hp, hx⟩)))
      obtain ⟨i, j, hi, hj, r1, r2, r3⟩ := ext_not geo3_up (low_inv l) ((srtP_mem l p).2 hp) hn
      have := he i ((srtP_mem _ i).2 ((hul_mem hl i).2 (.inl (by unfold lowH; rw [List.mem_reverse]; exact hi)))) j ((srtP_mem _ j).2 ((hul_mem hl j).2 (.inl (by unfold lowH; rw [List.mem_reverse]; exact hj)))) r1 r2
      omega
    · have hn : ¬ Ext Bf trnN (srtP l) p := fun hx => hm ((hul_mem hl p).2 (.inr (((upp_inv l).mem p).2 ⟨(srtP_mem l p).2 hp, hx⟩)))
      obtain ⟨i, j, hi, hj, r1, r2, r3⟩ := ext_not geo3_dn (upp_inv l) ((srtP_mem l p).2 hp) hn
      have := he i ((srtP_mem _ i).2 ((hul_mem hl i).2 (.inr hi))) j ((srtP_mem _ j).2 ((hul_mem hl j).2 (.inr hj))) r1 r2
      omega

/-! ### Supporting paths -/
def wsum (f : Pt → Pt → Int) : List Pt → Int
  | a :: b :: t => f a b + wsum f (b :: t)
  | _ => 0
/-- A path of points of s that stays or goes on, with all of s on one side of each step. -/
def Sup (R : Pt → Pt → Prop) (T : Pt → Pt → Pt → Int) (s P : List Pt) : Prop := All2 (fun p q => p = q ∨ (R p q ∧ ∀ a ∈ s, 0 ≤ T p q a)) P ∧ ∀ p ∈ P, p ∈ s
section
variable {R : Pt → Pt → Prop} {T : Pt → Pt → Pt → Int} (G : Geo3 R T)
include G
theorem sup_cut {x p q a : Pt} (hxp : R x p) (hpq : R p q) (h0 : T x p q = 0) (h : 0 ≤ T x q a) : 0 ≤ T p q a := by
  have hxq := G.trans hxp hpq
  have c1 := G.cyc a p q
  have c2 := G.cyc a x q
  have c3 := G.swp p a q
  have c4 := G.swp x a q
  rcases G.tot a x with h1 | rfl | h1
  · have g := G.four h1 hxp hpq
    unfold G4 TF at g; omega
  · have := G.cyc p q a; have := G.cyc a p q; omega
  · rcases G.tot a p with h2 | rfl | h2
    · have g := G.four h1 h2 hpq
      unfold G4 TF at g; omega
    · have := G.cyc q a a; have := G.cyc a q a; have := G.two q a; omega
    · rcases G.tot a q with h3 | rfl | h3
      · have g := G.four hxp h2 h3
        unfold G4 TF at g; omega
      · have := G.two p a; omega
      · have g := G.four hxp hpq h3
        unfold G4 TF at g; omega
theorem sup_last : ∀ {P : List Pt} {s : List Pt} {x y : Pt}, Sup R T s (x :: P) → (x :: P).getLast? = some y → x = y ∨ R x y
  | [], s, x, y, _, h => .inl (by simpa using h)
  | p :: P, s, x, y, h, hl => by
    have ih := sup_last (P := P) (s := s) (x := p) (y := y) ⟨h.1.2, fun q hq => h.2 q (List.mem_cons_of_mem _ hq)⟩ (by simpa using hl)
    rcases h.1.1 with e | e
    · rw [e]; exact ih
    · rcases ih with e' | e'
      · rw [← e']; exact .inr e.1
      · exact .inr (G.trans e.1 e')
/-- Two such paths with the same ends have the same sum of what is added along a line. -/
theorem sup_uniq {f : Pt → Pt → Int} (h0 : ∀ x, f x x = 0) (hadd : ∀ x y z, T x y z = 0 → f x z = f x y + f y z) {s : List Pt} : ∀ (n : Nat) (P Q : List Pt) (x y : Pt), P.length + Q.length ≤ n → Sup R T s (x :: P) → Sup R T s (x :: Q) → (x :: P).getLast? = some y → (x :: Q).getLast? = some y → wsum f (x :: P) = wsum f (x :: Q)
  | n, [], [], _, _, _, _, _, _, _ => rfl
  | n, [], q :: Q, x, y, hn, hp, hq, h1, h2 => by
    match n, hn with
    | n + 1, hn =>
      have hxy : x = y := by simpa using h1
      have htl : Sup R T s (q :: Q) := ⟨hq.1.2, fun r hr => hq.2 r (List.mem_cons_of_mem _ hr)⟩
      have hql : (q :: Q).getLast? = some y := by simpa using h2
      rcases hq.1.1 with e | e
      · subst e
        have := sup_uniq h0 hadd n [] Q x y (by simp at hn ⊢; omega) hp htl h1 hql
        rw [this]
        simp [wsum, h0]
      · exfalso
        rcases sup_last G htl hql with e' | e'
        · rw [e', hxy] at e; exact G.irr e.1
        · rw [hxy] at e; exact G.asym e.1 e'
  | n, p :: P, [], x, y, hn, hp, hq, h1, h2 => by
    match n, hn with
    | n + 1, hn =>
      have hxy : x = y := by simpa using h2
      have htl : Sup R T s (p :: P) := ⟨hp.1.2, fun r hr => hp.2 r (List.mem_cons_of_mem _ hr)⟩
      have hpl : (p :: P).getLast? = some y := by simpa using h1
      rcases hp.1.1 with e | e
      · subst e
        have := sup_uniq h0 hadd n P [] x y (by simp at hn ⊢; omega) htl hq hpl h2
        rw [← this]
        simp [wsum, h0]
      · exfalso
        rcases sup_last G htl hpl with e' | e'
        · rw [e', hxy] at e; exact G.irr e.1
        · rw [hxy] at e; exact G.asym e.1 e'
  | n, p :: P, q :: Q, x, y, hn, hp, hq, h1, h2 => by
    match n, hn with
    | n + 1, hn =>
      have htp : Sup R T s (p :: P) := ⟨hp.1.2, fun r hr => hp.2 r (List.mem_cons_of_mem _ hr)⟩
      have htq : Sup R T s (q :: Q) := ⟨hq.1.2, fun r hr => hq.2 r (List.mem_cons_of_mem _ hr)⟩
      have hpl : (p :: P).getLast? = some y := by simpa using h1
      have hql : (q :: Q).getLast? = some y := by simpa using h2
      rcases hp.1.1 with e | ⟨e1, e2⟩
      · subst e
        have := sup_uniq h0 hadd n P (q :: Q) x y (by simp at hn ⊢; omega) htp hq hpl h2
        rw [← this]
        simp [wsum, h0]
      rcases hq.1.1 with e | ⟨e3, e4⟩
      · subst e
        have := sup_uniq h0 hadd n (p :: P) Q x y (by simp at hn ⊢; omega) hp htq h1 hql
        rw [this]
        simp [wsum, h0]
      have mp : p ∈ s := hp.2 p (by simp)
      have mq : q ∈ s := hq.2 q (by simp)
      have a1 := e2 q mq
      have a2 := e4 p mp
      have a3 := G.swp x p q
      have z1 : T x p q = 0 := by omega
      have z2 : T x q p = 0 := by omega
      rcases G.tot p q with h | h | h
      · have hq' : Sup R T s (p :: q :: Q) := ⟨⟨.inr ⟨h, fun a ha => sup_cut G e1 h z1 (e4 a ha)⟩, htq.1⟩, fun r hr => by
          rcases List.mem_cons.1 hr with rfl | hr
          · exact mp
          · exact htq.2 r hr⟩
        have := sup_uniq h0 hadd n P (q :: Q) p y (by simp at hn ⊢; omega) htp hq' hpl (by simpa using hql)
        simp only [wsum] at this ⊢
        rw [this, hadd x p q z1]; omega
      · subst h
        have := sup_uniq h0 hadd n P Q p y (by simp at hn ⊢; omega) htp htq hpl hql
        simp only [wsum, this]
      · have hp' : Sup R T s (q :: p :: P) := ⟨⟨.inr ⟨h, fun a ha => sup_cut G e3 h z2 (e2 a ha)⟩, htp.1⟩, fun r hr => by
          rcases List.mem_cons.1 hr with rfl | hr
          · exact mq
          · exact htp.2 r hr⟩
        have := sup_uniq h0 hadd n (p :: P) Q q y (by simp at hn ⊢; omega) hp' htq (by simpa using hpl) hql
        simp only [wsum] at this ⊢
        rw [← this, hadd x q p z2]; omega
theorem stk_sup {s S : List Pt} (h : Inv R T s S) : Sup R T s S.reverse := by
  refine ⟨(all2_rev S).2 ?_, fun p hp => ((h.mem p).1 (List.mem_reverse.1 hp)).1⟩
  have key : ∀ S : List Pt, (S.Pairwise fun a b => R b a) → (∀ a ∈ s, Abo T S a) → All2 (fun a b => b = a ∨ (R b a ∧ ∀ c ∈ s, 0 ≤ T b a c)) S := by
    intro S
    induction S with
    | nil => intro _ _; trivial
    | cons j t ih =>
      intro hp ha
      match t, ih, hp, ha with
      | [], _, _, _ => trivial
      | i :: t, ih, hp, ha =>
        exact ⟨.inr ⟨(List.pairwise_cons.1 hp).1 i (by simp), fun c hc => (ha c hc).1⟩, ih (List.pairwise_cons.1 hp).2 fun a hs => (ha a hs).2⟩
  exact key S h.pw fun a ha => abo_mem G h ha
end

/-! ### Sums of two polygons -/
def adP (a b : Pt) : Pt := (a.1 + b.1, a.2 + b.2)
def sumLP (a b : List Pt) : List Pt := a.flatMap fun p => b.map (adP p)
theorem sumL_mem (a b : List Pt) (q : Pt) : q ∈ sumLP a b ↔ ∃ x ∈ a, ∃ y ∈ b, q = adP x y := by
  unfold sumLP
  simp only [List.mem_flatMap, List.mem_map]
  constructor
  · rintro ⟨x, hx, y, hy, rfl⟩; exact ⟨x, hx, y, hy, rfl⟩
  · rintro ⟨x, hx, y, hy, rfl⟩; exact ⟨x, hx, y, hy, rfl⟩
def crP (p q : Pt) : Int := p.1 * q.2 - p.2 * q.1
def areaL (l : List Pt) : Int := match l with
  | [] => 0
  | h :: t => wsum crP (h :: t ++ [h])
theorem wsum_join {f : Pt → Pt → Int} (h : Pt) : ∀ (X t : List Pt), wsum f (X ++ h :: t) = wsum f (X ++ [h]) + wsum f (h :: t)
  | [], t => by simp [wsum]
  | [a], t => by simp [wsum]
  | a :: b :: X, t => by
    have := wsum_join (f := f) h (b :: X) t
    simp only [List.cons_append, wsum] at *
    omega
theorem wsum_rev {f : Pt → Pt → Int} (hf : ∀ a b, f b a = - f a b) : ∀ l : List Pt, wsum f l.reverse = - wsum f l
  | [] => by simp [wsum]
  | [a] => by simp [wsum]
  | a :: b :: t => by
    have ih := wsum_rev hf (b :: t)
    rw [List.reverse_cons, List.reverse_cons, List.append_assoc, List.singleton_append, wsum_join]
    rw [List.reverse_cons] at ih
    rw [ih]
    simp only [wsum]
    rw [hf a b]; omega
theorem crP_anti (a b : Pt) : crP b a = - crP a b := by unfold crP; grind
theorem crP_self (a : Pt) : crP a a = 0 := by unfold crP; grind
/-- The area of a hull by its two sides. -/
theorem area_sides {l : List Pt} (hl : hulL l = l) (hne : l ≠ []) : areaL l = wsum crP (lowH l) - wsum crP (uppH l).reverse := by
  have hrev : wsum crP (uppH l).reverse = - wsum crP (uppH l) := wsum_rev crP_anti _
  rw [hrev]
  by_cases h1 : l.length = 1
  · obtain ⟨a, rfl⟩ := List.length_eq_one_iff.1 h1
    unfold lowH uppH srtP stkH
    simp [insP, popH, wsum, areaL, crP_self]
  · have h2 : 2 ≤ l.length := by have := List.length_pos_iff.2 hne; omega
    have h3 := hul_len2 hl h2
    have hl1 : 2 ≤ (stkH trn (srtP l)).length := inv_two geo_up (srtP_pw l) h3
    have hl2 : 2 ≤ (uppH l).length := inv_two geo_dn (srtP_pw l) h3
    have e1 := low_up l
    have e2 := upp_last l
    have e3 := low_head l
    have hn : lowH l ≠ [] := by
      intro h0; have : (lowH l).length = 0 := by rw [h0]; rfl
      unfold lowH at this; rw [List.length_reverse] at this; omega
    obtain ⟨X, z, hX⟩ : ∃ X z, lowH l = X ++ [z] := ⟨_, _, (List.dropLast_concat_getLast hn).symm⟩
    match hk : uppH l, hl2 with
    | z' :: y :: t, _ =>
      rw [hX, hk] at e1
      obtain rfl : z = z' := by simpa using e1
      obtain ⟨U, f, hU⟩ : ∃ U f, y :: t = U ++ [f] := ⟨_, _, (List.dropLast_concat_getLast (by simp)).symm⟩
      have he : l = X ++ [z] ++ U := by
        have := hl.symm
        unfold hulL at this
        rw [hk, hX, List.tail_cons, hU, List.dropLast_concat] at this
        exact this
      have hhead : l.head? = some f := by
        have h4 : (lowH l).head? = l.head? := by
          rw [hX]
          conv => rhs; rw [he]
          cases X <;> simp
        rw [← h4, e3, ← e2, hk, hU, show z :: (U ++ [f]) = (z :: U) ++ [f] from rfl, List.getLast?_append]; simp
      have ha : areaL l = wsum crP (l ++ [f]) := by
        match l, hhead with
        | a :: t, hh => obtain rfl : a = f := by simpa using hh
                        rfl
      rw [ha]
      conv => lhs; rw [he]
      rw [hX, hU, show X ++ [z] ++ U ++ [f] = X ++ z :: (U ++ [f]) by simp, wsum_join]
      omega
/-- Directions on one line: the same side. -/
theorem fw_par {u v y : Pt} (hu : Fw u) (hv : Fw v) (h : cr u v = 0) (hy : 0 ≤ cr u y) : 0 ≤ cr v y := by
  unfold Fw cr at *
  rcases hu with h1 | ⟨h1, h2⟩
  · have hv1 : 0 < v.1 := by
      rcases hv with h3 | ⟨h3, h4⟩
      · exact h3
      · rw [h3] at h
        have : u.1 * v.2 = 0 := by omega
        rcases Int.mul_eq_zero.1 this with h0 | h0 <;> omega
    have e : u.1 * (v.1 * y.2 - v.2 * y.1) = v.1 * (u.1 * y.2 - u.2 * y.1) := by grind
    have := Int.mul_nonneg (Int.le_of_lt hv1) hy
    rw [← e] at this
    exact Int.nonneg_of_mul_nonneg_right this h1
  · rw [h1] at h
    have hv1 : v.1 = 0 := by
      have : u.2 * v.1 = 0 := by omega
      rcases Int.mul_eq_zero.1 this with h0 | h0 <;> omega
    have hv2 : 0 < v.2 := by omega
    have e : u.2 * (v.1 * y.2 - v.2 * y.1) = v.2 * (u.1 * y.2 - u.2 * y.1) := by rw [h1, hv1]; grind
    have := Int.mul_nonneg (Int.le_of_lt hv2) hy
    rw [← e] at this
    exact Int.nonneg_of_mul_nonneg_right this h2

/-! ### The area of a sum -/
/-- A turn of one kind: those of the lower side (1) or of the upper one (-1). -/
structure Kind (s : Int) (T : Pt → Pt → Pt → Int) : Prop extends Geo3 Bf T where
  sg : s = 1 ∨ s = -1
  eq : ∀ a b c, T a b c = s * trn a b c
theorem kind_up : Kind 1 trn := { geo3_up with
  sg := .inl rfl
  eq := fun a b c => by omega }
theorem kind_dn : Kind (-1) trnN := { geo3_dn with
  sg := .inr rfl
  eq := fun a b c => by unfold trnN; omega }
theorem trn_cr (a b c : Pt) : trn a b c = cr (b.1 - a.1, b.2 - a.2) (c.1 - a.1, c.2 - a.2) := by unfold trn cr; grind
def dfP (a b : Pt) : Pt := (b.1 - a.1, b.2 - a.2)
/-- How a path of sums comes apart. -/
structure Split (T : Pt → Pt → Pt → Int) (A B : List Pt) (H PA PB : List Pt) : Prop where
  la : PA.length = H.length
  lb : PB.length = H.length
  ma : ∀ p ∈ PA, p ∈ A
  mb : ∀ p ∈ PB, p ∈ B
  ad : ∀ i, i < H.length → H.getD i (0, 0) = adP (PA.getD i (0, 0)) (PB.getD i (0, 0))
theorem split_ex (T : Pt → Pt → Pt → Int) {A B : List Pt} : ∀ H : List Pt, (∀ h ∈ H, h ∈ sumLP A B) → ∃ PA PB, Split T A B H PA PB
  | [], _ => ⟨[], [], rfl, rfl, by simp, by simp, by simp⟩
  | h :: H, hm => by
    obtain ⟨PA, PB, s⟩ := split_ex T H fun x hx => hm x (List.mem_cons_of_mem _ hx)
    obtain ⟨x, hx, y, hy, he⟩ := (sumL_mem A B h).1 (hm h (by simp))
    refine ⟨x :: PA, y :: PB, by simp [s.la], by simp [s.lb], ?_, ?_, ?_⟩
    · intro p hp
      rcases List.mem_cons.1 hp with rfl | hp
      · exact hx
      · exact s.ma p hp
    · intro p hp
      rcases List.mem_cons.1 hp with rfl | hp
      · exact hy
      · exact s.mb p hp
    · intro i hi
      match i with
      | 0 => simpa using he
      | i + 1 => simpa using s.ad i (by simpa using hi)
section
variable {s : Int} {T : Pt → Pt → Pt → Int} (K : Kind s T)
include K
/-- One step of the sum's side: both parts stay or go on in its direction, and all points are on one side. -/
theorem step_part {A B : List Pt} {h a b h' a' b' : Pt} (ha : a ∈ A) (hb : b ∈ B) (ha' : a' ∈ A) (hb' : b' ∈ B) (eh : h = adP a b) (eh' : h' = adP a' b') (hh : Bf h h')
    (he : Ext Bf T (srtP (sumLP A B)) h) (hm' : h' ∈ srtP (sumLP A B)) (hs : ∀ p ∈ srtP (sumLP A B), 0 ≤ T h h' p) :
    (a = a' ∨ (Bf a a' ∧ ∀ x ∈ A, 0 ≤ T a a' x)) ∧ cr (dfP a a') (dfP b b') = 0 ∧ (∀ x ∈ A, b = b' ∨ 0 ≤ s * cr (dfP b b') (dfP a x)) := by
  have sm : ∀ x ∈ A, ∀ y ∈ B, adP x y ∈ srtP (sumLP A B) := fun x hx y hy => (srtP_mem _ _).2 ((sumL_mem _ _ _).2 ⟨x, hx, y, hy, rfl⟩)
  have hu : Fw (dfP h h') := bf_fw hh
  -- all of A beside the step
  have sideA : ∀ x ∈ A, 0 ≤ s * cr (dfP h h') (dfP a x) := fun x hx => by
    have := hs _ (sm x hx b hb)
    rw [K.eq] at this
    have e : trn h h' (adP x b) = cr (dfP h h') (dfP a x) := by rw [eh]; unfold trn cr dfP adP; grind
    rwa [e] at this
  have sideA' : 0 ≤ s * cr (dfP h h') (dfP a' a) := by
    have := hs _ (sm a ha b' hb')
    rw [K.eq] at this
    have e : trn h h' (adP a b') = cr (dfP h h') (dfP a' a) := by rw [eh']; unfold trn cr dfP adP; grind
    rwa [e] at this
  have sideB : 0 ≤ s * cr (dfP h h') (dfP b b') := by
    have := hs _ (sm a ha b' hb')
    rw [K.eq] at this
    have e : trn h h' (adP a b') = cr (dfP h h') (dfP b b') := by rw [eh]; unfold trn cr dfP adP; grind
    rwa [e] at this
  have sideB' : 0 ≤ s * cr (dfP h h') (dfP b' b) := by
    have := hs _ (sm a' ha' b hb)
    rw [K.eq] at this
    have e : trn h h' (adP a' b) = cr (dfP h h') (dfP b' b) := by rw [eh']; unfold trn cr dfP adP; grind
    rwa [e] at this
  have pA : cr (dfP h h') (dfP a a') = 0 := by
    have h1 := sideA a' ha'
    have e : cr (dfP h h') (dfP a' a) = - cr (dfP h h') (dfP a a') := by unfold cr dfP; grind
    rw [e] at sideA'
    rcases K.sg with r | r <;> rw [r] at h1 sideA' <;> omega
  have pB : cr (dfP h h') (dfP b b') = 0 := by
    have e : cr (dfP h h') (dfP b' b) = - cr (dfP h h') (dfP b b') := by unfold cr dfP; grind
    rw [e] at sideB'
    rcases K.sg with r | r <;> rw [r] at sideB sideB' <;> omega
  -- a part never goes back: the sum would not be a corner
  have nA : ¬ Bf a' a := by
    intro hlt
    have hq : Bf (adP a' b) h := by rw [eh]; unfold Bf adP at *; simp only; omega
    have := he _ (sm a' ha' b hb) h' hm' hq hh
    rw [K.eq] at this
    have e : trn (adP a' b) h h' = cr (dfP h h') (dfP a a') * (-1) * (-1) := by rw [eh]; unfold trn cr dfP adP; grind
    rw [e, pA] at this
    omega
  have nB : ¬ Bf b' b := by
    intro hlt
    have hq : Bf (adP a b') h := by rw [eh]; unfold Bf adP at *; simp only; omega
    have := he _ (sm a ha b' hb') h' hm' hq hh
    rw [K.eq] at this
    have e : trn (adP a b') h h' = cr (dfP h h') (dfP b b') * (-1) * (-1) := by rw [eh]; unfold trn cr dfP adP; grind
    rw [e, pB] at this
    omega
  refine ⟨?_, ?_, fun x hx => ?_⟩
  · rcases K.tot a a' with r | r | r
    · refine .inr ⟨r, fun x hx => ?_⟩
      rw [K.eq, trn_cr]
      have h1 := sideA x hx
      have h2 := bf_fw r
      rcases K.sg with q | q
      · rw [q] at h1 ⊢
        have := fw_par hu h2 (y := dfP a x) pA (by omega)
        unfold dfP at this; omega
      · rw [q] at h1 ⊢
        have := fw_par hu h2 (y := dfP x a) pA (by
          have e : cr (dfP h h') (dfP x a) = - cr (dfP h h') (dfP a x) := by unfold cr dfP; grind
          omega)
        have e : cr (dfP a a') (dfP x a) = - cr (dfP a a') (dfP a x) := by unfold cr dfP; grind
        unfold dfP at this e; omega
    · exact .inl r
    · exact absurd r nA
  · rcases K.tot a a' with r | r | r
    · have h2 := bf_fw r
      have g1 := fw_par hu h2 (y := dfP b b') pA (by omega)
      have g2 := fw_par hu h2 (y := dfP b' b) pA (by
        have e : cr (dfP h h') (dfP b' b) = - cr (dfP h h') (dfP b b') := by unfold cr dfP; grind
        omega)
      have e : cr (dfP a a') (dfP b' b) = - cr (dfP a a') (dfP b b') := by unfold cr dfP; grind
      unfold dfP at *; omega
    · rw [r]; unfold cr dfP; grind
    · exact absurd r nA
  · rcases K.tot b b' with r | r | r
    · refine .inr ?_
      have h1 := sideA x hx
      have h2 := bf_fw r
      rcases K.sg with q | q
      · rw [q] at h1 ⊢
        have := fw_par hu h2 (y := dfP a x) pB (by omega)
        unfold dfP at *; omega
      · rw [q] at h1 ⊢
        have := fw_par hu h2 (y := dfP x a) pB (by
          have e : cr (dfP h h') (dfP x a) = - cr (dfP h h') (dfP a x) := by unfold cr dfP; grind
          omega)
        have e : cr (dfP b b') (dfP x a) = - cr (dfP b b') (dfP a x) := by unfold cr dfP; grind
        unfold dfP at *; omega
    · exact .inl r
    · exact absurd r nB
end
end Go.Proofs.Ytamejfeaniokfaa

/-
  Areas of sums of polygons: plain mathematics.
  No condition.
-/
import Derived.Test.YtamejfeaniokfaaHullN
namespace Go.Proofs.Ytamejfeaniokfaa
set_option linter.unusedSimpArgs false
set_option linter.unusedVariables false

theorem low_idem {l : List Pt} (hl : l ≠ []) : lowH (hulL l) = lowH l ∧ uppH (hulL l) = uppH l := by
  have hs : ∀ q ∈ srtP (hulL l), q ∈ srtP l := fun q h => (srtP_mem l q).2 (hul_sub hl ((srtP_mem _ q).1 h))
  have e1 := stk_sub geo3_up (srtP_pw l) (srtP_pw (hulL l)) hs fun q hq => (srtP_mem _ q).2 ((hul_mem hl q).2 (.inl (by unfold lowH; rw [List.mem_reverse]; exact hq)))
  have e2 := stk_sub geo3_dn (srtP_pw l) (srtP_pw (hulL l)) hs fun q hq => (srtP_mem _ q).2 ((hul_mem hl q).2 (.inr hq))
  exact ⟨by unfold lowH; rw [e1], by unfold uppH; exact e2⟩
/-- A point of the sum with its two parts. -/
abbrev Pr := Pt × Pt
def adR (x : Pr) : Pt := adP x.1 x.2
theorem split_pr {A B : List Pt} : ∀ H : List Pt, (∀ h ∈ H, h ∈ sumLP A B) → ∃ L : List Pr, H = L.map adR ∧ ∀ x ∈ L, x.1 ∈ A ∧ x.2 ∈ B
  | [], _ => ⟨[], rfl, by simp⟩
  | h :: H, hm => by
    obtain ⟨L, e, s⟩ := split_pr H fun x hx => hm x (List.mem_cons_of_mem _ hx)
    obtain ⟨x, hx, y, hy, he⟩ := (sumL_mem A B h).1 (hm h (by simp))
    refine ⟨(x, y) :: L, by rw [List.map_cons, ← e, he]; rfl, ?_⟩
    intro z hz
    rcases List.mem_cons.1 hz with rfl | hz
    · exact ⟨hx, hy⟩
    · exact s z hz
def eP (x : Pr) : Int := crP x.1 x.2
/-- What is mixed along a path. -/
def mixS : List Pr → Int
  | x :: y :: t => crP x.1 (dfP x.2 y.2) + mixS (y :: t)
  | _ => 0
def StpR (T : Pt → Pt → Pt → Int) (A : List Pt) (p q : Pt) : Prop := p = q ∨ (Bf p q ∧ ∀ c ∈ A, 0 ≤ T p q c)
def PathR (s : Int) (T : Pt → Pt → Pt → Int) (A B : List Pt) : List Pr → Prop
  | x :: y :: t => (StpR T A x.1 y.1 ∧ StpR T B x.2 y.2 ∧ cr (dfP x.1 y.1) (dfP x.2 y.2) = 0 ∧ ∀ c ∈ A, x.2 = y.2 ∨ 0 ≤ s * cr (dfP x.2 y.2) (dfP x.1 c)) ∧ PathR s T A B (y :: t)
  | _ => True
theorem sum_swap {A B : List Pt} (q : Pt) : q ∈ sumLP B A ↔ q ∈ sumLP A B := by
  rw [sumL_mem, sumL_mem]
  constructor
  · rintro ⟨x, hx, y, hy, rfl⟩; exact ⟨y, hy, x, hx, by unfold adP; ext <;> simp only <;> omega⟩
  · rintro ⟨x, hx, y, hy, rfl⟩; exact ⟨y, hy, x, hx, by unfold adP; ext <;> simp only <;> omega⟩
theorem srt_swap (A B : List Pt) : srtP (sumLP B A) = srtP (sumLP A B) := srtP_of (srtP_pw _) fun q => by rw [srtP_mem, sum_swap]
theorem adP_comm (a b : Pt) : adP a b = adP b a := by unfold adP; ext <;> simp only <;> omega
section
variable {s : Int} {T : Pt → Pt → Pt → Int} (K : Kind s T)
include K
theorem path_of {A B : List Pt} : ∀ L : List Pr, (∀ x ∈ L, x.1 ∈ A ∧ x.2 ∈ B) → (∀ h ∈ L.map adR, h ∈ srtP (sumLP A B) ∧ Ext Bf T (srtP (sumLP A B)) h) → (L.map adR).Pairwise Bf → All2 (fun p q => p = q ∨ (Bf p q ∧ ∀ a ∈ srtP (sumLP A B), 0 ≤ T p q a)) (L.map adR) → PathR s T A B L
  | [], _, _, _, _ => trivial
  | [_], _, _, _, _ => trivial
  | x :: y :: t, hm, hx, hp, h2 => by
    have ih := path_of (y :: t) (fun z hz => hm z (List.mem_cons_of_mem _ hz)) (fun z hz => hx z (List.mem_cons_of_mem _ hz)) (List.pairwise_cons.1 hp).2 h2.2
    have hb : Bf (adR x) (adR y) := (List.pairwise_cons.1 hp).1 _ (by simp)
    obtain ⟨x1, x2⟩ := hx (adR x) (by simp)
    obtain ⟨y1, y2⟩ := hx (adR y) (by simp)
    obtain ⟨mx1, mx2⟩ := hm x (by simp)
    obtain ⟨my1, my2⟩ := hm y (by simp)
    have hs : ∀ p ∈ srtP (sumLP A B), 0 ≤ T (adR x) (adR y) p := by
      rcases h2.1 with e | e
      · rw [e] at hb; exact absurd hb K.irr
      · exact e.2
    obtain ⟨g1, g2, g3⟩ := step_part K mx1 mx2 my1 my2 rfl rfl hb x2 y1 hs
    have hw := srt_swap A B
    obtain ⟨g4, -, -⟩ := step_part (A := B) (B := A) K mx2 mx1 my2 my1 (adP_comm _ _ : adR x = adP x.2 x.1) (adP_comm _ _ : adR y = adP y.2 y.1) hb (by rw [hw]; exact x2) (by rw [hw]; exact y1) (by rw [hw]; exact hs)
    exact ⟨⟨g1, g4, g2, g3⟩, ih⟩
omit K in
theorem path_sum {A B : List Pt} : ∀ (L : List Pr) (x z : Pr), PathR s T A B (x :: L) → (x :: L).getLast? = some z → wsum crP ((x :: L).map adR) = wsum crP ((x :: L).map (·.1)) + wsum crP ((x :: L).map (·.2)) + 2 * mixS (x :: L) + eP x - eP z
  | [], x, z, _, h => by
    obtain rfl : x = z := by simpa using h
    simp [wsum, mixS]
  | y :: t, x, z, h, hl => by
    have ih := path_sum t y z h.2 (by simpa using hl)
    simp only [List.map_cons, wsum, mixS] at ih ⊢
    rw [ih]
    have h3 := h.1.2.2.1
    have e : crP (adR x) (adR y) = crP x.1 y.1 + crP x.2 y.2 + 2 * crP x.1 (dfP x.2 y.2) + eP x - eP y := by
      unfold adR adP eP crP dfP
      unfold cr dfP at h3
      grind
    omega
theorem path_mix {A B : List Pt} {c : Pt} (hc : c ∈ A) : ∀ (L : List Pr) (x z : Pr), PathR s T A B (x :: L) → (x :: L).getLast? = some z → 0 ≤ s * (mixS (x :: L) - crP c (dfP x.2 z.2))
  | [], x, z, _, h => by
    obtain rfl : x = z := by simpa using h
    have : crP c (dfP x.2 x.2) = 0 := by unfold crP dfP; grind
    rw [this]; simp [mixS]
  | y :: t, x, z, h, hl => by
    have ih := path_mix hc t y z h.2 (by simpa using hl)
    have h4 := h.1.2.2.2 c hc
    have e : crP c (dfP x.2 z.2) = crP c (dfP x.2 y.2) + crP c (dfP y.2 z.2) := by unfold crP dfP; grind
    have e2 : cr (dfP x.2 y.2) (dfP x.1 c) = crP x.1 (dfP x.2 y.2) - crP c (dfP x.2 y.2) := by unfold crP dfP cr; grind
    rw [e2] at h4
    have h5 : 0 ≤ s * (crP x.1 (dfP x.2 y.2) - crP c (dfP x.2 y.2)) := by
      rcases h4 with h4 | h4
      · have z1 : crP x.1 (dfP x.2 y.2) = 0 := by rw [h4]; unfold crP dfP; grind
        have z2 : crP c (dfP x.2 y.2) = 0 := by rw [h4]; unfold crP dfP; grind
        rw [z1, z2]; simp
      · exact h4
    simp only [mixS]
    rw [e]
    rcases K.sg with q | q
    · rw [q] at ih h5 ⊢; omega
    · rw [q] at ih h5 ⊢; omega
omit K in
theorem path_supA {A B : List Pt} : ∀ (L : List Pr), (∀ x ∈ L, x.1 ∈ A ∧ x.2 ∈ B) → PathR s T A B L → Sup Bf T (srtP A) (L.map (·.1)) ∧ Sup Bf T (srtP B) (L.map (·.2)) := by
  intro L hm h
  refine ⟨⟨?_, ?_⟩, ?_, ?_⟩
  · clear hm
    induction L with
    | nil => trivial
    | cons x t ih =>
      cases t with
      | nil => trivial
      | cons y t =>
        refine ⟨?_, ih h.2⟩
        rcases h.1.1 with e | e
        · exact .inl e
        · exact .inr ⟨e.1, fun a ha => e.2 a ((srtP_mem _ _).1 ha)⟩
  · intro p hp
    obtain ⟨x, hx, rfl⟩ := List.mem_map.1 hp
    exact (srtP_mem _ _).2 (hm x hx).1
  · clear hm
    induction L with
    | nil => trivial
    | cons x t ih =>
      cases t with
      | nil => trivial
      | cons y t =>
        refine ⟨?_, ih h.2⟩
        rcases h.1.2.1 with e | e
        · exact .inl e
        · exact .inr ⟨e.1, fun a ha => e.2 a ((srtP_mem _ _).1 ha)⟩
  · intro p hp
    obtain ⟨x, hx, rfl⟩ := List.mem_map.1 hp
    exact (srtP_mem _ _).2 (hm x hx).2
end
/-- First and last of a list of points. -/
def Fst (A : List Pt) (a : Pt) : Prop := a ∈ A ∧ ∀ c ∈ A, ¬ Bf c a
def Lst (A : List Pt) (a : Pt) : Prop := a ∈ A ∧ ∀ c ∈ A, ¬ Bf a c
theorem fst_uniq {A : List Pt} {a b : Pt} (h : Fst A a) (h' : Fst A b) : a = b := by
  rcases geo_up.tot a b with r | r | r
  · exact absurd r (h'.2 a h.1)
  · exact r
  · exact absurd r (h.2 b h'.1)
theorem lst_uniq {A : List Pt} {a b : Pt} (h : Lst A a) (h' : Lst A b) : a = b := by
  rcases geo_up.tot a b with r | r | r
  · exact absurd r (h.2 b h'.1)
  · exact r
  · exact absurd r (h'.2 a h.1)
theorem bf_add {a c b : Pt} : Bf (adP c b) (adP a b) ↔ Bf c a := by unfold Bf adP; simp only; omega
theorem bf_add2 {a c b : Pt} : Bf (adP b c) (adP b a) ↔ Bf c a := by unfold Bf adP; simp only; omega
theorem fst_parts {A B : List Pt} {x : Pr} (h1 : x.1 ∈ A) (h2 : x.2 ∈ B) (h : Fst (sumLP A B) (adR x)) : Fst A x.1 ∧ Fst B x.2 :=
  ⟨⟨h1, fun c hc hb => h.2 (adP c x.2) ((sumL_mem _ _ _).2 ⟨c, hc, x.2, h2, rfl⟩) (bf_add.2 hb)⟩, h2, fun c hc hb => h.2 (adP x.1 c) ((sumL_mem _ _ _).2 ⟨x.1, h1, c, hc, rfl⟩) (bf_add2.2 hb)⟩
theorem lst_parts {A B : List Pt} {x : Pr} (h1 : x.1 ∈ A) (h2 : x.2 ∈ B) (h : Lst (sumLP A B) (adR x)) : Lst A x.1 ∧ Lst B x.2 :=
  ⟨⟨h1, fun c hc hb => h.2 (adP c x.2) ((sumL_mem _ _ _).2 ⟨c, hc, x.2, h2, rfl⟩) (bf_add.2 hb)⟩, h2, fun c hc hb => h.2 (adP x.1 c) ((sumL_mem _ _ _).2 ⟨x.1, h1, c, hc, rfl⟩) (bf_add2.2 hb)⟩
theorem pw_first {R : Pt → Pt → Prop} (G : Geo R (fun _ _ _ => 0) ∨ ∀ {a b : Pt}, R a b → ¬ R b a) : ∀ {l : List Pt} {h : Pt}, l.Pairwise R → l.head? = some h → ∀ q ∈ l, q = h ∨ R h q
  | [], _, _, h, _, _ => by simp at h
  | a :: t, h, hp, hh, q, hq => by
    obtain rfl : a = h := by simpa using hh
    rcases List.mem_cons.1 hq with e | e
    · exact .inl e
    · exact .inr ((List.pairwise_cons.1 hp).1 q e)
theorem srt_fst {A : List Pt} {h : Pt} (hh : (srtP A).head? = some h) : Fst A h := by
  refine ⟨(srtP_mem _ _).1 (List.mem_of_mem_head? hh), fun c hc hb => ?_⟩
  rcases pw_first (.inr fun {a b} h => geo_up.asym h) (srtP_pw A) hh c ((srtP_mem _ _).2 hc) with e | e
  · rw [e] at hb; exact geo_up.irr hb
  · exact geo_up.asym e hb
theorem nei_last {R : Pt → Pt → Prop} {T : Pt → Pt → Pt → Int} {l : List Pt} : ∀ {S : List Pt} {c : Pt}, Nei R T l S → S.getLast? = some c → ∀ a ∈ l, ¬ R a c
  | [], _, _, h => by simp at h
  | [d], c, h, h' => by
    obtain rfl : d = c := by simpa using h'
    exact h
  | _ :: b :: t, c, h, h' => nei_last (S := b :: t) h.2 (by simpa using h')
theorem inv_ends {T : Pt → Pt → Pt → Int} {l S : List Pt} (h : Inv Bf T l S) (hl : l ≠ []) : ∃ x y P, S.reverse = x :: P ∧ (x :: P).getLast? = some y ∧ Fst l x ∧ Lst l y := by
  match hS : S, h with
  | [], h => exact absurd h.nei hl
  | c :: t, h =>
    have hne : (c :: t).reverse ≠ [] := by simp
    obtain ⟨x, P, hx⟩ : ∃ x P, (c :: t).reverse = x :: P := by
      match hr : (c :: t).reverse, hne with
      | x :: P, _ => exact ⟨x, P, rfl⟩
    have hlast : (c :: t).getLast? = some x := by rw [← List.head?_reverse, hx]; rfl
    refine ⟨x, c, P, hx, by rw [← hx, List.getLast?_reverse]; rfl, ⟨?_, nei_last h.nei hlast⟩, ((h.mem c).1 (by simp)).1, h.top c t rfl⟩
    exact ((h.mem x).1 (List.mem_of_mem_getLast? hlast)).1
theorem fst_of {A : List Pt} {a : Pt} (h : Fst (srtP A) a) : Fst A a := ⟨(srtP_mem _ _).1 h.1, fun c hc => h.2 c ((srtP_mem _ _).2 hc)⟩
theorem lst_of {A : List Pt} {a : Pt} (h : Lst (srtP A) a) : Lst A a := ⟨(srtP_mem _ _).1 h.1, fun c hc => h.2 c ((srtP_mem _ _).2 hc)⟩
section
variable {s : Int} {T : Pt → Pt → Pt → Int} (K : Kind s T)
include K
theorem crP_line : ∀ x y z, T x y z = 0 → crP x z = crP x y + crP y z := by
  intro x y z h
  rw [K.eq] at h
  have h1 : trn x y z = 0 := by rcases K.sg with q | q <;> rw [q] at h <;> omega
  unfold trn at h1
  unfold crP
  grind
/-- The sides of a sum: the sides of the parts, and twice what is mixed. -/
theorem side_sum {A B St SA SB : List Pt} (hA : A ≠ []) (hB : B ≠ []) (hI : Inv Bf T (srtP (sumLP A B)) St) (hIA : Inv Bf T (srtP A) SA) (hIB : Inv Bf T (srtP B) SB) :
    ∃ M a0 b0 an bn, (Fst A a0 ∧ Fst B b0 ∧ Lst A an ∧ Lst B bn) ∧ wsum crP St.reverse = wsum crP SA.reverse + wsum crP SB.reverse + 2 * M + crP a0 b0 - crP an bn ∧ ∀ c ∈ A, 0 ≤ s * (M - crP c (dfP b0 bn)) := by
  have hne : srtP (sumLP A B) ≠ [] := by
    obtain ⟨a, ta, rfl⟩ := List.exists_cons_of_ne_nil hA
    obtain ⟨b, tb, rfl⟩ := List.exists_cons_of_ne_nil hB
    intro h0
    have : adP a b ∈ srtP (sumLP (a :: ta) (b :: tb)) := (srtP_mem _ _).2 ((sumL_mem _ _ _).2 ⟨a, by simp, b, by simp, rfl⟩)
    rw [h0] at this; simp at this
  obtain ⟨x, y, P, hP, hy, hfx, hly⟩ := inv_ends hI hne
  obtain ⟨xa, ya, PA, hPA, hya, hfa, hla⟩ := inv_ends hIA (srtP_ne hA)
  obtain ⟨xb, yb, PB, hPB, hyb, hfb, hlb⟩ := inv_ends hIB (srtP_ne hB)
  have hmem : ∀ h ∈ St.reverse, h ∈ srtP (sumLP A B) ∧ Ext Bf T (srtP (sumLP A B)) h := fun h hh => (hI.mem h).1 (List.mem_reverse.1 hh)
  obtain ⟨L, hL, hm⟩ := split_pr St.reverse fun h hh => (srtP_mem _ _).1 (hmem h hh).1
  have hpw : (L.map adR).Pairwise Bf := by rw [← hL]; exact List.pairwise_reverse.2 hI.pw
  have hsup := stk_sup K.toGeo3 hI
  have hpath := path_of K L hm (by rw [← hL]; exact hmem) hpw (by rw [← hL]; exact hsup.1)
  match hLc : L, hm, hL, hpath with
  | [], _, hL, _ => rw [hP] at hL; simp at hL
  | z :: L', hm, hL, hpath =>
    rw [hP, List.map_cons] at hL
    obtain ⟨hxz, hPL⟩ := List.cons.inj hL
    obtain ⟨e, he⟩ : ∃ e, (z :: L').getLast? = some e := ⟨_, List.getLast?_cons⟩
    have hye : y = adR e := by
      have : ((z :: L').map adR).getLast? = some y := by rw [List.map_cons, ← hxz, ← hPL]; exact hy
      rw [List.getLast?_map, he] at this
      simpa using this.symm
    have mz := hm z (by simp)
    have me := hm e (List.mem_of_mem_getLast? he)
    obtain ⟨f1, f2⟩ := fst_parts mz.1 mz.2 (hxz ▸ fst_of hfx)
    obtain ⟨l1, l2⟩ := lst_parts me.1 me.2 (hye ▸ lst_of hly)
    have ua := fst_uniq f1 (fst_of hfa)
    have ub := fst_uniq f2 (fst_of hfb)
    have va := lst_uniq l1 (lst_of hla)
    have vb := lst_uniq l2 (lst_of hlb)
    obtain ⟨sA, sB⟩ := path_supA (z :: L') hm hpath
    have hsA := stk_sup K.toGeo3 hIA
    have hsB := stk_sup K.toGeo3 hIB
    rw [hPA] at hsA
    rw [hPB] at hsB
    rw [List.map_cons, ua] at sA
    rw [List.map_cons, ub] at sB
    have wA := sup_uniq K.toGeo3 crP_self (crP_line K) _ _ _ xa ya (Nat.le_refl _) sA hsA (by
      have : ((z :: L').map (·.1)).getLast? = some e.1 := by rw [List.getLast?_map, he]; rfl
      rw [List.map_cons, ua] at this; rw [this, va]) hya
    have wB := sup_uniq K.toGeo3 crP_self (crP_line K) _ _ _ xb yb (Nat.le_refl _) sB hsB (by
      have : ((z :: L').map (·.2)).getLast? = some e.2 := by rw [List.getLast?_map, he]; rfl
      rw [List.map_cons, ub] at this; rw [this, vb]) hyb
    refine ⟨mixS (z :: L'), z.1, z.2, e.1, e.2, ⟨f1, f2, l1, l2⟩, ?_, fun c hc => path_mix K hc L' z e hpath he⟩
    have h := path_sum L' z e hpath he
    rw [hP, hxz, hPL, hPA, hPB, ← wA, ← wB]
    rw [List.map_cons, List.map_cons, List.map_cons, ua, ub] at h
    unfold eP at h
    rw [← ua, ← ub] at h ⊢
    rw [h]
end
theorem low_sums {l : List Pt} : Inv Bf trn (srtP l) (lowH l).reverse := by unfold lowH; rw [List.reverse_reverse]; exact low_inv l
/-- The area of a sum: the areas of the parts, and twice what is mixed, which is not below 0. -/
theorem area_sum {A B : List Pt} (hA : A ≠ []) (hB : B ≠ []) (gA : hulL A = A) (gB : hulL B = B) : ∃ M : Int, areaL (hulL (sumLP A B)) = areaL A + areaL B + 2 * M ∧ 0 ≤ M := by
  obtain ⟨M1, a0, b0, an, bn, ⟨f1, f2, f3, f4⟩, e1, m1⟩ := side_sum kind_up hA hB (low_inv _) (low_inv A) (low_inv B)
  obtain ⟨M2, a0', b0', an', bn', ⟨g1, g2, g3, g4⟩, e2, m2⟩ := side_sum kind_dn hA hB (upp_inv _) (upp_inv A) (upp_inv B)
  obtain rfl := fst_uniq f1 g1
  obtain rfl := fst_uniq f2 g2
  obtain rfl := lst_uniq f3 g3
  obtain rfl := lst_uniq f4 g4
  have hne : sumLP A B ≠ [] := by
    obtain ⟨a, ta, rfl⟩ := List.exists_cons_of_ne_nil hA
    obtain ⟨b, tb, rfl⟩ := List.exists_cons_of_ne_nil hB
    simp [sumLP]
  have s0 := area_sides (hul_idem hne) (hul_ne hne)
  have s1 := area_sides gA hA
  have s2 := area_sides gB hB
  obtain ⟨i1, i2⟩ := low_idem hne
  rw [i1, i2] at s0
  refine ⟨M1 - M2, ?_, ?_⟩
  · rw [s0, s1, s2]
    unfold lowH uppH at *
    omega
  · have q1 := m1 a0 f1.1
    have q2 := m2 a0 f1.1
    omega
end Go.Proofs.Ytamejfeaniokfaa

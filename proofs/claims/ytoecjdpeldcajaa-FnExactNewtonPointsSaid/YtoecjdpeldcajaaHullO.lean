/-
  The hull of a hull, supporting paths, sums of polygons: plain mathematics.
  No condition.
-/
import Derived.Test.YtoecjdpeldcajaaHullN
namespace Go.Proofs.Ytoecjdpeldcajaa
set_option linter.unusedSimpArgs false
set_option linter.unusedVariables false


/-! ### The hull of a hull -/
theorem stk_bot {R : Pt → Pt → Prop} {T : Pt → Pt → Pt → Int} {s : List Pt} : ∀ S : List Pt, Nei R T s S → S ≠ [] → ∃ u d, S = u ++ [d] ∧ ∀ a ∈ s, ¬ R a d
  | [], _, h => absurd rfl h
  | [c], hn, _ => ⟨[], c, rfl, hn⟩
  | j :: i :: t, hn, _ => by
    obtain ⟨u, d, h1, h2⟩ := stk_bot (i :: t) hn.2 (by simp)
    exact ⟨j :: u, d, by rw [h1]; rfl, h2⟩
/-- A point that is no corner lies over a step. -/
theorem ext_not {R : Pt → Pt → Prop} {T : Pt → Pt → Pt → Int} (G : Geo3 R T) {s S : List Pt} (h : Inv R T s S) {q : Pt} (hq : q ∈ s) (he : ¬ Ext R T s q) : ∃ i j, i ∈ S ∧ j ∈ S ∧ R i q ∧ R q j ∧ T i q j ≤ 0 := by
  have hqS : q ∉ S := fun hm => he ((h.mem q).1 hm).2
  obtain ⟨a, b, ha, hb, haq, hqb⟩ : ∃ a b, a ∈ s ∧ b ∈ s ∧ R a q ∧ R q b := by
    apply Classical.byContradiction
    intro hc
    exact he fun a ha b hb h1 h2 => absurd ⟨a, b, ha, hb, h1, h2⟩ hc
  have hne : S ≠ [] := by
    intro h0
    have hn := h.nei
    rw [h0] at hn
    have : s = [] := hn
    rw [this] at hq; simp at hq
  obtain ⟨u, d, h1, h2⟩ := stk_bot S h.nei hne
  match S, h, hne with
  | c :: t, h, _ =>
    refine abo_in G (abo_mem G h hq) rfl (c := c) ?_ (d := d) (by rw [h1]; simp) ?_ hqS
    · have hc := h.top c t rfl b hb
      rcases G.tot b c with h3 | h3 | h3
      · exact G.trans hqb h3
      · rw [← h3]; exact hqb
      · exact absurd h3 hc
    · rcases G.tot a d with h3 | h3 | h3
      · exact absurd h3 (h2 a ha)
      · rw [← h3]; exact haq
      · exact G.trans h3 haq
theorem stk_sub {R : Pt → Pt → Prop} {T : Pt → Pt → Pt → Int} (G : Geo3 R T) {s s' : List Pt} (h : s.Pairwise R) (h' : s'.Pairwise R) (h1 : ∀ q ∈ s', q ∈ s) (h2 : ∀ q ∈ stkH T s, q ∈ s') : stkH T s' = stkH T s := by
  have i1 := stk_inv G.toGeo h
  have i2 := stk_inv G.toGeo h'
  refine same_of G.toGeo.flip i2.pw i1.pw fun q => ?_
  constructor
  · intro hq
    obtain ⟨m, e⟩ := (i2.mem q).1 hq
    refine (i1.mem q).2 ⟨h1 q m, ?_⟩
    apply Classical.byContradiction
    intro hc
    obtain ⟨i, j, hi, hj, r1, r2, r3⟩ := ext_not G i1 (h1 q m) hc
    have := e i (h2 i hi) j (h2 j hj) r1 r2
    omega
  · intro hq
    exact (i2.mem q).2 ⟨h2 q hq, fun a ha b hb => ((i1.mem q).1 hq).2 a (h1 a ha) b (h1 b hb)⟩
theorem hul_sub {l : List Pt} (hl : l ≠ []) {q : Pt} (h : q ∈ hulL l) : q ∈ l := by
  rcases (hul_mem hl q).1 h with h | h
  · unfold lowH at h; rw [List.mem_reverse] at h; exact (srtP_mem l q).1 (((low_inv l).mem q).1 h).1
  · exact (srtP_mem l q).1 (((upp_inv l).mem q).1 h).1
theorem hul_ne {l : List Pt} (hl : l ≠ []) : hulL l ≠ [] := by
  have h := stk_ne trn (srtP_ne hl)
  intro h0
  obtain ⟨c, hc⟩ := List.exists_mem_of_ne_nil _ h
  have : c ∈ hulL l := (hul_mem hl c).2 (.inl (by unfold lowH; rw [List.mem_reverse]; exact hc))
  rw [h0] at this; simp at this
theorem hul_idem {l : List Pt} (hl : l ≠ []) : hulL (hulL l) = hulL l := by
  have hs : ∀ q ∈ srtP (hulL l), q ∈ srtP l := fun q h => (srtP_mem l q).2 (hul_sub hl ((srtP_mem _ q).1 h))
  have e1 := stk_sub geo3_up (srtP_pw l) (srtP_pw (hulL l)) hs fun q hq => (srtP_mem _ q).2 ((hul_mem hl q).2 (.inl (by unfold lowH; rw [List.mem_reverse]; exact hq)))
  have e2 := stk_sub geo3_dn (srtP_pw l) (srtP_pw (hulL l)) hs fun q hq => (srtP_mem _ q).2 ((hul_mem hl q).2 (.inr hq))
  unfold hulL lowH uppH at e1 e2 ⊢
  rw [e1, e2]
theorem len_of_sub : ∀ {a b : List Pt}, a.Nodup → (∀ q ∈ a, q ∈ b) → a.length ≤ b.length
  | [], _, _, _ => by simp
  | x :: a, b, h, hs => by
    obtain ⟨h1, h2⟩ := List.nodup_cons.1 h
    have := len_of_sub (a := a) (b := b.erase x) h2 fun q hq => (List.mem_erase_of_ne (by rintro rfl; exact h1 hq)).2 (hs q (List.mem_cons_of_mem _ hq))
    have hx := hs x (by simp)
    rw [List.length_erase_of_mem hx] at this
    have := List.length_pos_of_mem hx
    simp; omega
theorem hul_nodup (l : List Pt) : (hulL l).Nodup := by
  have i1 := low_inv l
  have i2 := upp_inv l
  unfold hulL
  rw [List.nodup_append]
  have hpw : (lowH l).Pairwise Bf := by unfold lowH; exact List.pairwise_reverse.2 i1.pw
  refine ⟨hpw.imp fun {a b} h => by rintro rfl; exact geo_up.irr h, ?_, ?_⟩
  · have : (uppH l).Nodup := i2.pw.imp fun {a b} h => by rintro rfl; exact geo_up.irr h
    exact ((this.sublist (List.tail_sublist _)).sublist (List.dropLast_sublist _))
  · intro a ha b hb hab
    subst hab
    unfold lowH at ha
    rw [List.mem_reverse] at ha
    have e1 := ((i1.mem a).1 ha).2
    match hk : uppH l, i2 with
    | [], _ => rw [hk] at hb; simp at hb
    | z :: t, i2 =>
      rw [hk, List.tail_cons] at hb
      have hat : a ∈ t := List.dropLast_subset _ hb
      have hza : Bf a z := (List.pairwise_cons.1 i2.pw).1 a hat
      obtain ⟨u, d, hu⟩ : ∃ u d, t = u ++ [d] := ⟨_, _, (List.dropLast_concat_getLast (List.ne_nil_of_mem hat)).symm⟩
      rw [hu, List.dropLast_concat] at hb
      have hda : Bf d a := by
        have hp := (List.pairwise_cons.1 i2.pw).2
        rw [hu] at hp
        exact (List.pairwise_append.1 hp).2.2 a hb d (by simp)
      have md := ((i2.mem d).1 (by rw [hu]; simp)).1
      have mz := ((i2.mem z).1 (by simp)).1
      have e2 := ((i2.mem a).1 (List.mem_cons_of_mem _ hat)).2
      have x1 := e1 d md z mz hda hza
      have x2 := e2 d md z mz hda hza
      unfold trnN at x2; omega
theorem hul_le {l : List Pt} (hl : l ≠ []) : (hulL l).length ≤ l.length := len_of_sub (hul_nodup l) fun _ h => hul_sub hl h
/-- The hull of points is a polygon that has all of them. -/
theorem hul_pg {l : List Pt} (h : ptsB l = true) : pgB (hulL l) = true := by
  obtain ⟨h1, h2, h3⟩ := (ptsB_iff l).1 h
  have hl : l ≠ [] := by intro h0; rw [h0] at h1; simp at h1
  have := List.length_pos_iff.2 (hul_ne hl)
  have := hul_le hl
  exact (pgB_iff _).2 ⟨(ptsB_iff _).2 ⟨by omega, by omega, fun p hp => h3 p (hul_sub hl hp)⟩, hul_idem hl⟩
theorem hul_has {l : List Pt} (hl : l ≠ []) {p : Pt} (hp : p ∈ l) : hasB (hulL l) p = true := by
  rw [has_iff (hul_idem hl) (hul_ne hl)]
  by_cases hm : p ∈ hulL l
  · exact .inl hm
  · refine .inr ⟨fun he => ?_, fun he => ?_⟩
    · have hn : ¬ Ext Bf trn (srtP l) p := fun hx => hm ((hul_mem hl p).2 (.inl (by unfold lowH; rw [List.mem_reverse]; exact ((low_inv l).mem p).2 ⟨(srtP_mem l p).2 hp, hx⟩)))
      obtain ⟨i, j, hi, hj, r1, r2, r3⟩ := ext_not geo3_up (low_inv l) ((srtP_mem l p).2 hp) hn
      have := he i ((srtP_mem _ i).2 ((hul_mem hl i).2 (.inl (by unfold lowH; rw [List.mem_reverse]; exact hi)))) j ((srtP_mem _ j).2 ((hul_mem hl j).2 (.inl (by unfold lowH; rw [List.mem_reverse]; exact hj)))) r1 r2
      omega
    · have hn : ¬ Ext Bf trnN (srtP l) p := fun hx => hm ((hul_mem hl p).2 (.inr (((upp_inv l).mem p).2 ⟨(srtP_mem l p).2 hp, hx⟩)))
      obtain ⟨i, j, hi, hj, r1, r2, r3⟩ := ext_not geo3_dn (upp_inv l) ((srtP_mem l p).2 hp) hn
      have := he i ((srtP_mem _ i).2 ((hul_mem hl i).2 (.inr hi))) j ((srtP_mem _ j).2 ((hul_mem hl j).2 (.inr hj))) r1 r2
      omega

/-! ### Supporting paths -/
def wsum (f : Pt → Pt → Int) : List Pt → Int
  | a :: b :: t => f a b + wsum f (b :: t)
  | _ => 0
/-- A path of points of s that stays or goes on, with all of s on one side of each step. -/
def Sup (R : Pt → Pt → Prop) (T : Pt → Pt → Pt → Int) (s P : List Pt) : Prop := All2 (fun p q => p = q ∨ (R p q ∧ ∀ a ∈ s, 0 ≤ T p q a)) P ∧ ∀ p ∈ P, p ∈ s
section
variable {R : Pt → Pt → Prop} {T : Pt → Pt → Pt → Int} (G : Geo3 R T)
include G
theorem sup_cut {x p q a : Pt} (hxp : R x p) (hpq : R p q) (h0 : T x p q = 0) (h : 0 ≤ T x q a) : 0 ≤ T p q a := by
  have hxq := G.trans hxp hpq
  have c1 := G.cyc a p q
  have c2 := G.cyc a x q
  have c3 := G.swp p a q
  have c4 := G.swp x a q
  rcases G.tot a x with h1 | rfl | h1
  · have g := G.four h1 hxp hpq
    unfold G4 TF at g; omega
  · have := G.cyc p q a; have := G.cyc a p q; omega
  · rcases G.tot a p with h2 | rfl | h2
    · have g := G.four h1 h2 hpq
      unfold G4 TF at g; omega
    · have := G.cyc q a a; have := G.cyc a q a; have := G.two q a; omega
    · rcases G.tot a q with h3 | rfl | h3
      · have g := G.four hxp h2 h3
        unfold G4 TF at g; omega
      · have := G.two p a; omega
      · have g := G.four hxp hpq h3
        unfold G4 TF at g; omega
theorem sup_last : ∀ {P : List Pt} {s : List Pt} {x y : Pt}, Sup R T s (x :: P) → (x :: P).getLast? = some y → x = y ∨ R x y
  | [], s, x, y, _, h => .inl (by simpa using h)
  | p :: P, s, x, y, h, hl => by
    have ih := sup_last (P := P) (s := s) (x := p) (y := y) ⟨h.1.2, fun q hq => h.2 q (List.mem_cons_of_mem _ hq)⟩ (by simpa using hl)
    rcases h.1.1 with e | e
    · rw [e]; exact ih
    · rcases ih with e' | e'
      · rw [← e']; exact .inr e.1
      · exact .inr (G.trans e.1 e')
/-- Two such paths with the same ends have the same sum of what is added along a line. -/
theorem sup_uniq {f : Pt → Pt → Int} (h0 : ∀ x, f x x = 0) (hadd : ∀ x y z, T x y z = 0 → f x z = f x y + f y z) {s : List Pt} : ∀ (n : Nat) (P Q : List Pt) (x y : Pt), P.length + Q.length ≤ n → Sup R T s (x :: P) → Sup R T s (x :: Q) → (x :: P).getLast? = some y → (x :: Q).getLast? = some y → wsum f (x :: P) = wsum f (x :: Q)
  | n, [], [], _, _, _, _, _, _, _ => rfl
  | n, [], q :: Q, x, y, hn, hp, hq, h1, h2 => by
    match n, hn with
    | n + 1, hn =>
      have hxy : x = y := by simpa using h1
      have htl : Sup R T s (q :: Q) := ⟨hq.1.2, fun r hr => hq.2 r (List.mem_cons_of_mem _ hr)⟩
      have hql : (q :: Q).getLast? = some y := by simpa using h2
      rcases hq.1.1 with e | e
      · subst e
        have := sup_uniq h0 hadd n [] Q x y (by simp at hn ⊢; omega) hp htl h1 hql
        rw [this]
        simp [wsum, h0]
      · exfalso
        rcases sup_last G htl hql with e' | e'
        · rw [e', hxy] at e; exact G.irr e.1
        · rw [hxy] at e; exact G.asym e.1 e'
  | n, p :: P, [], x, y, hn, hp, hq, h1, h2 => by
    match n, hn with
    | n + 1, hn =>
      have hxy : x = y := by simpa using h2
      have htl : Sup R T s (p :: P) := ⟨hp.1.2, fun r hr => hp.2 r (List.mem_cons_of_mem _ hr)⟩
      have hpl : (p :: P).getLast? = some y := by simpa using h1
      rcases hp.1.1 with e | e
      · subst e
        have := sup_uniq h0 hadd n P [] x y (by simp at hn ⊢; omega) htl hq hpl h2
        rw [← this]
        simp [wsum, h0]
      · exfalso
        rcases sup_last G htl hpl with e' | e'
        · rw [e', hxy] at e; exact G.irr e.1
        · rw [hxy] at e; exact G.asym e.1 e'
  | n, p :: P, q :: Q, x, y, hn, hp, hq, h1, h2 => by
    match n, hn with
    | n + 1, hn =>
      have htp : Sup R T s (p :: P) := ⟨hp.1.2, fun r hr => hp.2 r (List.mem_cons_of_mem _ hr)⟩
      have htq : Sup R T s (q :: Q) := ⟨hq.1.2, fun r hr => hq.2 r (List.mem_cons_of_mem _ hr)⟩
      have hpl : (p :: P).getLast? = some y := by simpa using h1
      have hql : (q :: Q).getLast? = some y := by simpa using h2
      rcases hp.1.1 with e | ⟨e1, e2⟩
      · subst e
        have := sup_uniq h0 hadd n P (q :: Q) x y (by simp at hn ⊢; omega) htp hq hpl h2
        rw [← this]
        simp [wsum, h0]
      rcases hq.1.1 with e | ⟨e3, e4⟩
      · subst e
        have := sup_uniq h0 hadd n (p :: P) Q x y (by simp at hn ⊢; omega) hp htq h1 hql
        rw [this]
        simp [wsum, h0]
      have mp : p ∈ s := hp.2 p (by simp)
      have mq : q ∈ s := hq.2 q (by simp)
      have a1 := e2 q mq
      have a2 := e4 p mp
      have a3 := G.swp x p q
      have z1 : T x p q = 0 := by omega
      have z2 : T x q p = 0 := by omega
      rcases G.tot p q with h | h | h
      · have hq' : Sup R T s (p :: q :: Q) := ⟨⟨.inr ⟨h, fun a ha => sup_cut G e1 h z1 (e4 a ha)⟩, htq.1⟩, fun r hr => by
          rcases List.mem_cons.1 hr with rfl | hr
          · exact mp
          · exact htq.2 r hr⟩
        have := sup_uniq h0 hadd n P (q :: Q) p y (by simp at hn ⊢; omega) htp hq' hpl (by simpa using hql)
        simp only [wsum] at this ⊢
        rw [this, hadd x p q z1]; omega
      · subst h
        have := sup_uniq h0 hadd n P Q p y (by simp at hn ⊢; omega) htp htq hpl hql
        simp only [wsum, this]
      · have hp' : Sup R T s (q :: p :: P) := ⟨⟨.inr ⟨h, fun a ha => sup_cut G e3 h z2 (e2 a ha)⟩, htp.1⟩, fun r hr => by
          rcases List.mem_cons.1 hr with rfl | hr
          · exact mq
          · exact htp.2 r hr⟩
        have := sup_uniq h0 hadd n (p :: P) Q q y (by simp at hn ⊢; omega) hp' htq (by simpa using hpl) hql
        simp only [wsum] at this ⊢
        rw [← this, hadd x q p z2]; omega
theorem stk_sup {s S : List Pt} (h : Inv R T s S) : Sup R T s S.reverse := by
  refine ⟨(all2_rev S).2 ?_, fun p hp => ((h.mem p).1 (List.mem_reverse.1 hp)).1⟩
  have key : ∀ S : List Pt, (S.Pairwise fun a b => R b a) → (∀ a ∈ s, Abo T S a) → All2 (fun a b => b = a ∨ (R b a ∧ ∀ c ∈ s, 0 ≤ T b a c)) S := by
    intro S
    induction S with
    | nil => intro _ _; trivial
    | cons j t ih =>
      intro hp ha
      match t, ih, hp, ha with
      | [], _, _, _ => trivial
      | i :: t, ih, hp, ha =>
        exact ⟨.inr ⟨(List.pairwise_cons.1 hp).1 i (by simp), fun c hc => (ha c hc).1⟩, ih (List.pairwise_cons.1 hp).2 fun a hs => (ha a hs).2⟩
  exact key S h.pw fun a ha => abo_mem G h ha
end

/-! ### Sums of two polygons -/
def adP (a b : Pt) : Pt := (a.1 + b.1, a.2 + b.2)
def sumLP (a b : List Pt) : List Pt := a.flatMap fun p => b.map (adP p)
theorem sumL_mem (a b : List Pt) (q : Pt) : q ∈ sumLP a b ↔ ∃ x ∈ a, ∃ y ∈ b, q = adP x y := by
  unfold sumLP
  simp only [List.mem_flatMap, List.mem_map]
  constructor
  · rintro ⟨x, hx, y, hy, rfl⟩; exact ⟨x, hx, y, hy, rfl⟩
  · rintro ⟨x, hx, y, hy, rfl⟩; exact ⟨x, hx, y, hy, rfl⟩
def crP (p q : Pt) : Int := p.1 * q.2 - p.2 * q.1
def areaL (l : List Pt) : Int := match l with
  | [] => 0
  | h :: t => wsum crP (h :: t ++ [h])
theorem wsum_join {f : Pt → Pt → Int} (h : Pt) : ∀ (X t : List Pt), wsum f (X ++ h :: t) = wsum f (X ++ [h]) + wsum f (h :: t)
  | [], t => by simp [wsum]
  | [a], t => by simp [wsum]
  | a :: b :: X, t => by
    have := wsum_join (f := f) h (b :: X) t
    simp only [List.cons_append, wsum] at *
    omega
theorem wsum_rev {f : Pt → Pt → Int} (hf : ∀ a b, f b a = - f a b) : ∀ l : List Pt, wsum f l.reverse = - wsum f l
  | [] => by simp [wsum]
  | [a] => by simp [wsum]
  | a :: b :: t => by
    have ih := wsum_rev hf (b :: t)
    rw [List.reverse_cons, List.reverse_cons, List.append_assoc, List.singleton_append, wsum_join]
    rw [List.reverse_cons] at ih
    rw [ih]
    simp only [wsum]
    rw [hf a b]; omega
theorem crP_anti (a b : Pt) : crP b a = - crP a b := by unfold crP; grind
theorem crP_self (a : Pt) : crP a a = 0 := by unfold crP; grind
/-- The area of a hull by its two sides. -/
theorem area_sides {l : List Pt} (hl : hulL l = l) (hne : l ≠ []) : areaL l = wsum crP (lowH l) - wsum crP (uppH l).reverse := by
  have hrev : wsum crP (uppH l).reverse = - wsum crP (uppH l) := wsum_rev crP_anti _
  rw [hrev]
  by_cases h1 : l.length = 1
  · obtain ⟨a, rfl⟩ := List.length_eq_one_iff.1 h1
    unfold lowH uppH srtP stkH
    simp [insP, popH, wsum, areaL, crP_self]
  · have h2 : 2 ≤ l.length := by have := List.length_pos_iff.2 hne; omega
    have h3 := hul_len2 hl h2
    have hl1 : 2 ≤ (stkH trn (srtP l)).length := inv_two geo_up (srtP_pw l) h3
    have hl2 : 2 ≤ (uppH l).length := inv_two geo_dn (srtP_pw l) h3
    have e1 := low_up l
    have e2 := upp_last l
    have e3 := low_head l
    have hn : lowH l ≠ [] := by
      intro h0; have : (lowH l).length = 0 := by rw [h0]; rfl
      unfold lowH at this; rw [List.length_reverse] at this; omega
    obtain ⟨X, z, hX⟩ : ∃ X z, lowH l = X ++ [z] := ⟨_, _, (List.dropLast_concat_getLast hn).symm⟩
    match hk : uppH l, hl2 with
    | z' :: y :: t, _ =>
      rw [hX, hk] at e1
      obtain rfl : z = z' := by simpa using e1
      obtain ⟨U, f, hU⟩ : ∃ U f, y :: t = U ++ [f] := ⟨_, _, (List.dropLast_concat_getLast (by simp)).symm⟩
      have he : l = X ++ [z] ++ U := by
        have := hl.symm
        unfold hulL at this
        rw [hk, hX, List.tail_cons, hU, List.dropLast_concat] at this
        exact this
      have hhead : l.head? = some f := by
        have h4 : (lowH l).head? = l.head? := by
          rw [hX]
          conv => rhs; rw [he]
          cases X <;> simp
        rw [← h4, e3, ← e2, hk, hU, show z :: (U ++ [f]) = (z :: U) ++ [f] from rfl, List.getLast?_append]; simp
      have ha : areaL l = wsum crP (l ++ [f]) := by
        match l, hhead with
        | a :: t, hh => obtain rfl : a = f := by simpa using hh
                        rfl
      rw [ha]
      conv => lhs; rw [he]
      rw [hX, hU, show X ++ [z] ++ U ++ [f] = X ++ z :: (U ++ [f]) by simp, wsum_join]
      omega
/-- Directions on one line: the same side. -/
theorem fw_par {u v y : Pt} (hu : Fw u) (hv : Fw v) (h : cr u v = 0) (hy : 0 ≤ cr u y) : 0 ≤ cr v y := by
  unfold Fw cr at *
  rcases hu with h1 | ⟨h1, h2⟩
  · have hv1 : 0 < v.1 := by
      rcases hv with h3 | ⟨h3, h4⟩
      · exact h3
      · rw [h3] at h
        have : u.1 * v.2 = 0 := by omega
        rcases Int.mul_eq_zero.1 this with h0 | h0 <;> omega
    have e : u.1 * (v.1 * y.2 - v.2 * y.1) = v.1 * (u.1 * y.2 - u.2 * y.1) := by grind
    have := Int.mul_nonneg (Int.le_of_lt hv1) hy
    rw [← e] at this
    exact Int.nonneg_of_mul_nonneg_right this h1
  · rw [h1] at h
    have hv1 : v.1 = 0 := by
      have : u.2 * v.1 = 0 := by omega
      rcases Int.mul_eq_zero.1 this with h0 | h0 <;> omega
    have hv2 : 0 < v.2 := by omega
    have e : u.2 * (v.1 * y.2 - v.2 * y.1) = v.2 * (u.1 * y.2 - u.2 * y.1) := by rw [h1, hv1]; grind
    have := Int.mul_nonneg (Int.le_of_lt hv2) hy
    rw [← e] at this
    exact Int.nonneg_of_mul_nonneg_right this h2

/-! ### The area of a sum -/
/-- A turn of one kind: those of the lower side (1) or of the upper one (-1). -/
structure Kind (s : Int) (T : Pt → Pt → Pt → Int) : Prop extends Geo3 Bf T where
  sg : s = 1 ∨ s = -1
  eq : ∀ a b c, T a b c = s * trn a b c
theorem kind_up : Kind 1 trn := { geo3_up with
  sg := .inl rfl
  eq := fun a b c => by omega }
theorem kind_dn : Kind (-1) trnN := { geo3_dn with
  sg := .inr rfl
  eq := fun a b c => by unfold trnN; omega }
theorem trn_cr (a b c : Pt) : trn a b c = cr (b.1 - a.1, b.2 - a.2) (c.1 - a.1, c.2 - a.2) := by unfold trn cr; grind
def dfP (a b : Pt) : Pt := (b.1 - a.1, b.2 - a.2)
/-- How a path of sums comes apart. -/
structure Split (T : Pt → Pt → Pt → Int) (A B : List Pt) (H PA PB : List Pt) : Prop where
  la : PA.length = H.length
  lb : PB.length = H.length
  ma : ∀ p ∈ PA, p ∈ A
  mb : ∀ p ∈ PB, p ∈ B
  ad : ∀ i, i < H.length → H.getD i (0, 0) = adP (PA.getD i (0, 0)) (PB.getD i (0, 0))
theorem split_ex (T : Pt → Pt → Pt → Int) {A B : List Pt} : ∀ H : List Pt, (∀ h ∈ H, h ∈ sumLP A B) → ∃ PA PB, Split T A B H PA PB
  | [], _ => ⟨[], [], rfl, rfl, by simp, by simp, by simp⟩
  | h :: H, hm => by
    obtain ⟨PA, PB, s⟩ := split_ex T H fun x hx => hm x (List.mem_cons_of_mem _ hx)
    obtain ⟨x, hx, y, hy, he⟩ := (sumL_mem A B h).1 (hm h (by simp))
    refine ⟨x :: PA, y :: PB, by simp [s.la], by simp [s.lb], ?_, ?_, ?_⟩
    · intro p hp
      rcases List.mem_cons.1 hp with rfl | hp
      · exact hx
      · exact s.ma p hp
    · intro p hp
      rcases List.mem_cons.1 hp with rfl | hp
      · exact hy
      · exact s.mb p hp
    · intro i hi
      match i with
      | 0 => simpa using he
      | i + 1 => simpa using s.ad i (by simpa using hi)
section
variable {s : Int} {T : Pt → Pt → Pt → Int} (K : Kind s T)
include K
/-- One step of the sum's side: both parts stay or go on in its direction, and all points are on one side. -/
theorem step_part {A B : List Pt} {h a b h' a' b' : Pt} (ha : a ∈ A) (hb : b ∈ B) (ha' : a' ∈ A) (hb' : b' ∈ B) (eh : h = adP a b) (eh' : h' = adP a' b') (hh : Bf h h')
    (he : Ext Bf T (srtP (sumLP A B)) h) (hm' : h' ∈ srtP (sumLP A B)) (hs : ∀ p ∈ srtP (sumLP A B), 0 ≤ T h h' p) :
    (a = a' ∨ (Bf a a' ∧ ∀ x ∈ A, 0 ≤ T a a' x)) ∧ cr (dfP a a') (dfP b b') = 0 ∧ (∀ x ∈ A, b = b' ∨ 0 ≤ s * cr (dfP b b') (dfP a x)) := by
  have sm : ∀ x ∈ A, ∀ y ∈ B, adP x y ∈ srtP (sumLP A B) := fun x hx y hy => (srtP_mem _ _).2 ((sumL_mem _ _ _).2 ⟨x, hx, y, hy, rfl⟩)
  have hu : Fw (dfP h h') := bf_fw hh
  -- all of A beside the step
  have sideA : ∀ x ∈ A, 0 ≤ s * cr (dfP h h') (dfP a x) := fun x hx => by
    have := hs _ (sm x hx b hb)
    rw [K.eq] at this
    have e : trn h h' (adP x b) = cr (dfP h h') (dfP a x) := by rw [eh]; unfold trn cr dfP adP; grind
    rwa [e] at this
  have sideA' : 0 ≤ s * cr (dfP h h') (dfP a' a) := by
    have := hs _ (sm a ha b' hb')
    rw [K.eq] at this
    have e : trn h h' (adP a b') = cr (dfP h h') (dfP a' a) := by rw [eh']; unfold trn cr dfP adP; grind
    rwa [e] at this
  have sideB : 0 ≤ s * cr (dfP h h') (dfP b b') := by
    have := hs _ (sm a ha b' hb')
    rw [K.eq] at this
    have e : trn h h' (adP a b') = cr (dfP h h') (dfP b b') := by rw [eh]; unfold trn cr dfP adP; grind
    rwa [e] at this
  have sideB' : 0 ≤ s * cr (dfP h h') (dfP b' b) := by
    have := hs _ (sm a' ha' b hb)
    rw [K.eq] at this
    have e : trn h h' (adP a' b) = cr (dfP h h') (dfP b' b) := by rw [eh']; unfold trn cr dfP adP; grind
    rwa [e] at this
  have pA : cr (dfP h h') (dfP a a') = 0 := by
    have h1 := sideA a' ha'
    have e : cr (dfP h h') (dfP a' a) = - cr (dfP h h') (dfP a a') := by unfold cr dfP; grind
    rw [e] at sideA'
    rcases K.sg with r | r <;> rw [r] at h1 sideA' <;> omega
  have pB : cr (dfP h h') (dfP b b') = 0 := by
    have e : cr (dfP h h') (dfP b' b) = - cr (dfP h h') (dfP b b') := by unfold cr dfP; grind
    rw [e] at sideB'
    rcases K.sg with r | r <;> rw [r] at sideB sideB' <;> omega
  -- a part never goes back: the sum would not be a corner
  have nA : ¬ Bf a' a := by
    intro hlt
    have hq : Bf (adP a' b) h := by rw [eh]; unfold Bf adP at *; simp only; omega
    have := he _ (sm a' ha' b hb) h' hm' hq hh
    rw [K.eq] at this
    have e : trn (adP a' b) h h' = cr (dfP h h') (dfP a a') * (-1) * (-1) := by rw [eh]; unfold trn cr dfP adP; grind
    rw [e, pA] at this
    omega
  have nB : ¬ Bf b' b := by
    intro hlt
    have hq : Bf (adP a b') h := by rw [eh]; unfold Bf adP at *; simp only; omega
    have := he _ (sm a ha b' hb') h' hm' hq hh
    rw [K.eq] at this
    have e : trn (adP a b') h h' = cr (dfP h h') (dfP b b') * (-1) * (-1) := by rw [eh]; unfold trn cr dfP adP; grind
    rw [e, pB] at this
    omega
  refine ⟨?_, ?_, fun x hx => ?_⟩
  · rcases K.tot a a' with r | r | r
    · refine .inr ⟨r, fun x hx => ?_⟩
      rw [K.eq, trn_cr]
      have h1 := sideA x hx
      have h2 := bf_fw r
      rcases K.sg with q | q
      · rw [q] at h1 ⊢
        have := fw_par hu h2 (y := dfP a x) pA (by omega)
        unfold dfP at this; omega
      · rw [q] at h1 ⊢
        have := fw_par hu h2 (y := dfP x a) pA (by
          have e : cr (dfP h h') (dfP x a) = - cr (dfP h h') (dfP a x) := by unfold cr dfP; grind
          omega)
        have e : cr (dfP a a') (dfP x a) = - cr (dfP a a') (dfP a x) := by unfold cr dfP; grind
        unfold dfP at this e; omega
    · exact .inl r
    · exact absurd r nA
  · rcases K.tot a a' with r | r | r
    · have h2 := bf_fw r
      have g1 := fw_par hu h2 (y := dfP b b') pA (by omega)
      have g2 := fw_par hu h2 (y := dfP b' b) pA (by
        have e : cr (dfP h h') (dfP b' b) = - cr (dfP h h') (dfP b b') := by unfold cr dfP; grind
        omega)
      have e : cr (dfP a a') (dfP b' b) = - cr (dfP a a') (dfP b b') := by unfold cr dfP; grind
      unfold dfP at *; omega
    · rw [r]; unfold cr dfP; grind
    · exact absurd r nA
  · rcases K.tot b b' with r | r | r
    · refine .inr ?_
      have h1 := sideA x hx
      have h2 := bf_fw r
      rcases K.sg with q | q
      · rw [q] at h1 ⊢
        have := fw_par hu h2 (y := dfP a x) pB (by omega)
        unfold dfP at *; omega
      · rw [q] at h1 ⊢
        have := fw_par hu h2 (y := dfP x a) pB (by
          have e : cr (dfP h h') (dfP x a) = - cr (dfP h h') (dfP a x) := by unfold cr dfP; grind
          omega)
        have e : cr (dfP b b') (dfP x a) = - cr (dfP b b') (dfP a x) := by unfold cr dfP; grind
        unfold dfP at *; omega
    · exact .inl r
    · exact absurd r nB
end
end Go.Proofs.Ytoecjdpeldcajaa

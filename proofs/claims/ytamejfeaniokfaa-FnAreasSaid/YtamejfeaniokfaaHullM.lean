/-
  Turns, hulls by a stack, points in order: plain mathematics.
  No condition.
-/
import Derived.Test.YtamejfeaniokfaaTrop
namespace Go.Proofs.Ytamejfeaniokfaa
set_option linter.unusedSimpArgs false
set_option linter.unusedVariables false

/-! ### Turns and the order of points -/
abbrev Pt := Int × Int
/-- Twice the area of a triangle, with its sign. -/
def trn (a b p : Pt) : Int := (b.1 - a.1) * (p.2 - a.2) - (b.2 - a.2) * (p.1 - a.1)
/-- Comes a point before another one. -/
def Bf (a b : Pt) : Prop := a.1 < b.1 ∨ (a.1 = b.1 ∧ a.2 < b.2)
def cr (u v : Pt) : Int := u.1 * v.2 - u.2 * v.1
def Fw (u : Pt) : Prop := 0 < u.1 ∨ (u.1 = 0 ∧ 0 < u.2)
theorem fw_part {x : Int} {u : Pt} (hu : Fw u) (hx : 0 ≤ x) : 0 ≤ x * u.1 ∧ (x * u.1 = 0 → 0 ≤ x * u.2 ∧ (0 < x → 0 < x * u.2)) := by
  rcases hu with h | ⟨h, h'⟩
  · refine ⟨Int.mul_nonneg hx (by omega), fun h0 => ?_⟩
    rcases Int.mul_eq_zero.1 h0 with h1 | h1
    · subst h1; simp
    · omega
  · rw [h, Int.mul_zero]
    exact ⟨Int.le_refl 0, fun _ => ⟨Int.mul_nonneg hx (by omega), fun hp => Int.mul_pos hp h'⟩⟩
theorem fw_comb {u v w : Pt} (hu : Fw u) (hv : Fw v) (hw : Fw w) {x y z : Int} (h1 : x * v.1 = y * w.1 + z * u.1) (h2 : x * v.2 = y * w.2 + z * u.2) (hy : 0 ≤ y) (hz : 0 ≤ z) : 0 ≤ x ∧ (0 < y ∨ 0 < z → 0 < x) := by
  obtain ⟨a1, a2⟩ := fw_part hw hy
  obtain ⟨b1, b2⟩ := fw_part hu hz
  have key : x ≤ 0 → ¬ (x < 0 ∨ 0 < y ∨ 0 < z) := by
    intro hx hc
    obtain ⟨c1, c2⟩ := fw_part hv (x := -x) (by omega)
    rw [Int.neg_mul] at c1 c2
    rw [Int.neg_mul] at c2
    have d1 : y * w.1 = 0 := by omega
    have d2 : z * u.1 = 0 := by omega
    have d3 : -(x * v.1) = 0 := by omega
    have e1 := a2 d1
    have e2 := b2 d2
    have e3 := c2 d3
    rcases hc with hc | hc | hc
    · have := e3.2 (by omega); omega
    · have := e1.2 hc; omega
    · have := e2.2 hc; omega
  constructor
  · by_cases h : 0 ≤ x
    · exact h
    · exact absurd (.inl (by omega)) (key (by omega))
  · intro h
    by_cases h' : 0 < x
    · exact h'
    · exact absurd (.inr h) (key (by omega))
/-- Of three directions: the signs of the first turn p, the turn of both outer ones q, and the last turn r. -/
def TF (p q r : Int) : Prop := (0 ≤ p → 0 ≤ r → 0 ≤ q ∧ (0 < p ∨ 0 < r → 0 < q)) ∧ (p ≤ 0 → r ≤ 0 → q ≤ 0 ∧ (p < 0 ∨ r < 0 → q < 0))
theorem cr_tf {u v w : Pt} (hu : Fw u) (hv : Fw v) (hw : Fw w) : TF (cr u v) (cr u w) (cr v w) := by
  constructor
  · intro h h'
    exact fw_comb hu hv hw (x := cr u w) (y := cr u v) (z := cr v w) (by unfold cr; grind) (by unfold cr; grind) h h'
  · intro h h'
    have := fw_comb hw hv hu (x := cr w u) (y := cr w v) (z := cr v u) (by unfold cr; grind) (by unfold cr; grind) (by unfold cr at *; grind) (by unfold cr at *; grind)
    have e1 : cr w u = - cr u w := by unfold cr; grind
    have e2 : cr w v = - cr v w := by unfold cr; grind
    have e3 : cr v u = - cr u v := by unfold cr; grind
    omega
/-- What is known of the four turns of four points in their order. -/
def G4 (t1 t2 t3 t4 : Int) : Prop := t1 + t3 = t2 + t4 ∧ TF t1 (t2 - t1) t4
structure Geo (R : Pt → Pt → Prop) (T : Pt → Pt → Pt → Int) : Prop where
  trans : ∀ {a b c}, R a b → R b c → R a c
  irr : ∀ {a}, ¬ R a a
  tot : ∀ a b, R a b ∨ a = b ∨ R b a
  four : ∀ {a b c d}, R a b → R b c → R c d → G4 (T a b c) (T a b d) (T a c d) (T b c d)
theorem Geo.asym {R : Pt → Pt → Prop} {T : Pt → Pt → Pt → Int} (G : Geo R T) {a b : Pt} (h : R a b) : ¬ R b a := fun h' => G.irr (G.trans h h')
theorem bf_fw {a b : Pt} (h : Bf a b) : Fw (b.1 - a.1, b.2 - a.2) := by
  unfold Bf at h; unfold Fw; simp only; omega
theorem geo_up : Geo Bf trn where
  trans := by unfold Bf; omega
  irr := by unfold Bf; omega
  tot := by
    intro a b
    by_cases h : a = b
    · exact .inr (.inl h)
    · have : ¬ (a.1 = b.1 ∧ a.2 = b.2) := fun ⟨x, y⟩ => h (Prod.ext x y)
      unfold Bf; omega
  four := by
    intro a b c d h1 h2 h3
    have t := cr_tf (bf_fw h1) (bf_fw h2) (bf_fw h3)
    have e1 : cr (b.1 - a.1, b.2 - a.2) (c.1 - b.1, c.2 - b.2) = trn a b c := by unfold cr trn; grind
    have e2 : cr (b.1 - a.1, b.2 - a.2) (d.1 - c.1, d.2 - c.2) = trn a b d - trn a b c := by unfold cr trn; grind
    have e3 : cr (c.1 - b.1, c.2 - b.2) (d.1 - c.1, d.2 - c.2) = trn b c d := by unfold cr trn; grind
    rw [e1, e2, e3] at t
    refine ⟨?_, t⟩
    unfold trn; grind
def trnN (a b p : Pt) : Int := - trn a b p
theorem geo_dn : Geo Bf trnN where
  trans := geo_up.trans
  irr := geo_up.irr
  tot := geo_up.tot
  four := by
    intro a b c d h1 h2 h3
    have t := geo_up.four h1 h2 h3
    unfold G4 TF at *
    unfold trnN
    omega
theorem Geo.flip {R : Pt → Pt → Prop} {T : Pt → Pt → Pt → Int} (G : Geo R T) : Geo (fun a b => R b a) (fun a b c => T c b a) where
  trans := fun h h' => G.trans h' h
  irr := G.irr
  tot := fun a b => by rcases G.tot a b with h | h | h <;> simp [h]
  four := by
    intro a b c d h1 h2 h3
    have t := G.four h3 h2 h1
    unfold G4 TF at *
    omega
theorem trnN_flip : (fun a b c => trnN c b a) = trn := by
  funext a b c; unfold trnN trn; grind
theorem geo_back : Geo (fun a b => Bf b a) trn := by have := geo_dn.flip; rwa [trnN_flip] at this

/-! ### The stack -/
def popH (T : Pt → Pt → Pt → Int) (p : Pt) : List Pt → List Pt
  | j :: i :: t => if 0 < T i j p then j :: i :: t else popH T p (i :: t)
  | s => s
def stkH (T : Pt → Pt → Pt → Int) (l : List Pt) : List Pt := l.foldl (fun s p => p :: popH T p s) []
/-- A point is a corner. -/
def Ext (R : Pt → Pt → Prop) (T : Pt → Pt → Pt → Int) (l : List Pt) (q : Pt) : Prop := ∀ a ∈ l, ∀ b ∈ l, R a q → R q b → 0 < T a q b
/-- No point is on the wrong side of a step, and none is before the first one. -/
def Nei (R : Pt → Pt → Prop) (T : Pt → Pt → Pt → Int) (l : List Pt) : List Pt → Prop
  | j :: i :: t => (∀ a ∈ l, R i a → R a j → T i a j ≤ 0) ∧ Nei R T l (i :: t)
  | [c] => ∀ a ∈ l, ¬ R a c
  | [] => l = []
theorem Nei.tail {R : Pt → Pt → Prop} {T : Pt → Pt → Pt → Int} {l : List Pt} {j i : Pt} {t : List Pt} (h : Nei R T l (j :: i :: t)) : Nei R T l (i :: t) := h.2
section
variable {R : Pt → Pt → Prop} {T : Pt → Pt → Pt → Int} (G : Geo R T)
include G
theorem good_all {l : List Pt} {p j i : Pt} {t : List Pt} (hp : ∀ a ∈ l, R a p) (hpw : (j :: i :: t).Pairwise fun a b => R b a) (hm : ∀ q ∈ j :: i :: t, q ∈ l ∧ Ext R T l q) (hn : Nei R T l (j :: i :: t)) (h : 0 < T i j p) :
    ∀ q ∈ j :: i :: t, ∀ a ∈ l, R a q → 0 < T a q p := by
  have hij : R i j := (List.pairwise_cons.1 hpw).1 i (by simp)
  have hj : ∀ a ∈ l, R a j → 0 < T a j p := by
    intro a ha haj
    have hjp := hp j (hm j (by simp)).1
    rcases G.tot a i with h1 | h1 | h1
    · have e := (hm i (by simp)).2 a ha j (hm j (by simp)).1 h1 hij
      have g := G.four h1 hij hjp
      unfold G4 TF at g; omega
    · rw [h1]; exact h
    · have e := hn.1 a ha h1 haj
      have g := G.four h1 haj hjp
      unfold G4 TF at g; omega
  intro q hq a ha haq
  rcases List.mem_cons.1 hq with rfl | hq'
  · exact hj a ha haq
  · have hqj : R q j := (List.pairwise_cons.1 hpw).1 q hq'
    have e := (hm q hq).2 a ha j (hm j (by simp)).1 haq hqj
    have e' := hj q (hm q hq).1 hqj
    have g := G.four haq hqj (hp j (hm j (by simp)).1)
    unfold G4 TF at g; omega
theorem pop_spec {l : List Pt} {p : Pt} (hp : ∀ a ∈ l, R a p) : ∀ (S : List Pt), (S.Pairwise fun a b => R b a) → (∀ q ∈ S, q ∈ l ∧ Ext R T l q) → Nei R T l S → (∀ c t, S = c :: t → ∀ a ∈ l, R c a → T c a p ≤ 0) →
    (∀ q, q ∈ popH T p S ↔ q ∈ S ∧ ∀ a ∈ l, R a q → 0 < T a q p) ∧ Nei R T l (popH T p S) ∧ ((popH T p S).Pairwise fun a b => R b a) ∧ (∀ c t, popH T p S = c :: t → ∀ a ∈ l, R c a → T c a p ≤ 0)
  | [], hpw, hm, hn, hc => by simpa [popH] using hn
  | [c], hpw, hm, hn, hc => by
    refine ⟨fun q => ?_, hn, hpw, hc⟩
    simp only [popH, List.mem_singleton]
    constructor
    · rintro rfl; exact ⟨rfl, fun a ha h => absurd h (hn a ha)⟩
    · exact fun h => h.1
  | j :: i :: t, hpw, hm, hn, hc => by
    by_cases h : 0 < T i j p
    · have hk : popH T p (j :: i :: t) = j :: i :: t := by simp [popH, h]
      rw [hk]
      refine ⟨fun q => ⟨fun hq => ⟨hq, good_all G hp hpw hm hn h q hq⟩, fun hq => hq.1⟩, hn, hpw, hc⟩
    · have hk : popH T p (j :: i :: t) = popH T p (i :: t) := by simp [popH, h]
      rw [hk]
      have hij : R i j := (List.pairwise_cons.1 hpw).1 i (by simp)
      have hjp := hp j (hm j (by simp)).1
      have ih := pop_spec hp (i :: t) (List.pairwise_cons.1 hpw).2 (fun q hq => hm q (List.mem_cons_of_mem _ hq)) hn.2 (by
        intro c t' he a ha hca
        obtain ⟨rfl, rfl⟩ := List.cons.inj he
        rcases G.tot a j with h1 | h1 | h1
        · have e := hn.1 a ha hca h1
          have g := G.four hca h1 hjp
          unfold G4 TF at g; omega
        · rw [h1]; omega
        · have e := hc j _ rfl a ha h1
          have g := G.four hij h1 (hp a ha)
          unfold G4 TF at g; omega)
      refine ⟨fun q => ?_, ih.2⟩
      rw [ih.1 q]
      constructor
      · exact fun ⟨h1, h2⟩ => ⟨List.mem_cons_of_mem _ h1, h2⟩
      · rintro ⟨h1, h2⟩
        rcases List.mem_cons.1 h1 with rfl | h1
        · exact absurd (h2 i (hm i (by simp)).1 hij) h
        · exact ⟨h1, h2⟩
/-- What is known of the stack when the points of l have been put there. -/
structure Inv (R : Pt → Pt → Prop) (T : Pt → Pt → Pt → Int) (l S : List Pt) : Prop where
  pw : S.Pairwise fun a b => R b a
  mem : ∀ q, q ∈ S ↔ q ∈ l ∧ Ext R T l q
  nei : Nei R T l S
  top : ∀ c t, S = c :: t → ∀ a ∈ l, ¬ R c a
theorem inv_step {l S : List Pt} {p : Pt} (h : Inv R T l S) (hp : ∀ a ∈ l, R a p) : Inv R T (l ++ [p]) (p :: popH T p S) := by
  obtain ⟨h1, h2, h3, h4⟩ := pop_spec G hp S h.pw (fun q hq => (h.mem q).1 hq) h.nei (fun c t he a ha hca => absurd hca (h.top c t he a ha))
  have hS : ∀ q ∈ popH T p S, R q p := fun q hq => hp q ((h.mem q).1 ((h1 q).1 hq).1).1
  refine ⟨List.pairwise_cons.2 ⟨hS, h3⟩, fun q => ?_, ?_, ?_⟩
  · rw [List.mem_cons, List.mem_append, List.mem_singleton, h1 q, h.mem q]
    constructor
    · rintro (rfl | ⟨⟨m1, m2⟩, m3⟩)
      · refine ⟨.inr rfl, fun a ha b hb _ hpb => ?_⟩
        rcases List.mem_append.1 hb with hb | hb
        · exact absurd hpb (G.asym (hp b hb))
        · rw [List.mem_singleton.1 hb] at hpb; exact absurd hpb G.irr
      · refine ⟨.inl m1, fun a ha b hb haq hqb => ?_⟩
        rcases List.mem_append.1 ha with ha | ha
        · rcases List.mem_append.1 hb with hb | hb
          · exact m2 a ha b hb haq hqb
          · rw [List.mem_singleton.1 hb]; exact m3 a ha haq
        · rw [List.mem_singleton.1 ha] at haq; exact absurd haq (G.asym (hp q m1))
    · rintro ⟨m1 | rfl, m2⟩
      · exact .inr ⟨⟨m1, fun a ha b hb => m2 a (List.mem_append_left _ ha) b (List.mem_append_left _ hb)⟩, fun a ha haq => m2 a (List.mem_append_left _ ha) p (by simp) haq (hp q m1)⟩
      · exact .inl rfl
  · have nn : ∀ S, Nei R T l S → (∀ q ∈ S, R q p) → S ≠ [] → Nei R T (l ++ [p]) S := by
      intro S
      induction S with
      | nil => intro _ _ h; exact absurd rfl h
      | cons j t ih =>
        intro hn hr _
        match t, ih, hn, hr with
        | [], _, hn, hr =>
          intro a ha
          rcases List.mem_append.1 ha with ha | ha
          · exact hn a ha
          · rw [List.mem_singleton.1 ha]; exact G.asym (hr j (by simp))
        | i :: t, ih, hn, hr =>
          refine ⟨fun a ha hia haj => ?_, ih hn.2 (fun q hq => hr q (List.mem_cons_of_mem _ hq)) (by simp)⟩
          rcases List.mem_append.1 ha with ha | ha
          · exact hn.1 a ha hia haj
          · rw [List.mem_singleton.1 ha] at haj; exact absurd haj (G.asym (hr j (by simp)))
    cases hk : popH T p S with
    | nil =>
      rw [hk] at h2
      have hl : l = [] := h2
      subst hl
      intro a ha
      rw [List.nil_append, List.mem_singleton] at ha
      rw [ha]; exact G.irr
    | cons c t =>
      refine ⟨fun a ha hca hap => ?_, ?_⟩
      · rcases List.mem_append.1 ha with ha | ha
        · exact h4 c t hk a ha hca
        · rw [List.mem_singleton.1 ha] at hap; exact absurd hap G.irr
      · rw [← hk]; exact nn _ h2 hS (by rw [hk]; simp)
  · intro c t he a ha
    obtain ⟨rfl, -⟩ := List.cons.inj he
    rcases List.mem_append.1 ha with ha | ha
    · exact G.asym (hp a ha)
    · rw [List.mem_singleton.1 ha]; exact G.irr
theorem inv_fold : ∀ (l2 l1 S : List Pt), Inv R T l1 S → (l1 ++ l2).Pairwise R → Inv R T (l1 ++ l2) (l2.foldl (fun s p => p :: popH T p s) S)
  | [], l1, S, h, _ => by rwa [List.append_nil]
  | p :: t, l1, S, h, hp => by
    have h1 := inv_step G h (p := p) (fun a ha => (List.pairwise_append.1 hp).2.2 a ha p (by simp))
    have := inv_fold t (l1 ++ [p]) _ h1 (by simpa using hp)
    simpa using this
theorem stk_inv {l : List Pt} (h : l.Pairwise R) : Inv R T l (stkH T l) := by
  have := inv_fold G l [] [] ⟨List.Pairwise.nil, by simp, rfl, by simp⟩ (by simpa using h)
  rw [List.nil_append] at this
  exact this
/-- Two lists in the same order with the same points are equal. -/
theorem same_of : ∀ {a b : List Pt}, a.Pairwise R → b.Pairwise R → (∀ q, q ∈ a ↔ q ∈ b) → a = b
  | [], [], _, _, _ => rfl
  | [], y :: b, _, _, h => by have := (h y).2 (by simp); simp at this
  | x :: a, [], _, _, h => by have := (h x).1 (by simp); simp at this
  | x :: a, y :: b, ha, hb, h => by
    obtain ⟨ha1, ha2⟩ := List.pairwise_cons.1 ha
    obtain ⟨hb1, hb2⟩ := List.pairwise_cons.1 hb
    have he : x = y := by
      rcases List.mem_cons.1 ((h x).1 (by simp)) with e | e
      · exact e
      · rcases List.mem_cons.1 ((h y).2 (by simp)) with e' | e'
        · exact e'.symm
        · exact absurd (ha1 y e') (G.asym (hb1 x e))
    subst he
    rw [same_of ha2 hb2 fun q => ?_]
    constructor
    · intro hq
      rcases List.mem_cons.1 ((h q).1 (List.mem_cons_of_mem _ hq)) with e | e
      · rw [e] at hq; exact absurd (ha1 x hq) G.irr
      · exact e
    · intro hq
      rcases List.mem_cons.1 ((h q).2 (List.mem_cons_of_mem _ hq)) with e | e
      · rw [e] at hq; exact absurd (hb1 x hq) G.irr
      · exact e
end
/-- The way back along the upper side is the upper side, the other way around. -/
theorem stk_back {l : List Pt} (h : l.Pairwise Bf) : (stkH trn l.reverse).reverse = stkH trnN l := by
  have h1 := stk_inv geo_dn h
  have h2 := stk_inv geo_back (l := l.reverse) (List.pairwise_reverse.2 h)
  have he : stkH trnN l = (stkH trn l.reverse).reverse := by
    refine same_of geo_back h1.pw (List.pairwise_reverse.2 h2.pw) fun q => ?_
    rw [h1.mem, List.mem_reverse, h2.mem, List.mem_reverse]
    refine and_congr_right fun _ => ?_
    unfold Ext
    have e : ∀ a b, trn b q a = trnN a q b := fun a b => by unfold trnN trn; grind
    constructor
    · intro hx a ha b hb hqa hbq
      rw [List.mem_reverse] at ha hb
      rw [e]; exact hx b hb a ha hbq hqa
    · intro hx a ha b hb haq hqb
      rw [← e]; exact hx b (List.mem_reverse.2 hb) a (List.mem_reverse.2 ha) hqb haq
  exact he.symm

/-! ### Points in order, each one once -/
def bfB (a b : Pt) : Bool := decide (a.1 < b.1) || (decide (a.1 = b.1) && decide (a.2 < b.2))
theorem bfB_iff (a b : Pt) : bfB a b = true ↔ Bf a b := by unfold bfB Bf; simp
theorem bfB_no (a b : Pt) : bfB a b = false ↔ ¬ Bf a b := by rw [← bfB_iff]; simp
def insP (p : Pt) : List Pt → List Pt
  | [] => [p]
  | q :: t => if bfB q p = true then q :: insP p t else if q = p then q :: t else p :: q :: t
def srtP (l : List Pt) : List Pt := l.foldl (fun s p => insP p s) []
theorem insP_mem (p q : Pt) : ∀ l, q ∈ insP p l ↔ q = p ∨ q ∈ l
  | [] => by simp [insP]
  | a :: t => by
    unfold insP
    split
    · simp only [List.mem_cons, insP_mem p q t]; grind
    · split
      · next h => subst h; simp
      · simp
theorem insP_pw (p : Pt) : ∀ l : List Pt, l.Pairwise Bf → (insP p l).Pairwise Bf
  | [], _ => by simp [insP]
  | a :: t, h => by
    obtain ⟨h1, h2⟩ := List.pairwise_cons.1 h
    unfold insP
    split
    · next hb =>
      refine List.pairwise_cons.2 ⟨fun b hb' => ?_, insP_pw p t h2⟩
      rcases (insP_mem p b t).1 hb' with rfl | hb'
      · exact (bfB_iff _ _).1 hb
      · exact h1 b hb'
    · next hb =>
      split
      · exact h
      · next hne =>
        have hpa : Bf p a := by
          have hb2 : ¬ Bf a p := fun h => hb ((bfB_iff _ _).2 h)
          rcases geo_up.tot a p with h | h | h
          · exact absurd h hb2
          · exact absurd h hne
          · exact h
        exact List.pairwise_cons.2 ⟨fun b hb' => by
          rcases List.mem_cons.1 hb' with rfl | hb'
          · exact hpa
          · exact geo_up.trans hpa (h1 b hb'), h⟩
theorem insP_fold : ∀ (l s : List Pt), s.Pairwise Bf → (l.foldl (fun s p => insP p s) s).Pairwise Bf ∧ ∀ q, q ∈ l.foldl (fun s p => insP p s) s ↔ q ∈ l ∨ q ∈ s
  | [], s, h => ⟨h, by simp⟩
  | p :: t, s, h => by
    obtain ⟨h1, h2⟩ := insP_fold t (insP p s) (insP_pw p s h)
    refine ⟨h1, fun q => ?_⟩
    rw [List.foldl_cons, h2 q, insP_mem, List.mem_cons]
    grind
theorem srtP_pw (l : List Pt) : (srtP l).Pairwise Bf := (insP_fold l [] List.Pairwise.nil).1
theorem srtP_mem (l : List Pt) (q : Pt) : q ∈ srtP l ↔ q ∈ l := by
  have := (insP_fold l [] List.Pairwise.nil).2 q; simpa [srtP] using this
theorem srtP_snoc (l : List Pt) (p : Pt) : srtP (l ++ [p]) = insP p (srtP l) := by unfold srtP; rw [List.foldl_append]; rfl
theorem srtP_of {l s : List Pt} (h : s.Pairwise Bf) (hm : ∀ q, q ∈ s ↔ q ∈ l) : s = srtP l := same_of geo_up h (srtP_pw l) fun q => by rw [hm, srtP_mem]
theorem insP_le (p : Pt) : ∀ l : List Pt, (insP p l).length ≤ l.length + 1
  | [] => by simp [insP]
  | a :: t => by
    have := insP_le p t
    unfold insP
    split
    · simp; omega
    · split <;> simp
theorem insP_fold_le : ∀ (l s : List Pt), (l.foldl (fun s p => insP p s) s).length ≤ s.length + l.length
  | [], s => by simp
  | p :: t, s => by
    have h1 := insP_fold_le t (insP p s)
    have h2 := insP_le p s
    simp only [List.foldl_cons, List.length_cons]; omega
theorem srtP_le (l : List Pt) : (srtP l).length ≤ l.length := by
  have := insP_fold_le l []; simpa [srtP] using this
theorem srtP_ne {l : List Pt} (h : l ≠ []) : srtP l ≠ [] := by
  obtain ⟨a, ha⟩ := List.exists_mem_of_ne_nil l h
  exact List.ne_nil_of_mem ((srtP_mem l a).2 ha)

/-! ### The hull -/
def lowH (l : List Pt) : List Pt := (stkH trn (srtP l)).reverse
/-- The upper side, from the last point back to the first one. -/
def uppH (l : List Pt) : List Pt := stkH trnN (srtP l)
def hulL (l : List Pt) : List Pt := lowH l ++ (uppH l).tail.dropLast
theorem low_inv (l : List Pt) : Inv Bf trn (srtP l) (stkH trn (srtP l)) := stk_inv geo_up (srtP_pw l)
theorem upp_inv (l : List Pt) : Inv Bf trnN (srtP l) (uppH l) := stk_inv geo_dn (srtP_pw l)
theorem popH_le (T : Pt → Pt → Pt → Int) (p : Pt) : ∀ S : List Pt, (popH T p S).length ≤ S.length
  | [] => by simp [popH]
  | [c] => by simp [popH]
  | j :: i :: t => by
    have := popH_le T p (i :: t)
    unfold popH
    split
    · exact Nat.le_refl _
    · simp only [List.length_cons] at *; omega
theorem stk_fold_le (T : Pt → Pt → Pt → Int) : ∀ (l S : List Pt), (l.foldl (fun s p => p :: popH T p s) S).length ≤ S.length + l.length
  | [], S => by simp
  | p :: t, S => by
    have h1 := stk_fold_le T t (p :: popH T p S)
    have h2 := popH_le T p S
    simp only [List.foldl_cons, List.length_cons] at *; omega
theorem stkH_le (T : Pt → Pt → Pt → Int) (l : List Pt) : (stkH T l).length ≤ l.length := by
  have := stk_fold_le T l []; simpa [stkH] using this
theorem stkH_snoc (T : Pt → Pt → Pt → Int) (l : List Pt) (p : Pt) : stkH T (l ++ [p]) = p :: popH T p (stkH T l) := by unfold stkH; rw [List.foldl_append]; rfl
theorem stk_ne (T : Pt → Pt → Pt → Int) {l : List Pt} (h : l ≠ []) : stkH T l ≠ [] := by
  obtain ⟨a, p, rfl⟩ : ∃ a p, l = a ++ [p] := ⟨_, _, (List.dropLast_concat_getLast h).symm⟩
  rw [stkH_snoc]; simp
/-- Its first element is the last point. -/
theorem stk_head (T : Pt → Pt → Pt → Int) {l : List Pt} (h : l ≠ []) : (stkH T l).head? = l.getLast? := by
  obtain ⟨a, p, rfl⟩ : ∃ a p, l = a ++ [p] := ⟨_, _, (List.dropLast_concat_getLast h).symm⟩
  rw [stkH_snoc]; simp
/-- The model's hull. -/
def hulM (s : List Pt) : List Pt := if s.length < 2 then s else (stkH trn s).reverse.dropLast ++ (stkH trn s.reverse).reverse.dropLast
theorem inv_two {R : Pt → Pt → Prop} {T : Pt → Pt → Pt → Int} (G : Geo R T) {s : List Pt} (h : s.Pairwise R) (h2 : 2 ≤ s.length) : 2 ≤ (stkH T s).length := by
  have hi := stk_inv G h
  match s, h, h2, hi with
  | a :: b :: t, h, _, hi =>
    obtain ⟨c, hc⟩ : ∃ c, c ∈ (b :: t) ∧ ∀ x ∈ a :: b :: t, ¬ R c x := by
      have hne : stkH T (a :: b :: t) ≠ [] := stk_ne T (by simp)
      match hk : stkH T (a :: b :: t), hne with
      | c :: u, _ =>
        have htop := hi.top c u hk
        have hm := ((hi.mem c).1 (by rw [hk]; simp)).1
        refine ⟨c, ?_, htop⟩
        rcases List.mem_cons.1 hm with rfl | hm
        · exact absurd ((List.pairwise_cons.1 h).1 b (by simp)) (htop b (by simp))
        · exact hm
    have ha : a ∈ stkH T (a :: b :: t) := (hi.mem a).2 ⟨by simp, fun x hx y hy hxa _ => by
      rcases List.mem_cons.1 hx with rfl | hx
      · exact absurd hxa G.irr
      · exact absurd hxa (G.asym ((List.pairwise_cons.1 h).1 x hx))⟩
    have hcm : c ∈ stkH T (a :: b :: t) := (hi.mem c).2 ⟨List.mem_cons_of_mem _ hc.1, fun x hx y hy _ hcy => absurd hcy (hc.2 y hy)⟩
    match hk : stkH T (a :: b :: t) with
    | [] => rw [hk] at ha; simp at ha
    | [x] =>
      rw [hk, List.mem_singleton] at ha hcm
      rw [← ha] at hcm
      rw [hcm] at hc
      exact absurd ((List.pairwise_cons.1 h).1 a hc.1) G.irr
    | x :: y :: u => simp
theorem hul_same (l : List Pt) : hulM (srtP l) = hulL l := by
  unfold hulM hulL
  by_cases h : (srtP l).length < 2
  · rw [if_pos h]
    unfold lowH uppH
    match hk : srtP l, h with
    | [], _ => simp [stkH]
    | [c], _ => simp [stkH, popH]
  · rw [if_neg h, stk_back (srtP_pw l)]
    have h1 := inv_two geo_up (srtP_pw l) (by omega)
    have h2 := inv_two geo_dn (srtP_pw l) (by omega)
    have hne : srtP l ≠ [] := fun h0 => by rw [h0] at h; simp at h
    have e1 := stk_head trn hne
    have e2 := stk_head trnN hne
    unfold lowH uppH
    match hk : stkH trn (srtP l), hk' : stkH trnN (srtP l), h1, h2 with
    | a :: t, b :: c :: u, _, _ =>
      rw [hk] at e1; rw [hk', ← e1] at e2
      obtain rfl : b = a := by simpa using e2
      simp

/-! ### Neighbours -/
def All2 (P : Pt → Pt → Prop) : List Pt → Prop
  | a :: b :: t => P a b ∧ All2 P (b :: t)
  | _ => True
theorem all2_join {P : Pt → Pt → Prop} (h : Pt) : ∀ (X t : List Pt), All2 P (X ++ h :: t) ↔ All2 P (X ++ [h]) ∧ All2 P (h :: t)
  | [], t => by simp [All2]
  | [a], t => by simp [All2]
  | a :: b :: X, t => by
    have := all2_join (P := P) h (b :: X) t
    simp only [List.cons_append, All2] at *
    rw [this, and_assoc]
theorem all2_rev {P : Pt → Pt → Prop} : ∀ l : List Pt, All2 P l.reverse ↔ All2 (fun a b => P b a) l
  | [] => by simp [All2]
  | [a] => by simp [All2]
  | a :: b :: t => by
    have ih := all2_rev (P := P) (b :: t)
    rw [List.reverse_cons, List.reverse_cons, List.append_assoc, List.singleton_append, all2_join]
    rw [List.reverse_cons] at ih
    rw [ih]
    simp only [All2]
    constructor
    · exact fun ⟨h, h', _⟩ => ⟨h', h⟩
    · exact fun ⟨h, h'⟩ => ⟨h', h, trivial⟩
theorem all2_imp {P Q : Pt → Pt → Prop} : ∀ {l : List Pt}, (∀ a b, a ∈ l → b ∈ l → P a b → Q a b) → All2 P l → All2 Q l
  | [], _, _ => trivial
  | [_], _, _ => trivial
  | a :: b :: t, h, h' => ⟨h a b (by simp) (by simp) h'.1, all2_imp (fun x y hx hy => h x y (List.mem_cons_of_mem _ hx) (List.mem_cons_of_mem _ hy)) h'.2⟩
theorem all2_pw {P : Pt → Pt → Prop} : ∀ {l : List Pt}, l.Pairwise P → All2 P l
  | [], _ => trivial
  | [_], _ => trivial
  | _ :: _ :: _, h => ⟨(List.pairwise_cons.1 h).1 _ (by simp), all2_pw (List.pairwise_cons.1 h).2⟩
/-- Neighbours all around a list. -/
theorem all2_around {P : Pt → Pt → Prop} {l : List Pt} {h : Pt} (hh : l.head? = some h) : (∀ i, i < l.length → P (l.getD i (0, 0)) (l.getD ((i + 1) % l.length) (0, 0))) ↔ All2 P (l ++ [h]) := by
  have key : ∀ (l : List Pt) (h : Pt), All2 P (l ++ [h]) ↔ ∀ i, i < l.length → P (l.getD i (0, 0)) ((l ++ [h]).getD (i + 1) (0, 0)) := by
    intro l
    induction l with
    | nil => intro h; simp [All2]
    | cons a t ih =>
      intro h
      match t, ih with
      | [], _ => simp [All2]
      | b :: t, ih =>
        rw [List.cons_append, List.cons_append, All2, ← List.cons_append, ih h]
        constructor
        · rintro ⟨h1, h2⟩ i hi
          match i with
          | 0 => simpa using h1
          | i + 1 => simpa using h2 i (by simpa using hi)
        · intro hx
          refine ⟨by simpa using hx 0 (by simp), fun i hi => ?_⟩
          simpa using hx (i + 1) (by simpa using hi)
  rw [key]
  refine forall_congr' fun i => forall_congr' fun hi => ?_
  have he : l.getD ((i + 1) % l.length) (0, 0) = (l ++ [h]).getD (i + 1) (0, 0) := by
    by_cases hl : i + 1 < l.length
    · rw [Nat.mod_eq_of_lt hl]
      simp [List.getD_eq_getElem?_getD, List.getElem?_append, hl]
    · obtain hl : i + 1 = l.length := by omega
      rw [hl, Nat.mod_self]
      simp [List.getD_eq_getElem?_getD]
      cases l with
      | nil => simp at hi
      | cons a t => simp at hh; simp [hh]
  rw [he]

/-! ### A point beside a chain -/
structure Geo3 (R : Pt → Pt → Prop) (T : Pt → Pt → Pt → Int) : Prop extends Geo R T where
  cyc : ∀ a b c, T a b c = T b c a
  swp : ∀ a b c, T a c b = - T a b c
  two : ∀ a b, T a b b = 0
theorem geo3_up : Geo3 Bf trn := { geo_up with
  cyc := by intro a b c; unfold trn; grind
  swp := by intro a b c; unfold trn; grind
  two := by intro a b; unfold trn; grind }
theorem geo3_dn : Geo3 Bf trnN := { geo_dn with
  cyc := by intro a b c; unfold trnN trn; grind
  swp := by intro a b c; unfold trnN trn; grind
  two := by intro a b; unfold trnN trn; grind }
/-- A point is on the right side of all steps of a chain. -/
def Abo (T : Pt → Pt → Pt → Int) (S : List Pt) (p : Pt) : Prop := All2 (fun j i => 0 ≤ T i j p) S
section
variable {R : Pt → Pt → Prop} {T : Pt → Pt → Pt → Int} (G : Geo3 R T)
include G
theorem abo_mem {s S : List Pt} (h : Inv R T s S) {a : Pt} (ha : a ∈ s) : Abo T S a := by
  have key : ∀ S : List Pt, (S.Pairwise fun a b => R b a) → (∀ q ∈ S, q ∈ s ∧ Ext R T s q) → Nei R T s S → Abo T S a := by
    intro S
    induction S with
    | nil => intro _ _ _; trivial
    | cons j t ih =>
      intro hp hm hn
      match t, ih, hp, hm, hn with
      | [], _, _, _, _ => trivial
      | i :: t, ih, hp, hm, hn =>
        refine ⟨?_, ih (List.pairwise_cons.1 hp).2 (fun q hq => hm q (List.mem_cons_of_mem _ hq)) hn.2⟩
        have hij : R i j := (List.pairwise_cons.1 hp).1 i (by simp)
        obtain ⟨mi, ei⟩ := hm i (by simp)
        obtain ⟨mj, ej⟩ := hm j (by simp)
        rcases G.tot a i with h1 | h1 | h1
        · have := ei a ha j mj h1 hij; have := G.cyc a i j; omega
        · subst h1; have := G.cyc a j a; have := G.cyc j a a; have := G.two j a; omega
        · rcases G.tot a j with h2 | h2 | h2
          · have := hn.1 a ha h1 h2; have := G.swp i a j; omega
          · subst h2; have := G.two i a; omega
          · have := ej i mi a ha hij h2; omega
  exact key S h.pw (fun q hq => (h.mem q).1 hq) h.nei
theorem k_up {s : List Pt} {a b p q c : Pt} (ha : a ∈ s) (hb : b ∈ s) (hap : R a p) (hpb : R p b) (ht : T a p b ≤ 0) (hq : Ext R T s q) (hc : c ∈ s) (hpq : R p q) (hqc : R q c) : 0 < T p q c := by
  have haq := G.trans hap hpq
  have e1 := hq a ha c hc haq hqc
  have g1 := G.four hap hpq hqc
  rcases G.tot q b with h | h | h
  · have e2 := hq a ha b hb haq h
    have g2 := G.four hap hpq h
    unfold G4 TF at g1 g2; omega
  · subst h
    unfold G4 TF at g1; omega
  · have e2 := hq b hb c hc h hqc
    have g2 := G.four hap hpb h
    have g3 := G.four hpb h hqc
    unfold G4 TF at g1 g2 g3; omega
theorem k_dn {s : List Pt} {a b p q c : Pt} (ha : a ∈ s) (hb : b ∈ s) (hap : R a p) (hpb : R p b) (ht : T a p b ≤ 0) (hq : Ext R T s q) (hc : c ∈ s) (hqp : R q p) (hcq : R c q) : 0 < T c q p := by
  have hqb := G.trans hqp hpb
  have e1 := hq c hc b hb hcq hqb
  have g1 := G.four hcq hqp hpb
  rcases G.tot q a with h | h | h
  · have e2 := hq c hc a ha hcq h
    have g2 := G.four h hap hpb
    have g3 := G.four hcq h hap
    unfold G4 TF at g1 g2 g3; omega
  · subst h
    unfold G4 TF at g1; omega
  · have e2 := hq a ha b hb h hqb
    have g2 := G.four h hqp hpb
    unfold G4 TF at g1 g2; omega
/-- A point that is no corner changes no corner. -/
theorem ext_more {s s' : List Pt} {p : Pt} (hs : ∀ q, q ∈ s' ↔ q = p ∨ q ∈ s) (hn : ¬ Ext R T s p) (q : Pt) : (q ∈ s' ∧ Ext R T s' q) ↔ q ∈ s ∧ Ext R T s q := by
  have hp : ¬ Ext R T s' p := fun h => hn fun a ha b hb => h a ((hs a).2 (.inr ha)) b ((hs b).2 (.inr hb))
  obtain ⟨a, b, ha, hb, hap, hpb, ht⟩ : ∃ a b, a ∈ s ∧ b ∈ s ∧ R a p ∧ R p b ∧ T a p b ≤ 0 := by
    apply Classical.byContradiction
    intro h
    refine hn fun a ha b hb h1 h2 => ?_
    apply Classical.byContradiction
    intro h3
    exact h ⟨a, b, ha, hb, h1, h2, by omega⟩
  constructor
  · rintro ⟨m, e⟩
    rcases (hs q).1 m with rfl | m
    · exact absurd e hp
    · exact ⟨m, fun x hx y hy => e x ((hs x).2 (.inr hx)) y ((hs y).2 (.inr hy))⟩
  · rintro ⟨m, e⟩
    refine ⟨(hs q).2 (.inr m), fun x hx y hy hxq hqy => ?_⟩
    rcases (hs x).1 hx with rfl | hx
    · rcases (hs y).1 hy with rfl | hy
      · exact absurd hqy (G.asym hxq)
      · exact k_up G ha hb hap hpb ht e hy hxq hqy
    · rcases (hs y).1 hy with rfl | hy
      · exact k_dn G ha hb hap hpb ht e hx hqy hxq
      · exact e x hx y hy hxq hqy
theorem stk_more {s s' : List Pt} {p : Pt} (hs : ∀ q, q ∈ s' ↔ q = p ∨ q ∈ s) (h : s.Pairwise R) (h' : s'.Pairwise R) (hn : ¬ Ext R T s p) : stkH T s' = stkH T s := by
  have h1 := stk_inv G.toGeo h
  have h2 := stk_inv G.toGeo h'
  refine same_of G.toGeo.flip h2.pw h1.pw fun q => ?_
  rw [h1.mem, h2.mem, ext_more G hs hn]
theorem abo_in : ∀ {S : List Pt} {p c d : Pt}, Abo T S p → S.head? = some c → R p c → d ∈ S → R d p → p ∉ S → ∃ i j, i ∈ S ∧ j ∈ S ∧ R i p ∧ R p j ∧ T i p j ≤ 0
  | [], _, _, _, _, h, _, _, _, _ => by simp at h
  | [x], p, c, d, _, h, hpc, hd, hdp, _ => by
    simp at h hd
    subst h; subst hd
    exact absurd hpc (G.asym hdp)
  | j :: i :: t, p, c, d, ha, h, hpc, hd, hdp, hp => by
    obtain rfl : j = c := by simpa using h
    rcases G.tot i p with h1 | h1 | h1
    · have := ha.1; have := G.swp i p j
      exact ⟨i, j, by simp, by simp, h1, hpc, by omega⟩
    · exact absurd (by simp [h1]) hp
    · have hd' : d ∈ i :: t := by
        rcases List.mem_cons.1 hd with e | e
        · subst e; exact absurd hpc (G.asym hdp)
        · exact e
      obtain ⟨x, y, hx, hy, h2⟩ := abo_in (S := i :: t) ha.2 rfl h1 hd' hdp (fun h => hp (List.mem_cons_of_mem _ h))
      exact ⟨x, y, List.mem_cons_of_mem _ hx, List.mem_cons_of_mem _ hy, h2⟩
end
end Go.Proofs.Ytamejfeaniokfaa

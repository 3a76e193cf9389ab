/-
  Slices of slices of integers in the laws: equal ones, marked ones, held ones: what each call returns.
  Conditions: the slices read as the lists that are named; not too many elements.
-/
import Derived.Test.YthegkifhbgopoaaSl
import Derived.Test.YthegkifhbgopoaaCeM
namespace Go.Proofs.Ythegkifhbgopoaa
set_option linter.unusedSimpArgs false
set_option linter.unusedVariables false
open Go.ChangeShapes Go.WideShapes Go.ChangeAt Go.RowKit
open Go.Sort (grow)

/-- Where the slices of a list lie; what marking them all may turn. -/
def InL (P : VL) (lo hi : Nat) : Prop := ∀ p ∈ P, In p.1 lo hi
def InS (v : Value) (P : VL) (lo hi : Nat) : Prop := In v lo hi ∧ InL P lo hi
structure GrL (w w' : World) (P : VL) : Prop where
  os : w'.os = w.os
  tape : w'.tape = w.tape
  output : w'.output = w.output
  size : w'.heap.size = w.heap.size
  block : ∀ g, g < w.heap.size → (∀ p ∈ P, p.1.ownBlock ≠ some g) → w'.heap[g]? = w.heap[g]?
theorem GrL.refl (w : World) (P : VL) : GrL w w P := ⟨rfl, rfl, rfl, rfl, fun _ _ _ => rfl⟩
theorem LS.in_ {w : World} {B : Nat} {v : Value} {P : VL} (h : LS w B v P) : InS v P B w.heap.size := ⟨World.ownsRow.lt h.1, fun p hp => (h.2.1 p hp).lt⟩
theorem LS.drewN {w : World} {B : Nat} {v : Value} {P : VL} (h : LS w B v P) (n : Nat) : LS (w.drewN n) B v P := h
theorem LS.marked {w w' : World} {B a b c d : Nat} {v x : Value} {P : VL} (h : LS w B v P) (hv : InS v P a b) (hx : In x c d) (hd : b ≤ c ∨ d ≤ a) (hg : w.grownBy w' x.ownBlock) : LS w' B v P := by
  have key : ∀ g, (∃ u, u.ownBlock = some g ∧ In u a b) → some g ≠ x.ownBlock := fun g ⟨u, hu, hin⟩ he => by
    have h1 := hin g hu
    have h2 := hx g he.symm
    omega
  refine ⟨⟨h.1.1, ?_⟩, fun p hp => (h.2.1 p hp).other hg fun g hg' => key g ⟨p.1, hg', hv.2 p hp⟩, h.2.2⟩
  rcases h.1.2 with h0 | ⟨g, cap, cur, h1, h2, h3, h4⟩
  · exact .inl h0
  · exact .inr ⟨g, cap, cur, h1, h2, (hg.block g (Array.getElem?_eq_some_iff.1 h3).1 (key g ⟨v, by rw [h1]; rfl, hv.1⟩)).trans h3, h4⟩
theorem IS.markedL {w w' : World} {B a b c d : Nat} {v x : Value} {P : VL} {zs : List Int} (h : IS w B v zs) (hv : In v a b) (hx : InS x P c d) (hd : b ≤ c ∨ d ≤ a) (hg : GrL w w' P) : IS w' B v zs :=
  h.keep fun g hgv => hg.block g (h.lt g hgv).2 fun p hp e => by
    have h1 := hv g hgv
    have h2 := hx.2 p hp g e
    omega
theorem FS.markedL {T : TypeId} {k n : Nat} {w w' : World} {B a b c d : Nat} {v x : Value} {P : VL} {zs : List Int} (h : FS T k w B v n zs) (hv : In v a b) (hx : InS x P c d) (hd : b ≤ c ∨ d ≤ a) (hg : GrL w w' P) : FS T k w' B v n zs :=
  h.keep fun g hgv => hg.block g (h.lt g hgv).2 fun p hp e => by
    have h1 := hv g hgv
    have h2 := hx.2 p hp g e
    omega
theorem LS.markedL {w w' : World} {B a b c d : Nat} {v x : Value} {P Q : VL} (h : LS w B v P) (hv : InS v P a b) (hx : InS x Q c d) (hd : b ≤ c ∨ d ≤ a) (hg : GrL w w' Q) : LS w' B v P := by
  refine ⟨⟨h.1.1, ?_⟩, fun p hp => (h.2.1 p hp).markedL (hv.2 p hp) hx hd hg, h.2.2⟩
  rcases h.1.2 with h0 | ⟨g, cap, cur, h1, h2, h3, h4⟩
  · exact .inl h0
  · exact .inr ⟨g, cap, cur, h1, h2, (hg.block g (Array.getElem?_eq_some_iff.1 h3).1 fun p hp e => by
      have a1 := hv.1 g (by rw [h1]; rfl)
      have a2 := hx.2 p hp g e
      omega).trans h3, h4⟩
theorem belML {w w1 w2 : World} {x : Value} {P : VL} {c d : Nat} (h : Below w.heap.size w w1) (hx : InS x P c d) (hc : w.heap.size ≤ c) (hg : GrL w1 w2 P) : Below w.heap.size w w2 where
  os := hg.os.trans h.os
  tape := hg.tape.trans h.tape
  output := hg.output.trans h.output
  size := by rw [hg.size]; exact h.size
  block := fun k hk => (hg.block k (Nat.lt_of_lt_of_le hk h.size) fun p hp e => by
    have := hx.2 p hp k e
    omega).trans (h.block k hk)
/-! ### Equal -/
theorem lls_eq_bad {P Q : VL} {k : Nat} (hk : k < P.length) (hk' : k < Q.length) (h : pll P k ≠ pll Q k) : lls P ≠ lls Q := fun e => h (by
  have h1 := lls_at hk
  rw [e, lls_at hk'] at h1
  exact (Option.some.inj h1).symm)
theorem lls_next {P Q : VL} {k : Nat} (hk : k < P.length) (hk' : k < Q.length) (h0 : (lls P).take k = (lls Q).take k) (h : pll P k = pll Q k) : (lls P).take (k + 1) = (lls Q).take (k + 1) := by
  rw [List.take_succ_eq_append_getElem (by rw [lls_len]; exact hk), List.take_succ_eq_append_getElem (by rw [lls_len]; exact hk'), h0, lls_get hk, lls_get hk', h]
theorem lls_end {P Q : VL} (hl : P.length = Q.length) (h : (lls P).take P.length = (lls Q).take P.length) : lls P = lls Q := by
  rwa [List.take_of_length_le (by rw [lls_len]; omega), List.take_of_length_le (by rw [lls_len]; omega)] at h
/-! ### Marked, held -/
def mkL : VL → Int → VL
  | [], _ => []
  | (v, zs) :: P, k => (v, upFrom k zs.length) :: mkL P (k + zs.length)
def totL (P : VL) : Nat := (P.map fun p => p.2.length).sum
theorem mkL_len : ∀ (P : VL) (k : Int), (mkL P k).length = P.length
  | [], _ => rfl
  | (v, zs) :: P, k => by simp [mkL, mkL_len P]
theorem mkL_vls : ∀ (P : VL) (k : Int), vls (mkL P k) = vls P
  | [], _ => rfl
  | (v, zs) :: P, k => by
    have := mkL_vls P (k + zs.length)
    unfold vls at this ⊢
    simp only [mkL, List.map_cons, this]
theorem mkL_app : ∀ (P Q : VL) (k : Int), mkL (P ++ Q) k = mkL P k ++ mkL Q (k + (totL P : Nat))
  | [], Q, k => by simp [mkL, totL]
  | (v, zs) :: P, Q, k => by
    rw [List.cons_append, mkL, mkL, mkL_app P Q]
    have : (k + (zs.length : Int)) + ((totL P : Nat) : Int) = k + ((totL ((v, zs) :: P) : Nat) : Int) := by unfold totL; simp; omega
    rw [this]; rfl
theorem totL_app (P Q : VL) : totL (P ++ Q) = totL P + totL Q := by unfold totL; simp
theorem totL_le {P : VL} {c : Nat} (h : ∀ p ∈ P, p.2.length ≤ c) : totL P ≤ P.length * c := by
  induction P with
  | nil => simp [totL]
  | cons p P ih =>
    have h1 := h p (by simp)
    have h2 := ih fun q hq => h q (by simp [hq])
    unfold totL at h2 ⊢
    simp only [List.map_cons, List.sum_cons, List.length_cons, Nat.add_mul]
    omega
theorem LV.mark {w w' : World} {B : Nat} {Q R : VL} {v : Value} {zs ys : List Int} (h : LV w B (Q ++ (v, zs) :: R)) (hg : w.grownBy w' v.ownBlock) (hy : IS w' B v ys) : LV w' B (Q ++ (v, ys) :: R) := by
  obtain ⟨h1, h2⟩ := h
  obtain ⟨a1, a2, a3⟩ := List.pairwise_append.1 h2
  obtain ⟨b1, b2⟩ := List.pairwise_cons.1 a2
  refine ⟨fun p hp => ?_, List.pairwise_append.2 ⟨a1, List.pairwise_cons.2 ⟨b1, b2⟩, fun p hp q hq => ?_⟩⟩
  · rw [List.mem_append, List.mem_cons] at hp
    rcases hp with hp | rfl | hp
    · exact (h1 p (by simp [hp])).other hg fun g hgp e => a3 p hp (v, zs) (by simp) g hgp e.symm
    · exact hy
    · exact (h1 p (by simp [hp])).other hg fun g hgp e => b1 p hp g e.symm hgp
  · rcases List.mem_cons.1 hq with rfl | hq
    · exact a3 p hp (v, zs) (by simp)
    · exact a3 p hp q (by simp [hq])
theorem pl_split {P : VL} {k : Nat} (hk : k < P.length) : P.drop k = (pvl P k, pll P k) :: P.drop (k + 1) := by rw [List.drop_eq_getElem_cons hk, p_eq hk]
theorem pl_take {P : VL} {k : Nat} (hk : k < P.length) : P.take (k + 1) = P.take k ++ [(pvl P k, pll P k)] := by rw [List.take_succ_eq_append_getElem hk, p_eq hk]
/-- Not too much. -/
def FewL (P : VL) : Prop := P.length ≤ 10000 ∧ ∀ p ∈ P, p.2.length ≤ 12
theorem FewL.tot {P : VL} (h : FewL P) (k : Nat) : totL (P.take k) ≤ 120000 := by
  have h1 := totL_le (P := P.take k) fun p hp => h.2 p (List.mem_of_mem_take hp)
  have h2 : (P.take k).length ≤ 10000 := by rw [List.length_take]; have := h.1; omega
  have := Nat.mul_le_mul_right 12 h2
  omega
def MarksL (B : Nat) (v : Value) (k : Int) (P : VL) (w : World) (e : Ending) (w' : World) : Prop := e = .returned (.int .i64 (k + (totL P : Nat))) ∧ LS w' B v (mkL P k) ∧ GrL w w' P ∧ w'.heap.size = w.heap.size
end Go.Proofs.Ythegkifhbgopoaa

/-
  Rows of slices of structs of integers (or of integers), whatever the struct: what may be said of them.
  No condition.
-/
import Derived.Test.YtijmnbgmpakllaaSs
import Derived.Test.YtijmnbgmpakllaaSlLaw
namespace Go.Proofs.Ytijmnbgmpakllaa
set_option linter.unusedSimpArgs false
set_option linter.unusedVariables false
open Go.ChangeShapes Go.WideShapes Go.ChangeAt Go.RowKit
open Go.Sort (grow)

/-- Each reads as its cells, k of them an element, in memory of the call's own; no two share memory. -/
def LVF (E : TypeId) (k : Nat) (w : World) (B : Nat) (P : VL) : Prop := (∀ p ∈ P, FS E k w B p.1 (p.2.length / k) p.2) ∧ P.Pairwise fun p q => ∀ g, p.1.ownBlock = some g → q.1.ownBlock ≠ some g
/-- The slice value v is of this call's own (from block B on); its elements are the slices of P. -/
def LSF (O E : TypeId) (k : Nat) (w : World) (B : Nat) (v : Value) (P : VL) : Prop := w.ownsRow B O 1 v P.length (vls P) ∧ LVF E k w B P
section
variable {O E : TypeId} {k : Nat} {w w' : World} {B B' : Nat} {v : Value} {P : VL}
theorem LVF.below (h : LVF E k w B P) (hb : Below w.heap.size w w') : LVF E k w' B P := ⟨fun p hp => (h.1 p hp).below hb, h.2⟩
theorem LVF.base (h : LVF E k w B P) (hB : B' ≤ B) : LVF E k w B' P := ⟨fun p hp => (h.1 p hp).base hB, h.2⟩
theorem LVF.at (h : LVF E k w B P) {j : Nat} (hj : j < P.length) : FS E k w B (pvl P j) ((pll P j).length / k) (pll P j) := h.1 _ (p_mem hj)
theorem LVF.nil (E : TypeId) (k : Nat) (w : World) (B : Nat) : LVF E k w B [] := ⟨fun _ h => by simp at h, List.Pairwise.nil⟩
theorem LVF.other (h : LVF E k w B P) {row : Option Nat} (hg : w.grownBy w' row) (hne : ∀ g, row = some g → g < B) : LVF E k w' B P :=
  ⟨fun p hp => (h.1 p hp).other hg fun g hg' e => by
    have h1 := (h.1 p hp).lt g hg'
    have h2 := hne g e.symm
    omega, h.2⟩
theorem LVF.snoc (h : LVF E k w B P) {x : Value} {zs : List Int} {C : Nat} (hx : FS E k w C x (zs.length / k) zs) (hB : B ≤ C) (hlo : ∀ p ∈ P, ∀ g, p.1.ownBlock = some g → g < C) : LVF E k w B (P ++ [(x, zs)]) := by
  refine ⟨fun p hp => ?_, List.pairwise_append.2 ⟨h.2, List.pairwise_singleton _ _, fun p hp q hq g hg e => ?_⟩⟩
  · rcases List.mem_append.1 hp with hp | hp
    · exact h.1 p hp
    · rw [List.mem_singleton] at hp; subst hp; exact hx.base hB
  · rw [List.mem_singleton] at hq; subst hq
    have h1 := hlo p hp g hg
    have h2 := hx.lt g e
    omega
theorem LSF.below (h : LSF O E k w B v P) (hb : Below w.heap.size w w') : LSF O E k w' B v P := ⟨sl_below h.1 hb, h.2.below hb⟩
theorem LSF.base (h : LSF O E k w B v P) (hB : B' ≤ B) : LSF O E k w B' v P := ⟨sl_base h.1 hB, h.2.base hB⟩
theorem LSF.drewN (h : LSF O E k w B v P) (n : Nat) : LSF O E k (w.drewN n) B v P := h
theorem LSF.in_ (h : LSF O E k w B v P) : InS v P B w.heap.size := ⟨World.ownsRow.lt h.1, fun p hp => (h.2.1 p hp).lt⟩
theorem LSF.parts (h : LSF O E k w B v P) : ∃ A cap, v = .slice A P.length cap ∧ P.length ≤ maxLen ∧ ∀ j, j < P.length → ∃ g, A = some ⟨g, 0, none⟩ ∧ w.cell? ⟨g, j, none⟩ = some (pvl P j) := by
  rcases h.1.2 with ⟨rfl, h0⟩ | ⟨g, cap, cur, rfl, h2, h3, h4, h5, h6, h7⟩
  · exact ⟨none, 0, by rw [h0], by simp [maxLen, h0], fun j hj => by omega⟩
  · refine ⟨some ⟨g, 0, none⟩, cap, rfl, by omega, fun j hj => ⟨g, rfl, ?_⟩⟩
    rw [World.ownsRow.cellAt h.1 j (by omega), vls_at hj]
theorem LSF.marked {a b c d : Nat} {x : Value} (h : LSF O E k w B v P) (hv : InS v P a b) (hx : In x c d) (hd : b ≤ c ∨ d ≤ a) (hg : w.grownBy w' x.ownBlock) : LSF O E k w' B v P := by
  have key : ∀ g, (∃ u, u.ownBlock = some g ∧ In u a b) → some g ≠ x.ownBlock := fun g ⟨u, hu, hin⟩ he => by
    have h1 := hin g hu
    have h2 := hx g he.symm
    omega
  refine ⟨⟨h.1.1, ?_⟩, fun p hp => (h.2.1 p hp).other hg fun g hg' => key g ⟨p.1, hg', hv.2 p hp⟩, h.2.2⟩
  rcases h.1.2 with h0 | ⟨g, cap, cur, h1, h2, h3, h4⟩
  · exact .inl h0
  · exact .inr ⟨g, cap, cur, h1, h2, (hg.block g (Array.getElem?_eq_some_iff.1 h3).1 (key g ⟨v, by rw [h1]; rfl, hv.1⟩)).trans h3, h4⟩
theorem LSF.markedL {a b c d : Nat} {x : Value} {Q : VL} (h : LSF O E k w B v P) (hv : InS v P a b) (hx : InS x Q c d) (hd : b ≤ c ∨ d ≤ a) (hg : GrL w w' Q) : LSF O E k w' B v P := by
  refine ⟨⟨h.1.1, ?_⟩, fun p hp => (h.2.1 p hp).markedL (hv.2 p hp) hx hd hg, h.2.2⟩
  rcases h.1.2 with h0 | ⟨g, cap, cur, h1, h2, h3, h4⟩
  · exact .inl h0
  · exact .inr ⟨g, cap, cur, h1, h2, (hg.block g (Array.getElem?_eq_some_iff.1 h3).1 fun p hp e => by
      have a1 := hv.1 g (by rw [h1]; rfl)
      have a2 := hx.2 p hp g e
      omega).trans h3, h4⟩
/-- Another slice of integers lies elsewhere than a row of slices. -/
theorem FS.other_row {n : Nat} {zs : List Int} (h : FS E k w B v n zs) {u : Value} {m : Nat} {xs : List Value} (hne : E ≠ O) (hr : w.ownsRow B' O 1 u m xs) : ∀ g, v.ownBlock = some g → u.ownBlock ≠ some g := by
  intro g hg e
  rcases hr.2 with ⟨rfl, -⟩ | ⟨g', cap', cur', rfl, -, hh', -⟩
  · cases e
  · rcases h.2 with ⟨rfl, -⟩ | ⟨g2, cap2, cur2, rfl, -, h3, -⟩
    · cases hg
    · have e1 : g' = g := by simpa [Value.ownBlock] using e
      have e2 : g2 = g := by simpa [Value.ownBlock] using hg
      rw [e1] at hh'
      rw [e2, hh'] at h3
      simp at h3
      exact hne h3.2.symm
/-- A store of one more slice into a row that was made. -/
theorem made_set {P : VL} {n : Nat} {x : Value} {zs : List Int} (hP : P.length < n) : (vls P ++ List.replicate (n - P.length) (Value.slice none 0 0)).set P.length x = vls (P ++ [(x, zs)]) ++ List.replicate (n - (P ++ [(x, zs)]).length) (Value.slice none 0 0) := by
  have e1 : n - P.length = (n - (P.length + 1)) + 1 := by omega
  rw [e1, List.replicate_succ]
  have e2 : (vls P).length = P.length := vls_len P
  rw [List.set_append_right _ _ (by omega), e2, Nat.sub_self]
  simp [vls]
theorem made_all {P : VL} {n : Nat} (h : P.length = n) : vls P ++ List.replicate (n - P.length) (Value.slice none 0 0) = vls P := by
  rw [h, Nat.sub_self]; simp
theorem madeS (n : Nat) : (madeCells (Value.slice none 0 0 : Value).cells (n * 1)).toList = vls [] ++ List.replicate (n - ([] : VL).length) (Value.slice none 0 0) := by
  simp only [madeCells, vls, Value.cells, List.map_nil, List.nil_append, List.length_nil, Nat.sub_zero, Nat.mul_one]
  refine List.eq_replicate_iff.2 ⟨by simp, fun b hb => ?_⟩
  simp [Nat.mod_one] at hb
  exact hb.2.symm
end
/-- As LS says it of slices of integers. -/
theorem LSF.ls {w : World} {B : Nat} {v : Value} {P : VL} (h : LSF 71 3 1 w B v P) : LS w B v P := ⟨h.1, fun p hp => by
  have := h.2.1 p hp
  rw [Nat.div_one] at this
  exact this, h.2.2⟩
theorem LS.lsf {w : World} {B : Nat} {v : Value} {P : VL} (h : LS w B v P) : LSF 71 3 1 w B v P := ⟨h.1, fun p hp => by
  rw [Nat.div_one]
  exact h.2.1 p hp, h.2.2⟩
/-- How many cells all have. -/
theorem totL_take_le (P : VL) (j : Nat) : totL (P.take j) ≤ totL P := by
  have h : totL P = totL (P.take j) + totL (P.drop j) := by rw [← totL_app, List.take_append_drop]
  omega
theorem totL_at {P : VL} {j : Nat} (hj : j < P.length) : totL (P.take (j + 1)) = totL (P.take j) + (pll P j).length := by
  rw [pl_take hj, totL_app]; simp [totL]
theorem totL_cnt {k : Nat} (hk : 0 < k) : ∀ (P : VL), (∀ p ∈ P, k ∣ p.2.length) → totL P = k * cntS k (lls P)
  | [], _ => rfl
  | p :: P, h => by
    have h1 := totL_cnt hk P fun q hq => h q (List.mem_cons_of_mem _ hq)
    obtain ⟨c, hc⟩ := h p (List.mem_cons_self ..)
    have h2 : p.2.length / k = c := by rw [hc]; exact Nat.mul_div_cancel_left _ hk
    have e1 : totL (p :: P) = p.2.length + totL P := by simp [totL]
    have e2 : cntS k (lls (p :: P)) = p.2.length / k + cntS k (lls P) := by simp [cntS, lls]
    rw [e1, e2, h1, h2, hc, Nat.mul_add]
theorem LSF.tot {O E : TypeId} {k : Nat} (hk : 0 < k) {w : World} {B : Nat} {v : Value} {P : VL} (h : LSF O E k w B v P) : totL P = k * cntS k (lls P) :=
  totL_cnt hk P fun p hp => ⟨p.2.length / k, by have := (h.2.1 p hp).len; rw [Nat.mul_comm]; exact this⟩
end Go.Proofs.Ytijmnbgmpakllaa

/-
  The model of cells, third part: a list put into lists in order.
  Conditions: the slices read as the lists that are named; the lists are in order.
-/
import Derived.Test.YthegkifhbgopoaaSl
import Derived.Test.YthegkifhbgopoaaCeS
import Derived.Deep.RegionHeld3
namespace Go.Proofs.Ythegkifhbgopoaa
set_option linter.unusedSimpArgs false
set_option linter.unusedVariables false
open Go.ChangeShapes Go.WideShapes Go.ChangeAt Go.RowKit
open Go.Sort (grow)

/-- What putting a list into lists gives. -/
def GivesPut (x : Value) (zs : List Int) (B : Nat) (P : VL) (w : World) (e : Ending) (w' : World) : Prop :=
  ∃ r P', e = .returned r ∧ LS w' B r P' ∧ lls P' = putX lxL zs (lls P) ∧ (P'.length = 0 → r = .slice none 0 0) ∧ (∀ p ∈ P', p = (x, zs) ∨ p ∈ P) ∧ Below w.heap.size w w'
theorem lls_put (P : VL) (x : Value) (zs : List Int) (k : Nat) : lls (P.take k ++ (x, zs) :: P.drop k) = (lls P).take k ++ zs :: (lls P).drop k := by simp [lls, List.map_take, List.map_drop]
theorem vls_put (P : VL) (x : Value) (zs : List Int) (k : Nat) : vls (P.take k ++ (x, zs) :: P.drop k) = [] ++ (vls P).take k ++ [x] ++ (vls P).drop k := by simp [vls, List.map_take, List.map_drop]
/-- The place that the search finds. -/
theorem putS_at {P : VL} {zs : List Int} {k : Nat} (hlow : ∀ j, j < k → j < P.length ∧ lxL (pll P j) zs = true) (hk : k ≤ P.length) (hend : k < P.length → lxL (pll P k) zs = false) :
    putX lxL zs (lls P) = if k < P.length ∧ pll P k = zs then lls P else (lls P).take k ++ zs :: (lls P).drop k := by
  have hb : befX lxL zs (lls P) = k := befX_step zs (lls P) k (fun j hj hl => by
      have h := hlow j hj
      rw [lls_get h.1 hl]; exact h.2) (by rw [lls_len]; exact hk) (by
      rcases Nat.lt_or_ge k P.length with h | h
      · exact .inr ⟨by rw [lls_len]; exact h, by rw [lls_get h]; exact hend h⟩
      · exact .inl (by rw [lls_len]; omega))
  rw [putX_at totLx, hb]
  by_cases h : k < P.length
  · rw [lls_at h]
    by_cases h2 : pll P k = zs
    · simp [h, h2]
    · simp [h, h2]
  · rw [List.getElem?_eq_none (by rw [lls_len]; omega)]; simp [h]
theorem put_end {w w1 w3 : World} {B k m : Nat} {r x : Value} {P : VL} {zs : List Int} (hV : LV w B P) (hx : IS w B x zs) (hd : ∀ p ∈ P, ∀ g, p.1.ownBlock = some g → x.ownBlock ≠ some g) (hB : B ≤ w1.heap.size) (hbw : Below w.heap.size w w1)
    (hk : k ≤ P.length) (hm : m = P.length - k) (hput : putX lxL zs (lls P) = (lls P).take k ++ zs :: (lls P).drop k)
    (hown : w3.ownsRow w1.heap.size 104 1 r (0 + k + 1 + m) ([] ++ (vls P).take k ++ [x] ++ (vls P).drop k)) (hb : Below w1.heap.size w1 w3) : GivesPut x zs B P w (.returned r) w3 := by
  have hb3 := bel2 hbw hb
  refine ⟨r, P.take k ++ (x, zs) :: P.drop k, rfl, ⟨?_, (hV.put hx hd k).below hb3⟩, by rw [lls_put, hput], fun h => by simp at h, fun p hp => ?_, hb3⟩
  · rw [vls_put, show (P.take k ++ (x, zs) :: P.drop k).length = 0 + k + 1 + m by simp; omega]
    exact sl_base hown hB
  · rw [List.mem_append, List.mem_cons] at hp
    rcases hp with hp | rfl | hp
    · exact .inr (List.mem_of_mem_take hp)
    · exact .inl rfl
    · exact .inr (List.mem_of_mem_drop hp)
end Go.Proofs.Ythegkifhbgopoaa
/-
  The model of cells, fourth part: all cells.
  Condition: the slice reads as the terms that are named; they are valid.
-/
namespace Go.Proofs.Ythegkifhbgopoaa
set_option linter.unusedSimpArgs false
set_option linter.unusedVariables false
open Go.ChangeShapes Go.WideShapes Go.ChangeAt Go.RowKit
open Go.Sort (grow)

theorem CeI.mono {l : List Tm} {D D' : Nat → Nat → Nat → Prop} {out : List (List Int)} (h : CeI l D out) (hD : ∀ a b c, a < b → b < c → c < l.length → (D' a b c ↔ D a b c)) : CeI l D' out :=
  ⟨h.1, fun x => (h.2 x).trans ⟨fun ⟨a, b, c, h1, h2⟩ => ⟨a, b, c, (hD a b c h2.1 h2.2.1 h2.2.2.1).2 h1, h2⟩, fun ⟨a, b, c, h1, h2⟩ => ⟨a, b, c, (hD a b c h2.1 h2.2.1 h2.2.2.1).1 h1, h2⟩⟩⟩
theorem CeI.skip {l : List Tm} {D D' : Nat → Nat → Nat → Prop} {out : List (List Int)} {i j k : Nat} (h : CeI l D out) (hD : ∀ a b c, a < b → b < c → c < l.length → (D' a b c ↔ D a b c ∨ (a = i ∧ b = j ∧ c = k)))
    (hno : tuT (td l i) (td l j) (td l k) = 0 ∨ ¬ okP (plO l i j k) l l.length) : CeI l D' out :=
  ⟨h.1, fun x => (h.2 x).trans ⟨fun ⟨a, b, c, h1, h2⟩ => ⟨a, b, c, (hD a b c h2.1 h2.2.1 h2.2.2.1).2 (.inl h1), h2⟩, fun ⟨a, b, c, h1, h2⟩ => by
    rcases (hD a b c h2.1 h2.2.1 h2.2.2.1).1 h1 with h3 | ⟨rfl, rfl, rfl⟩
    · exact ⟨a, b, c, h3, h2⟩
    · rcases hno with h4 | h4
      · exact absurd h4 h2.2.2.2.1
      · exact absurd h2.2.2.2.2.1 h4⟩⟩
theorem CeI.put {l : List Tm} {D D' : Nat → Nat → Nat → Prop} {out : List (List Int)} {i j k : Nat} (h : CeI l D out) (hD : ∀ a b c, a < b → b < c → c < l.length → (D' a b c ↔ D a b c ∨ (a = i ∧ b = j ∧ c = k)))
    (hij : i < j) (hjk : j < k) (hk : k < l.length) (ht : tuT (td l i) (td l j) (td l k) ≠ 0) (ho : okP (plO l i j k) l l.length) : CeI l D' (putX lxL (zeL (plO l i j k) l l.length) out) :=
  ⟨putX_inc totLx _ h.1, fun x => by
    rw [putX_mem totLx, h.2 x]
    constructor
    · rintro (rfl | ⟨a, b, c, h1, h2⟩)
      · exact ⟨i, j, k, (hD i j k hij hjk hk).2 (.inr ⟨rfl, rfl, rfl⟩), hij, hjk, hk, ht, ho, rfl⟩
      · exact ⟨a, b, c, (hD a b c h2.1 h2.2.1 h2.2.2.1).2 (.inl h1), h2⟩
    · rintro ⟨a, b, c, h1, h2⟩
      rcases (hD a b c h2.1 h2.2.1 h2.2.2.1).1 h1 with h3 | ⟨rfl, rfl, rfl⟩
      · exact .inr ⟨a, b, c, h3, h2⟩
      · exact .inl h2.2.2.2.2.2⟩
theorem CeI.nil (l : List Tm) (D : Nat → Nat → Nat → Prop) (h : ∀ a b c, a < b → b < c → c < l.length → ¬ D a b c) : CeI l D [] :=
  ⟨List.Pairwise.nil, fun x => ⟨fun hx => by simp at hx, fun ⟨a, b, c, h1, h2⟩ => absurd h1 (h a b c h2.1 h2.2.1 h2.2.2.1)⟩⟩
/-- The triples that have been done: before (i), (i, j), (i, j, k). -/
def D1 (i : Nat) (a _b _c : Nat) : Prop := a < i
def D2 (i j : Nat) (a b _c : Nat) : Prop := a < i ∨ (a = i ∧ b < j)
def D3 (i j k : Nat) (a b c : Nat) : Prop := a < i ∨ (a = i ∧ (b < j ∨ (b = j ∧ c < k)))
theorem ceX_cases (p : Tm × Tm) (l : List Tm) : (okP p l l.length ∧ ceX p l = zeL p l l.length) ∨ (¬ okP p l l.length ∧ ceX p l = []) := by
  unfold ceX
  by_cases h : okP p l l.length
  · exact .inl ⟨h, if_pos h⟩
  · exact .inr ⟨h, if_neg h⟩
/-- What is known between two rounds: the lists so far. -/
def OutC (l : List Tm) (B : Nat) (D : Nat → Nat → Nat → Prop) (o : Value) (w : World) : Prop := ∃ P, LS w B o P ∧ CeI l D (lls P) ∧ (P.length = 0 → o = .slice none 0 0)
theorem OutC.mono {l : List Tm} {B : Nat} {D D' : Nat → Nat → Nat → Prop} {o : Value} {w : World} (h : OutC l B D o w) (hD : ∀ a b c, a < b → b < c → c < l.length → (D' a b c ↔ D a b c)) : OutC l B D' o w := by
  obtain ⟨P, h1, h2, h3⟩ := h
  exact ⟨P, h1, h2.mono hD, h3⟩
theorem OutC.below {l : List Tm} {B : Nat} {D : Nat → Nat → Nat → Prop} {o : Value} {w w' : World} (h : OutC l B D o w) (hb : Below w.heap.size w w') : OutC l B D o w' := by
  obtain ⟨P, h1, h2, h3⟩ := h
  exact ⟨P, h1.below hb, h2, h3⟩
theorem OutC.skip {l : List Tm} {B : Nat} {D D' : Nat → Nat → Nat → Prop} {o : Value} {w : World} {i j k : Nat} (h : OutC l B D o w) (hD : ∀ a b c, a < b → b < c → c < l.length → (D' a b c ↔ D a b c ∨ (a = i ∧ b = j ∧ c = k)))
    (hno : tuT (td l i) (td l j) (td l k) = 0 ∨ ¬ okP (plO l i j k) l l.length) : OutC l B D' o w := by
  obtain ⟨P, h1, h2, h3⟩ := h
  exact ⟨P, h1, h2.skip hD hno, h3⟩
end Go.Proofs.Ythegkifhbgopoaa

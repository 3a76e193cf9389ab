/-
  Hulls, polygons and edges in the program: what the calls return.
  Conditions: the slice reads as the list that is named; coordinates of edges are small.
-/
import Derived.Test.YtoecjdpeldcajaaGreatPgK
namespace Go.Proofs.YtoecjdpeldcajaaGreat
set_option linter.unusedSimpArgs false
set_option linter.unusedVariables false
open Go.ChangeShapes Go.WideShapes Go.ChangeAt Go.RowKit
open Go.Sort (grow)

theorem ptsB_few {l : List Pt} (h : ¬ 1 ≤ l.length) : ptsB l = false := by unfold ptsB; rw [decide_eq_false h]; rfl
theorem ptsB_many {l : List Pt} (h : ¬ l.length ≤ 40) : ptsB l = false := by unfold ptsB; rw [decide_eq_false h]; simp
/-- The edge at a corner; all edges. -/
def nxP (l : List Pt) (k : Nat) : Pt := pd l ((k + 1) % l.length)
def edP (l : List Pt) (k : Nat) : Pt := dfP (pd l k) (nxP l k)
def edT (l : List Pt) (k : Nat) : List Pt := (List.range k).map (edP l)
def edL (l : List Pt) : List Pt := if l.length = 1 then [] else edT l l.length
theorem edT_len (l : List Pt) (k : Nat) : (edT l k).length = k := by simp [edT]
theorem edT_next (l : List Pt) (k : Nat) : edT l (k + 1) = edT l k ++ [edP l k] := by simp [edT, List.range_succ]
theorem edT_pd (l : List Pt) {k n : Nat} (h : k < n) : pd (edT l n) k = edP l k := by
  rw [pd_eq _ _ (by rw [edT_len]; exact h)]; simp [edT]
theorem nx_lt {l : List Pt} (h : 0 < l.length) (k : Nat) : (k + 1) % l.length < l.length := Nat.mod_lt _ h
theorem nx_sm {m : Nat} {l : List Pt} (h : ∀ q ∈ l, Sm m q) (h0 : 0 < l.length) (k : Nat) : Sm m (nxP l k) := h _ (pd_mem (nx_lt h0 k))
theorem edL_sm {m : Nat} {l : List Pt} (h : ∀ q ∈ l, Sm m q) : ∀ q ∈ edL l, Sm (2 * m) q := fun q hq => by
  unfold edL at hq
  split at hq
  · simp at hq
  · unfold edT at hq
    obtain ⟨k, hk, rfl⟩ := List.mem_map.1 hq
    have hk := List.mem_range.1 hk
    exact (h _ (pd_mem hk)).df (nx_sm h (by omega) k)
theorem rem_nat (k n : Nat) : ((k : Int) + 1).tmod (n : Int) = (((k + 1) % n : Nat) : Int) := by
  rw [show ((k : Int) + 1) = ((k + 1 : Nat) : Int) by omega]; rfl
theorem partP_pt (zs : List Int) (j : Nat) (hj : j * 2 + 1 < zs.length) : ((part zs (j * 2)).set (j * 2) (gd zs (j * 2))).set (j * 2 + 1) (gd zs (j * 2 + 1)) = part zs ((j + 1) * 2) := by
  rw [part_set zs (j * 2) (by omega), part_set zs (j * 2 + 1) hj]
  congr 1
  omega
/-- A corner's block, the next corner in its row, and nothing that lay there when x was has changed. -/
abbrev SE (x : World) (gc gr o : Nat) (p q : Pt) (w : World) : Prop := w.cell? ⟨gc, 0, none⟩ = some (.int .i64 p.1) ∧ w.cell? ⟨gc, 1, none⟩ = some (.int .i64 p.2) ∧ w.cell? ⟨gr, o, none⟩ = some (.int .i64 q.1) ∧ w.cell? ⟨gr, o + 1, none⟩ = some (.int .i64 q.2) ∧ Below x.heap.size x w
theorem SE.of {x w : World} {gc gr o : Nat} {p q : Pt} (h : P2 w gc p) (h' : X2 w gr o q) (hb : Below x.heap.size x w) : SE x gc gr o p q w := ⟨h.1, h.2, h'.1, h'.2, hb⟩
theorem SE.drew {x w : World} {gc gr o : Nat} {p q : Pt} (h : SE x gc gr o p q w) : SE x gc gr o p q w.drew := ⟨h.1, h.2.1, h.2.2.1, h.2.2.2.1, h.2.2.2.2.drew⟩
theorem SE.gr {x w w' : World} {gc gr o : Nat} {p q : Pt} (h : SE x gc gr o p q w) (g : Gr w w') : SE x gc gr o p q w' := by
  have h1 := P2.below ⟨h.1, h.2.1⟩ g.below
  have h2 := X2.below ⟨h.2.2.1, h.2.2.2.1⟩ g.below
  exact ⟨h1.1, h1.2, h2.1, h2.2, bel2 h.2.2.2.2 g.below⟩
theorem SE.set {x w : World} {gc gr o : Nat} {p q : Pt} (h : SE x gc gr o p q w) (ge j : Nat) (v : Value) (h1 : gc ≠ ge) (h2 : gr ≠ ge) (h3 : x.heap.size ≤ ge) : SE x gc gr o p q (w.setCell ⟨ge, j, none⟩ v) :=
  ⟨(World.cell?_setCell_other _ _ _ _ (by simp <;> omega)).trans h.1, (World.cell?_setCell_other _ _ _ _ (by simp <;> omega)).trans h.2.1, (World.cell?_setCell_other _ _ _ _ (by simp <;> omega)).trans h.2.2.1, (World.cell?_setCell_other _ _ _ _ (by simp <;> omega)).trans h.2.2.2.1, h.2.2.2.2.setCell h3 _⟩
theorem row_cells {T : TypeId} {x w : World} {B g n : Nat} {zs : List Int} (h : x.ownsRow B T 2 (.slice (some ⟨g, 0, none⟩) n n) n (ints zs)) (hb : Below x.heap.size x w) (o : Nat) (ho : o + 1 < n * 2) (hl : n * 2 = zs.length) :
    w.cell? ⟨g, o, none⟩ = some (.int .i64 (gd zs o)) ∧ w.cell? ⟨g, o + 1, none⟩ = some (.int .i64 (gd zs (o + 1))) ∧ w.frozen? ⟨g, o, none⟩ = false ∧ w.frozen? ⟨g, o + 1, none⟩ = false := by
  have hr : w.ownsRow B T 2 (.slice (some ⟨g, 0, none⟩) n n) n (ints zs) := FS.below (zs := zs) h hb
  refine ⟨?_, ?_, World.ownsRow.frozenAt hr _, World.ownsRow.frozenAt hr _⟩
  · rw [World.ownsRow.cellAt hr o (by omega), getD_ints zs o (by omega)]
  · rw [World.ownsRow.cellAt hr (o + 1) (by omega), getD_ints zs (o + 1) (by omega)]
end Go.Proofs.YtoecjdpeldcajaaGreat

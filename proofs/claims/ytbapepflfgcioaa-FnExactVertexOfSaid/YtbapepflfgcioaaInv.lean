/-
  A region that draws its order, by an invariant over what is done: one goal for each operation, whatever the orders.
  Condition: each operation waits for earlier ones alone.
-/
import Derived.Test.YtbapepflfgcioaaGr
import Derived.RegionTactic
import Derived.Orders
namespace Go.Proofs.Ytbapepflfgcioaa
set_option linter.unusedSimpArgs false
set_option linter.unusedVariables false
open Go.RowKit

/-- How many operations are still to come. -/
def leftOps (L : Array Bool) : Nat := L.toList.count false
theorem leftOps_set {L : Array Bool} {i : Nat} (h : L.getD i true = false) : leftOps (L.setIfInBounds i true) + 1 = leftOps L := by
  unfold leftOps
  have hi : i < L.size := by
    rcases Nat.lt_or_ge i L.size with h1 | h1
    · exact h1
    · rw [Array.getD_eq_getD_getElem?, Array.getElem?_eq_none h1] at h; simp at h
  have hv : L[i] = false := by
    rw [Array.getD_eq_getD_getElem?, Array.getElem?_eq_getElem hi] at h; simpa using h
  rw [Array.toList_setIfInBounds, List.count_set (by simpa using hi)]
  have hp : 0 < L.toList.count false := List.count_pos_iff.2 (by rw [← hv]; simp)
  have e1 : (L.toList[i]'(by simpa using hi) == false) = true := by simp [hv]
  rw [if_pos e1, if_neg (by simp)]
  omega
theorem leftOps_zero {L : Array Bool} (h : leftOps L = 0) (i : Nat) : L.getD i true = true := by
  unfold leftOps at h
  rcases Nat.lt_or_ge i L.size with h1 | h1
  · rw [Array.getD_eq_getD_getElem?, Array.getElem?_eq_getElem h1]
    cases hv : L[i]
    · exact absurd (show false ∈ L.toList by rw [← hv]; simp) (List.count_eq_zero.1 h)
    · rfl
  · rw [Array.getD_eq_getD_getElem?, Array.getElem?_eq_none h1]; rfl
section
variable {P : Program} {md : Region.Mode} {ops : Array Oper} {Q : Exit → Act → World → Prop}
theorem wpAny_inv (Inv : Array Bool → Act → World → Prop)
    (hs : ∀ L a w i, Inv L a w → i ∈ Region.ready md ops L → wpOp P ops Q i (fun a' w' => Inv (L.setIfInBounds i true) a' w') a w)
    (he : ∀ L a w, Inv L a w → Region.ready md ops L = [] → Q .normal a w) :
    ∀ (fuel : Nat) (L : Array Bool) (a : Act) (w : World), leftOps L ≤ fuel → Inv L a w → wpAny P md ops Q fuel L a w
  | 0, L, a, w, hl, hI => by
    have hr : Region.ready md ops L = [] := List.eq_nil_iff_forall_not_mem.2 fun i hi => by
      have h1 := (mem_ready.1 hi).1
      rw [leftOps_zero (by omega)] at h1
      cases h1
    exact ⟨hr, he L a w hI hr⟩
  | fuel + 1, L, a, w, hl, hI => by
    refine ⟨fun hr => he L a w hI hr, fun i hi => ?_⟩
    have h1 := (mem_ready.1 hi).1
    have h2 := leftOps_set h1
    exact wpOp_mono (fun a' w' h => wpAny_inv Inv hs he fuel _ a' w' (by omega) h) (hs L a w i hI hi)
/-- Nothing is ready: all is done. -/
theorem ready_nil {L : Array Bool} (hz : L.size = ops.size) (hac : (List.range ops.size).all (fun i => ((ops[i]?).map fun o => o.after.all fun e => !Region.binds md e || decide (e.on < i)).getD true) = true) (h : Region.ready md ops L = []) : ∀ i, i < ops.size → L.getD i false = true := by
  intro i
  induction i using Nat.strongRecOn with
  | ind i ih =>
    intro hi
    cases hv : L.getD i false
    · exfalso
      have hL : L.getD i true = false := by
        rw [Array.getD_eq_getD_getElem?, Array.getElem?_eq_getElem (by omega)] at hv ⊢
        simpa using hv
      have hm : i ∈ Region.ready md ops L := mem_ready.2 ⟨hL, ops[i], Array.getElem?_eq_getElem hi, fun e hee hbi => by
        have h1 := List.all_eq_true.1 hac i (List.mem_range.2 hi)
        rw [Array.getElem?_eq_getElem hi] at h1
        have h3 : ops[i].after.all (fun e => !Region.binds md e || decide (e.on < i)) = true := h1
        have h4 := (Array.all_eq_true_iff_forall_mem.1 h3) e hee
        rw [hbi] at h4
        have h2 : e.on < i := by simpa using h4
        exact ih e.on h2 (by omega)⟩
      rw [h] at hm
      cases hm
    · rfl
theorem wp_region_inv {id : Nat} {a : Act} {w : World} (hm : P.follows .mixedOrders = true) (Inv : Array Bool → Act → World → Prop)
    (h0 : Inv (Array.replicate ops.size false) a w.drew)
    (hs : ∀ L a w i, Inv L a w → i ∈ Region.ready .any ops L → wpOp P ops Q i (fun a' w' => Inv (L.setIfInBounds i true) a' w') a w)
    (he : ∀ L a w, Inv L a w → Region.ready .any ops L = [] → Q .normal a w) : (Code.region id ops true).wp P Q a w :=
  wp_region_any hm (wpAny_inv Inv hs he ops.size _ a _ (by unfold leftOps; simp) h0)
end
theorem belD {x w : World} (h : Below x.heap.size x w) : Below x.heap.size x w.drew := belN h 1
theorem belDN {x w : World} (h : Below x.heap.size x w) (n : Nat) : Below x.heap.size x (w.drewN n) := belN h n
theorem belA1 {x w : World} (h : Below x.heap.size x w) (o : Obj) : Below x.heap.size x (w.alloc o) := h.alloc h.size o
theorem belS {x w : World} (h : Below x.heap.size x w) {g : Nat} (hg : x.heap.size ≤ g) (j : Nat) (v : Value) : Below x.heap.size x (w.setCell ⟨g, j, none⟩ v) := h.setCell hg _
theorem heap_set_at {w : World} {g j : Nat} {cs : Array Value} {T : TypeId} (v : Value) (h : w.heap[g]? = some (.cells cs T (0, 0))) : (w.setCell ⟨g, j, none⟩ v).heap[g]? = some (.cells (cs.setIfInBounds j v) T (0, 0)) := by
  obtain ⟨hlt, hk⟩ := Array.getElem?_eq_some_iff.1 h
  show (w.heap.modify g _)[g]? = _
  rw [Array.getElem?_eq_getElem (by rw [Array.size_modify]; exact hlt), Array.getElem_modify_self, hk]
  rfl
theorem notl {L : Array Bool} {i : Nat} (h : L.getD i true = false) (h' : L.getD i false = true) : False := by
  rw [Array.getD_eq_getD_getElem?] at h h'
  cases hx : L[i]? <;> simp [hx] at h h'
  rw [h] at h'; cases h'
theorem getD_set_same {L : Array Bool} {n i : Nat} (hz : L.size = n) (hi : i < n) : (L.setIfInBounds i true).getD i false = true := by
  rw [Array.getD_eq_getD_getElem?, Array.getElem?_eq_getElem (by simpa [hz] using hi), Array.getElem_setIfInBounds_self]; rfl
/-- What an operation waits for has been done. -/
theorem haf_of {o : Oper} {L : Array Bool} (haf : ∀ e ∈ o.after, Region.binds .any e = true → L.getD e.on false = true) (k : Nat) (h : (o.after.any fun e => e.on == k && Region.binds .any e) = true) : L.getD k false = true := by
  obtain ⟨i, hi, he⟩ := Array.any_eq_true.1 h
  rw [Bool.and_eq_true] at he
  have := haf _ (Array.getElem_mem hi) he.2
  rwa [beq_iff_eq.1 he.1] at this
end Go.Proofs.Ytbapepflfgcioaa

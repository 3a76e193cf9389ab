/-
  slices.SortFunc at rows of rays: what the call does, by the library's proved contract.
  Condition: the slices read as the lists that are named, and are not too long.
-/
import Derived.Test.YthegkifhbgopoaaSortRay
import Derived.Test.YthegkifhbgopoaaSoA
namespace Go.Proofs.Ythegkifhbgopoaa
set_option linter.unusedSimpArgs false
set_option linter.unusedVariables false
open Go.ChangeShapes Go.WideShapes Go.ChangeAt Go.RowKit
open Go.Sort (grow HoldsK Holds putRow putRowK flatK SWO PermIn SortedIn)

def encR (t : Tm) : List Value := [.int .i64 t.1, .int .i64 t.2.1, .int .i64 t.2.2]
theorem encR_len (t : Tm) : (encR t).length = 3 := rfl
theorem encR_one (t : Tm) : ∀ v ∈ encR t, v.oneCell' = true := fun v hv => by
  simp [encR] at hv
  rcases hv with rfl | rfl | rfl <;> rfl
theorem flatR_at (l : List Tm) (k i : Nat) (hk : k < l.length) (hi : i < 3) : (ints (flatT l))[k * 3 + i]? = (encR (td l k))[i]? := by
  rw [getD_ints _ _ (by rw [flatT_len]; omega), show gd (flatT l) (k * 3 + i) = gd (encT l[k]) i from flat_gd encT_len l k i hk hi, ← td_eq l k hk]
  have : i = 0 ∨ i = 1 ∨ i = 2 := by omega
  rcases this with rfl | rfl | rfl <;> rfl
/-- The sort's flat row is ours. -/
theorem flatKR_ints (l : List Tm) : (flatK encR 3 l.toArray).toList = ints (flatT l) := by
  refine List.ext_getElem? fun j => ?_
  by_cases hj : j < l.length * 3
  · have h1 := Sort.get_flatK encR 3 l.toArray j (by simpa using hj)
    have hq : j / 3 < l.length := by omega
    have h2 := flatR_at l (j / 3) (j % 3) hq (by omega)
    rw [show j / 3 * 3 + j % 3 = j by omega] at h2
    rw [h2]
    have hs : j < (flatK encR 3 l.toArray).size := by simpa using hj
    rw [getElem!_pos _ j hs] at h1
    rw [Array.getElem?_toList, Array.getElem?_eq_getElem hs, h1]
    have h3 : (l.toArray)[j / 3]! = td l (j / 3) := by
      rw [getElem!_pos _ _ (by simpa using hq), td_eq l _ hq]; simp
    rw [h3]
    have hr : j % 3 < (encR (td l (j / 3))).length := by rw [encR_len]; omega
    rw [List.getElem?_eq_getElem hr, getElem!_pos (encR (td l (j / 3))) (j % 3) hr]
  · have e1 : (flatK encR 3 l.toArray).toList.length = l.length * 3 := by simp
    have e2 : (ints (flatT l)).length = l.length * 3 := by simp [ints, flatT_len]
    exact (List.getElem?_eq_none (by omega)).trans (List.getElem?_eq_none (by omega)).symm
theorem holdsR_of {w : World} {B : Nat} {g n cap : Nat} {l : List Tm} (hn : n = l.length) (h : w.ownsRow B 39 3 (.slice (some ⟨g, 0, none⟩) n cap) n (ints (flatT l))) : HoldsK encR 3 w g 0 l.toArray := by
  intro j hj
  have hj' : j < l.length * 3 := by simpa using hj
  refine ⟨?_, by rw [Nat.zero_add]; exact World.ownsRow.frozenAt h j⟩
  rw [Nat.zero_add, World.ownsRow.cellAt h j (by omega), ← flatKR_ints, Array.getElem?_toList, Array.getElem?_eq_getElem hj]
  rw [getElem!_pos _ j hj]
  rfl
/-- A row of ours behind the sort. -/
theorem rowR_put {w : World} {B : Nat} {g n cap : Nat} {xs : List Value} {T : TypeId} (h : w.ownsRow B T 3 (.slice (some ⟨g, 0, none⟩) n cap) n xs) (F : Array Value) (hF : F.size = n * 3) (m : Nat) (os : Array Obj) :
    (grow (putRow id (Sort.ahead w m) g 0 F) os).ownsRow B T 3 (.slice (some ⟨g, 0, none⟩) n cap) n F.toList ∧ w.grownBy (grow (putRow id (Sort.ahead w m) g 0 F) os) (some g) := by
  refine ⟨⟨by simpa using hF, ?_⟩, ?_⟩
  · rcases h.2 with ⟨h0, -⟩ | ⟨g', cap', cur, hv, hB, hh, hn, hc, hs, ht⟩
    · cases h0
    · obtain ⟨rfl, rfl⟩ : g = g' ∧ cap = cap' := by simpa using hv
      have hlt : g < w.heap.size := (Array.getElem?_eq_some_iff.1 hh).1
      refine .inr ⟨g, cap, Sort.putCells id 0 F cur, rfl, hB, ?_, hn, hc, by simp [Sort.putCells, hs], ?_⟩
      · rw [Sort.heap_grow_old _ _ (by rw [Sort.size_putRow]; exact hlt)]
        unfold Sort.putRow Sort.mapBlock
        simp only [Sort.ahead]
        rw [Array.getElem?_modify, if_pos rfl, hh]
        rfl
      · refine List.ext_getElem? fun j => ?_
        by_cases hj : j < n * 3
        · have hcs : n * 3 ≤ cap * 3 := Nat.mul_le_mul_right 3 hn
          rw [List.getElem?_take_of_lt hj, Array.getElem?_toList, Array.getElem?_toList, Array.getElem?_eq_getElem (by omega : j < F.size)]
          simp only [Sort.putCells, Array.getElem?_mapIdx]
          rw [Array.getElem?_eq_getElem (by omega : j < cur.size)]
          simp only [Option.map_some, Nat.zero_le, Nat.zero_add, true_and, Nat.sub_zero, id]
          rw [if_pos (by omega), getElem!_pos _ _ (by omega)]
        · rw [List.getElem?_eq_none (by simp; omega), List.getElem?_eq_none (by simp; omega)]
  · refine ⟨rfl, rfl, rfl, ?_, fun k hk hne => ?_⟩
    · show w.heap.size ≤ (_ ++ os).size
      rw [Array.size_append]
      have : (putRow id (Sort.ahead w m) g 0 F).heap.size = w.heap.size := Sort.size_putRow _ _ _ _ _
      omega
    · have hs : (putRow id (Sort.ahead w m) g 0 F).heap.size = w.heap.size := Sort.size_putRow _ _ _ _ _
      rw [Sort.heap_grow_old _ _ (by rw [hs]; exact hk)]
      unfold Sort.putRow Sort.mapBlock
      simp only [Sort.ahead]
      rw [Array.getElem?_modify, if_neg (by rintro rfl; exact hne rfl)]
theorem swo_cmpS : SWO (ltOf cmpS) where
  irrefl x := by
    unfold ltOf
    rw [decide_eq_false_iff_not, cmpS_lt, plLt_iff]; omega
  trans x y z h1 h2 := by
    unfold ltOf at *; rw [decide_eq_true_eq, cmpS_lt] at *; exact plLt_trans h1 h2
  ntrans x y z h1 h2 := by
    unfold ltOf at *
    rw [decide_eq_false_iff_not, cmpS_lt, plLt_iff] at *; omega
/-- What a sort leaves, as lists. -/
theorem sorted_lists {α : Type} [Inhabited α] {lt : α → α → Bool} {l : List α} {d : Array α} (h : PermIn 0 l.toArray.size l.toArray d) (hs : SortedIn lt 0 l.toArray.size d) : d.toList.Perm l ∧ d.toList.Pairwise fun a b => lt b a = false := by
  obtain ⟨h1, -, h3⟩ := h
  have e1 : d.extract 0 l.toArray.size = d := by rw [← h1]; simp
  have e2 : l.toArray.extract 0 l.toArray.size = l.toArray := by simp
  rw [e1, e2] at h3
  refine ⟨h3, ?_⟩
  rw [List.pairwise_iff_getElem]
  intro i j hi hj hij
  have hi' : i < d.size := by simpa using hi
  have hj' : j < d.size := by simpa using hj
  have := hs i j (Nat.zero_le _) hij (by rw [← h1]; exact hj')
  rw [getElem!_pos d i hi', getElem!_pos d j hj'] at this
  simpa using this
theorem cmpR_lays (blk off size : Nat) (w : World) : CmpLays Try.prog 69 #[] encR 3 cmpS blk off size w := fun _ _ _ _ x y => compareSteps_any x y _
theorem entR_cmp : ∀ (args : Array Value) (w : World), (callFunc 69 args).run Try.prog w = .ok (.enter 69 args) w := enters_of Try.func69 (by kernel_rfl) rfl
theorem sortFuncR_any (w : World) (B : Nat) (v : Value) (l : List Tm) (h : RyS w B v l) (hz : l.length ≤ 1000000) : Calls Try.prog 113 #[v, .func (.func 69) #[] #[]] w fun e w' => e = .returned (.tuple #[]) ∧ ∃ d, RyS w' B v d ∧ d.Perm l ∧ Wk d ∧ w.grownBy w' v.ownBlock := by
  have hlen := h.len
  rcases h.2 with ⟨rfl, h0⟩ | ⟨g, cap, cur, rfl, hBg, hh, -⟩
  · have hl : l = [] := List.eq_nil_of_length_eq_zero h0
    subst hl
    have hcon := AnyF.slices_SortFunc_none { Try.sortRay with } none 0 (.func (.func 69) #[] #[]) w
    refine hcon.mono ?_
    rintro e w' ⟨rfl, rfl⟩
    exact ⟨rfl, [], h, List.Perm.refl _, List.Pairwise.nil, World.grownBy.refl _ _⟩
  · have hg : g < w.heap.size := (Array.getElem?_eq_some_iff.1 hh).1
    have hcon := AnyQ.slices_SortFunc Try.sortRay 3 Try.isAgg39 Try.sizeOf39 encR encR_len encR_one cmpS swo_cmpS 69 #[] g 0 cap l.toArray w entR_cmp (cmpR_lays g 0 _ w) (holdsR_of rfl h) hg (by simp; omega)
    have hsz : l.toArray.size = l.length := by simp
    refine Calls.mono (by rw [hsz] at hcon; exact hcon) ?_
    rintro e w' ⟨rfl, d, m, os, hp, hs, rfl⟩
    obtain ⟨p1, p2⟩ := sorted_lists (by rw [hsz]; exact hp) (by rw [hsz]; exact hs)
    have hdl : d.toList.length = l.length := p1.length_eq
    have hF : (flatK encR 3 d.toList.toArray).size = l.length * 3 := by rw [Sort.size_flatK, List.size_toArray, hdl]
    obtain ⟨h1, h2⟩ := rowR_put h (flatK encR 3 d.toList.toArray) hF m os
    rw [show d.toList.toArray = d by simp] at h1 h2
    refine ⟨rfl, d.toList, ?_, p1, p2.imp ?_, h2⟩
    · unfold RyS FS
      rw [hdl, ← flatKR_ints, show d.toList.toArray = d by simp]
      exact h1
    · intro a b hab
      unfold ltOf at hab
      rw [decide_eq_false_iff_not, cmpS_lt] at hab
      simpa using hab
end Go.Proofs.Ythegkifhbgopoaa

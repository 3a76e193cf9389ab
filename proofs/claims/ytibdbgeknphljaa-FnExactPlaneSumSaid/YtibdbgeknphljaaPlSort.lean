/-
  slices.SortFunc at rows of terms: what the call does, by the library's proved contract.
  Condition: the slice reads as the list that is named.
-/
import Derived.Test.YtibdbgeknphljaaSortTerm
import Derived.Test.YtibdbgeknphljaaTmG
namespace Go.Proofs.Ytibdbgeknphljaa
set_option linter.unusedSimpArgs false
set_option linter.unusedVariables false
open Go.ChangeShapes Go.WideShapes Go.ChangeAt Go.RowKit
open Go.Sort (grow HoldsK Holds putRow putRowK flatK SWO)

theorem lt_cmpT (s t : Tm) : ltOf cmpT s t = true ↔ s.1 < t.1 ∨ (s.1 = t.1 ∧ (s.2.1 < t.2.1 ∨ (s.2.1 = t.2.1 ∧ s.2.2 < t.2.2))) := by
  unfold ltOf; rw [decide_eq_true_eq, cmpT_lt]
theorem lt_cmpT_no (s t : Tm) : ltOf cmpT s t = false ↔ ¬ (s.1 < t.1 ∨ (s.1 = t.1 ∧ (s.2.1 < t.2.1 ∨ (s.2.1 = t.2.1 ∧ s.2.2 < t.2.2)))) := by
  rw [← lt_cmpT]; simp
theorem swo_cmpT : SWO (ltOf cmpT) where
  irrefl x := by rw [lt_cmpT_no]; omega
  trans x y z h1 h2 := by rw [lt_cmpT] at *; omega
  ntrans x y z h1 h2 := by rw [lt_cmpT_no] at *; omega
theorem tot_cmpT (x y : Tm) (h : ltOf cmpT x y = false) (h' : ltOf cmpT y x = false) : x = y := by
  rw [lt_cmpT_no] at h h'
  exact tm_ext (by unfold Same; omega) (by omega)
/-- A list of terms in order. -/
def sortT (l : List Tm) : List Tm := l.mergeSort fun x y => !(ltOf cmpT) y x
theorem sortT_perm (l : List Tm) : (sortT l).Perm l := List.mergeSort_perm _ _
theorem sortT_len (l : List Tm) : (sortT l).length = l.length := (sortT_perm l).length_eq
theorem sortT_ord (l : List Tm) : (sortT l).Pairwise fun a b => leT a b = true := by
  have h := List.pairwise_mergeSort (le := fun x y : Tm => !(ltOf cmpT) y x)
    (fun a b c h1 h2 => by
      simp only [Bool.not_eq_true'] at h1 h2 ⊢
      rw [lt_cmpT_no] at *; omega)
    (fun a b => by
      rcases hx : ltOf cmpT b a with _ | _
      · simp
      · have : ltOf cmpT a b = false := by rw [lt_cmpT] at hx; rw [lt_cmpT_no]; omega
        simp [this]) l
  exact h.imp fun {a b} hab => by
    simp only [Bool.not_eq_true'] at hab
    rw [lt_cmpT_no] at hab
    rw [leT_iff]; omega
theorem sort_norm (l : List Tm) : cmpN (sortT l) (sortT l).length = norm l := cmp_norm (sortT_perm l) (sortT_ord l)
def encV (t : Tm) : List Value := [.int .i64 t.1, .int .i64 t.2.1, .int .i64 t.2.2]
theorem encV_len (t : Tm) : (encV t).length = 3 := rfl
theorem encV_one (t : Tm) : ∀ v ∈ encV t, v.oneCell' = true := fun v hv => by
  simp [encV] at hv
  rcases hv with rfl | rfl | rfl <;> rfl
theorem flatT_at (l : List Tm) (k i : Nat) (hk : k < l.length) (hi : i < 3) : (ints (flatT l))[k * 3 + i]? = (encV (td l k))[i]? := by
  rw [getD_ints _ _ (by rw [flatT_len]; omega), show gd (flatT l) (k * 3 + i) = gd (encT l[k]) i from flat_gd encT_len l k i hk hi, ← td_eq l k hk]
  have : i = 0 ∨ i = 1 ∨ i = 2 := by omega
  rcases this with rfl | rfl | rfl <;> rfl
/-- The sort's flat row is ours. -/
theorem flatK_ints (l : List Tm) : (flatK encV 3 l.toArray).toList = ints (flatT l) := by
  refine List.ext_getElem? fun j => ?_
  by_cases hj : j < l.length * 3
  · have h1 := Sort.get_flatK encV 3 l.toArray j (by simpa using hj)
    have hq : j / 3 < l.length := by omega
    have h2 := flatT_at l (j / 3) (j % 3) hq (by omega)
    rw [show j / 3 * 3 + j % 3 = j by omega] at h2
    rw [h2]
    have hs : j < (flatK encV 3 l.toArray).size := by simpa using hj
    rw [getElem!_pos _ j hs] at h1
    rw [Array.getElem?_toList, Array.getElem?_eq_getElem hs, h1]
    have h3 : (l.toArray)[j / 3]! = td l (j / 3) := by
      rw [getElem!_pos _ _ (by simpa using hq), td_eq l _ hq]; simp
    rw [h3]
    have hr : j % 3 < (encV (td l (j / 3))).length := by rw [encV_len]; omega
    rw [List.getElem?_eq_getElem hr, getElem!_pos (encV (td l (j / 3))) (j % 3) hr]
  · have e1 : (flatK encV 3 l.toArray).toList.length = l.length * 3 := by simp
    have e2 : (ints (flatT l)).length = l.length * 3 := by simp [ints, flatT_len]
    exact (List.getElem?_eq_none (by omega)).trans (List.getElem?_eq_none (by omega)).symm
theorem holds_of {w : World} {B : Nat} {g n cap : Nat} {l : List Tm} (hn : n = l.length) (h : w.ownsRow B 54 3 (.slice (some ⟨g, 0, none⟩) n cap) n (ints (flatT l))) : HoldsK encV 3 w g 0 l.toArray := by
  intro j hj
  have hj' : j < l.length * 3 := by simpa using hj
  refine ⟨?_, by rw [Nat.zero_add]; exact World.ownsRow.frozenAt h j⟩
  rw [Nat.zero_add, World.ownsRow.cellAt h j (by omega), ← flatK_ints, Array.getElem?_toList, Array.getElem?_eq_getElem hj]
  rw [getElem!_pos _ j hj]
  rfl
/-- A row of ours behind the sort. -/
theorem put_row {w : World} {B : Nat} {g n cap : Nat} {xs : List Value} {T : TypeId} (h : w.ownsRow B T 3 (.slice (some ⟨g, 0, none⟩) n cap) n xs) (F : Array Value) (hF : F.size = n * 3) (m : Nat) (os : Array Obj) :
    (grow (putRow id (Sort.ahead w m) g 0 F) os).ownsRow B T 3 (.slice (some ⟨g, 0, none⟩) n cap) n F.toList ∧ w.grownBy (grow (putRow id (Sort.ahead w m) g 0 F) os) (some g) := by
  refine ⟨⟨by simpa using hF, ?_⟩, ?_⟩
  · rcases h.2 with ⟨h0, -⟩ | ⟨g', cap', cur, hv, hB, hh, hn, hc, hs, ht⟩
    · cases h0
    · obtain ⟨rfl, rfl⟩ : g = g' ∧ cap = cap' := by simpa using hv
      have hlt : g < w.heap.size := (Array.getElem?_eq_some_iff.1 hh).1
      refine .inr ⟨g, cap, Sort.putCells id 0 F cur, rfl, hB, ?_, hn, hc, by simp [Sort.putCells, hs], ?_⟩
      · rw [Sort.heap_grow_old _ _ (by rw [Sort.size_putRow]; exact hlt)]
        unfold Sort.putRow Sort.mapBlock
        simp only [Sort.ahead]
        rw [Array.getElem?_modify, if_pos rfl, hh]
        rfl
      · refine List.ext_getElem? fun j => ?_
        by_cases hj : j < n * 3
        · have hcs : n * 3 ≤ cap * 3 := Nat.mul_le_mul_right 3 hn
          rw [List.getElem?_take_of_lt hj, Array.getElem?_toList, Array.getElem?_toList, Array.getElem?_eq_getElem (by omega : j < F.size)]
          simp only [Sort.putCells, Array.getElem?_mapIdx]
          rw [Array.getElem?_eq_getElem (by omega : j < cur.size)]
          simp only [Option.map_some, Nat.zero_le, Nat.zero_add, true_and, Nat.sub_zero, id]
          rw [if_pos (by omega), getElem!_pos _ _ (by omega)]
        · rw [List.getElem?_eq_none (by simp; omega), List.getElem?_eq_none (by simp; omega)]
  · refine ⟨rfl, rfl, rfl, ?_, fun k hk hne => ?_⟩
    · show w.heap.size ≤ (_ ++ os).size
      rw [Array.size_append]
      have : (putRow id (Sort.ahead w m) g 0 F).heap.size = w.heap.size := Sort.size_putRow _ _ _ _ _
      omega
    · have hs : (putRow id (Sort.ahead w m) g 0 F).heap.size = w.heap.size := Sort.size_putRow _ _ _ _ _
      rw [Sort.heap_grow_old _ _ (by rw [hs]; exact hk)]
      unfold Sort.putRow Sort.mapBlock
      simp only [Sort.ahead]
      rw [Array.getElem?_modify, if_neg (by rintro rfl; exact hne rfl)]
theorem cmp_lays (blk off size : Nat) (w : World) : CmpLays Try.prog 50 #[] encV 3 cmpT blk off size w := fun _ _ _ _ x y => compareTerms_any x y _
theorem ent_cmp : ∀ (args : Array Value) (w : World), (callFunc 50 args).run Try.prog w = .ok (.enter 50 args) w := enters_of Try.func50 (by kernel_rfl) rfl
theorem sortFunc_any (w : World) (B : Nat) (v : Value) (l : List Tm) (h : TmS w B v l) (hz : l.length ≤ 1000000) : Calls Try.prog 80 #[v, .func (.func 50) #[] #[]] w fun e w' => e = .returned (.tuple #[]) ∧ TmS w' B v (sortT l) ∧ w.grownBy w' v.ownBlock := by
  have hlen := h.len
  rcases h.2 with ⟨rfl, h0⟩ | ⟨g, cap, cur, rfl, hBg, hh, -⟩
  · have hl : l = [] := List.eq_nil_of_length_eq_zero h0
    subst hl
    have hcon := AnyF.slices_SortFunc_none { Try.sortTerm with } none 0 (.func (.func 50) #[] #[]) w
    refine hcon.mono ?_
    rintro e w' ⟨rfl, rfl⟩
    exact ⟨rfl, by simpa [sortT] using h, World.grownBy.refl _ _⟩
  · have hg : g < w.heap.size := (Array.getElem?_eq_some_iff.1 hh).1
    have hcon := AnyQ.slices_SortFunc_total Try.sortTerm 3 Try.isAgg54 Try.sizeOf54 encV encV_len encV_one cmpT swo_cmpT 50 #[] g 0 cap l.toArray w ent_cmp (cmp_lays g 0 _ w) (holds_of rfl h) hg (by simp; omega) tot_cmpT
    rw [List.size_toArray] at hcon
    refine hcon.mono ?_
    rintro e w' ⟨rfl, m, os, rfl⟩
    have hF : (flatK encV 3 (sortT l).toArray).size = l.length * 3 := by rw [Sort.size_flatK, List.size_toArray, sortT_len]
    obtain ⟨h1, h2⟩ := put_row h (flatK encV 3 (sortT l).toArray) hF m os
    refine ⟨rfl, ?_, h2⟩
    unfold TmS FS
    rw [sortT_len, ← flatK_ints]
    exact h1
end Go.Proofs.Ytibdbgeknphljaa

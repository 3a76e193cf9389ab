/-
  Slices of structs of integers, as flat rows of cells: what may be said of them, whatever the struct.
  No condition.
-/
import Derived.Test.YtamejfeaniokfaaTrop
import Derived.RegionTactic
import Derived.Lib.AppendIntMem
import Derived.Deep.RegionWith
import Derived.Shelf.SlSortCmp.QuietGrown
import Derived.BigQuiet
import Derived.StillTailTactics
import Derived.Lib.SliceRun
import Derived.Orders
namespace Go.Proofs.Ytamejfeaniokfaa
set_option linter.unusedSimpArgs false
set_option linter.unusedVariables false
open Go.ChangeShapes Go.WideShapes Go.ChangeAt Go.RowKit

/-- The slice value v is of this call's own (from block B on); its n elements, of k cells each, read cell by cell as zs. -/
def FS (T : TypeId) (k : Nat) (w : World) (B : Nat) (v : Value) (n : Nat) (zs : List Int) : Prop := w.ownsRow B T k v n (ints zs)
section
variable {T : TypeId} {k n : Nat} {w w' : World} {B B' : Nat} {v : Value} {zs : List Int}
theorem FS.len (h : FS T k w B v n zs) : zs.length = n * k := by have := h.1; simpa [ints] using this
theorem FS.base (h : FS T k w B v n zs) (hB : B' ≤ B) : FS T k w B' v n zs := by
  refine ⟨h.1, ?_⟩
  rcases h.2 with h0 | ⟨g, cap, cur, h1, h2, h3⟩
  · exact .inl h0
  · exact .inr ⟨g, cap, cur, h1, by omega, h3⟩
theorem FS.keep (h : FS T k w B v n zs) (hk : ∀ g, v.ownBlock = some g → w'.heap[g]? = w.heap[g]?) : FS T k w' B v n zs := by
  refine ⟨h.1, ?_⟩
  rcases h.2 with h0 | ⟨g, cap, cur, h1, h2, h3, h4⟩
  · exact .inl h0
  · exact .inr ⟨g, cap, cur, h1, h2, (hk g (by rw [h1]; rfl)).trans h3, h4⟩
theorem FS.lt (h : FS T k w B v n zs) : ∀ g, v.ownBlock = some g → B ≤ g ∧ g < w.heap.size := World.ownsRow.lt h
theorem FS.in_ (h : FS T k w B v n zs) : In v B w.heap.size := h.lt
theorem FS.below (h : FS T k w B v n zs) (hb : Below w.heap.size w w') : FS T k w' B v n zs := h.keep fun g hg => hb.block g (h.lt g hg).2
theorem FS.drewN (h : FS T k w B v n zs) (m : Nat) : FS T k (w.drewN m) B v n zs := h
theorem FS.alloc (h : FS T k w B v n zs) (o : Obj) : FS T k (w.alloc o) B v n zs := World.ownsRow.alloc h o
theorem FS.other (h : FS T k w B v n zs) {row : Option Nat} (hg : w.grownBy w' row) (hne : ∀ g, v.ownBlock = some g → some g ≠ row) : FS T k w' B v n zs :=
  h.keep fun g hv => hg.block g (h.lt g hv).2 (hne g hv)
theorem FS.marked {a b c d : Nat} {x : Value} (h : FS T k w B v n zs) (hv : In v a b) (hx : In x c d) (hd : b ≤ c ∨ d ≤ a) (hg : w.grownBy w' x.ownBlock) : FS T k w' B v n zs :=
  h.other hg fun g hgv he => by
    have h1 := hv g hgv
    have h2 := hx g he.symm
    omega
theorem FS.nil_ (T : TypeId) (k : Nat) (w : World) (B : Nat) : FS T k w B (.slice none 0 0) 0 [] := World.ownsRow_nil w B _ k
theorem FS.parts (h : FS T k w B v n zs) : ∃ A cap, v = .slice A n cap ∧ n ≤ maxLen ∧ ∀ j, j < n * k → ∃ g, A = some ⟨g, 0, none⟩ ∧ w.cell? ⟨g, j, none⟩ = some (.int .i64 (gd zs j)) := by
  have hl := h.len
  rcases h.2 with ⟨rfl, h0⟩ | ⟨g, cap, cur, rfl, h2, h3, h4, h5, h6, h7⟩
  · exact ⟨none, 0, by rw [h0], by simp [maxLen, h0], fun j hj => by rw [h0] at hj; omega⟩
  · refine ⟨some ⟨g, 0, none⟩, cap, rfl, by omega, fun j hj => ⟨g, rfl, ?_⟩⟩
    rw [World.ownsRow.cellAt h j hj, getD_ints zs j (by omega)]
/-- Elements behind an owned row. -/
theorem FS.snoc {m : Nat} {es : List Int} (h : w'.ownsRow B T k v (n + m) (ints zs ++ ints es)) : FS T k w' B v (n + m) (zs ++ es) := by
  unfold FS ints
  rw [List.map_append]
  exact h
end
theorem FS.drew {T : TypeId} {k n : Nat} {w : World} {B : Nat} {v : Value} {zs : List Int} (h : FS T k w B v n zs) : FS T k w.drew B v n zs := h
/-- An append onto an owned row, at a step of a region that draws. -/
theorem step_append_own {P : Program} {w : World} {ops : Array Oper} {o : Oper} {a : Act} {K : Act → World → Prop} {Q : Exit → Act → World → Prop} {E : Prop} (hgd : o.guard = none) (s x : Operand) (t : TypeId)
    (ho : o.op = .call { callee := .builtin .append, args := #[s, x], argTypes := #[t, t] })
    (base : Nat) (e : TypeId) (i : TypeInfo) (z : Value) (size bytes : Nat) (ht : P.underlying t = some (.slice e)) (hi : P.info? e = some i) (hz : i.zero = some z)
    (hsize : i.size = size) (hby : i.bytes = bytes) (hzs : z.cells.size = size) (hsz : 0 < size)
    (v : Value) (n : Nat) (xs : List Value) (hs : a.eval s = v) (hown : w.ownsRow base e size v n xs)
    (ad : Addr) (m c : Nat) (news : List Value) (hx : a.eval x = .slice (some ad) m c) (hl : news.length = m * size) (hnews : ∀ j u, news[j]? = some u → w.cell? (ad.add j) = some u) (h1 : ∀ u ∈ news, u.oneCell' = true)
    (h63 : n + m ≤ maxLen) (hbytes : (n + m) * bytes ≤ 140737488355328) (hbase : base ≤ w.heap.size)
    (h : ∀ v' w', w'.ownsRow base e size v' (n + m) (xs ++ news) → w.grownBy w' v.ownBlock → (v' = .slice none 0 0 ↔ v = .slice none 0 0 ∧ m = 0) → K (a.put o.dst v') w') :
    if Region.wanted o (yielded ops a.tmps) = true then Oper.wp P o a w K Q else E := by
  have hw : Region.wanted o (yielded ops a.tmps) = true := by simp [Region.wanted, hgd]
  rw [if_pos hw]
  exact wp_append_own w s x t ho base e i z size bytes ht hi hz hsize hby hzs hsz v n xs hs hown ad m c news hx hl hnews h1 h63 hbytes hbase h
theorem new_cells (w : World) (T : TypeId) (cs : Array Value) : ∀ j u, cs.toList[j]? = some u → (w.alloc (.cells cs T)).cell? ((⟨w.heap.size, 0, none⟩ : Addr).add j) = some u := by
  intro j u h
  have h0 : (⟨w.heap.size, 0, none⟩ : Addr).add j = ⟨w.heap.size, j, none⟩ := by simp [Addr.add]; try omega
  rw [h0, cell_of_row (w.alloc (.cells cs T)) w.heap.size j cs T (0, 0) (heap_alloc_new w _), ← h, Array.getElem?_toList]

/-! ### Flat lists of elements -/
theorem gd_app_ge (a b : List Int) (n : Nat) : gd (a ++ b) (a.length + n) = gd b n := by
  unfold gd; rw [List.getD_eq_getElem?_getD, List.getD_eq_getElem?_getD, List.getElem?_append_right (by omega)]; congr 2; omega
theorem gd_app_lt {a b : List Int} {n : Nat} (h : n < a.length) : gd (a ++ b) n = gd a n := by
  unfold gd; rw [List.getD_eq_getElem?_getD, List.getD_eq_getElem?_getD, List.getElem?_append_left h]
theorem flat_len {α : Type} {f : α → List Int} {k : Nat} (hf : ∀ a, (f a).length = k) : ∀ (l : List α), (l.flatMap f).length = l.length * k
  | [] => by simp
  | a :: l => by rw [List.flatMap_cons, List.length_append, hf, flat_len hf l, List.length_cons, Nat.add_mul]; omega
theorem flat_gd {α : Type} {f : α → List Int} {k : Nat} (hf : ∀ a, (f a).length = k) : ∀ (l : List α) (j i : Nat) (hj : j < l.length), i < k → gd (l.flatMap f) (j * k + i) = gd (f l[j]) i
  | [], _, _, hj, _ => by simp at hj
  | a :: l, 0, i, _, hi => by rw [List.flatMap_cons, Nat.zero_mul, Nat.zero_add, gd_app_lt (by rw [hf]; exact hi)]; rfl
  | a :: l, j + 1, i, hj, hi => by
    rw [List.flatMap_cons, Nat.add_mul, Nat.one_mul, show j * k + k + i = (f a).length + (j * k + i) by rw [hf]; omega, gd_app_ge, flat_gd hf l j i (by simpa using hj) hi]
    rfl
theorem flat_snoc {α : Type} {f : α → List Int} (l : List α) (a : α) : (l ++ [a]).flatMap f = l.flatMap f ++ f a := by simp
/-- What marking does: the cells count up from k, nothing else has changed. -/
def MarksF (T : TypeId) (c : Nat) (B : Nat) (v : Value) (k : Int) (n : Nat) (w : World) (e : Ending) (w' : World) : Prop :=
  e = .returned (.int .i64 (k + (n * c : Nat))) ∧ FS T c w' B v n (upFrom k (n * c)) ∧ w.grownBy w' v.ownBlock ∧ w'.heap.size = w.heap.size
end Go.Proofs.Ytamejfeaniokfaa
/-
  Worlds that have come of another one by draws and new blocks alone; rows of structs of integers behind a make.
  No condition.
-/
namespace Go.Proofs.Ytamejfeaniokfaa
set_option linter.unusedSimpArgs false
set_option linter.unusedVariables false
open Go.ChangeShapes Go.WideShapes Go.ChangeAt Go.RowKit
open Go.Sort (grow)

/-- A world that has come of another one by draws and new blocks alone. -/
abbrev Gr (w w' : World) : Prop := ∃ (q : Nat) (os : Array Obj), w' = grow (w.drewN q) os
theorem Gr.below {w w' : World} (h : Gr w w') : Below w.heap.size w w' := by
  obtain ⟨q, os, rfl⟩ := h
  exact Lib.below_grow _ w (Nat.le_refl _) q os
theorem gr1 (w : World) (o : Obj) : Gr w (w.alloc o) := ⟨0, #[o], by rw [Sort.alloc_eq_grow]; rfl⟩
theorem gr2 (w : World) (o o' : Obj) : Gr w ((w.alloc o).alloc o') := ⟨0, #[o, o'], by rw [Sort.alloc_eq_grow, Sort.alloc_eq_grow, Sort.grow_grow]; rfl⟩
theorem Gr.trans {w w1 w2 : World} (h : Gr w w1) (h' : Gr w1 w2) : Gr w w2 := by
  obtain ⟨n, os, rfl⟩ := h
  obtain ⟨m, os', rfl⟩ := h'
  exact ⟨n + m, os ++ os', by show grow (grow ((w.drewN n).drewN m) os) os' = _; rw [Sort.grow_grow, World.drewN_drewN]⟩
theorem gr0 (w : World) : Gr w w := ⟨0, #[], by rw [Sort.grow_empty]; rfl⟩
theorem grB {w : World} (q : Nat) (os : Array Obj) : Below w.heap.size w (grow (w.drewN q) os) := Lib.below_grow _ w (Nat.le_refl _) q os
theorem gr3 (w : World) (o o' o'' : Obj) : Gr w (((w.alloc o).alloc o').alloc o'') := (gr2 w o o').trans (gr1 _ _)
theorem add_at (a : Addr) (i j : Nat) (hj : 0 < j) : (⟨(a.add i).block, (a.add i).off + j, none⟩ : Addr) = a.add (i + j) := by
  unfold Addr.add
  by_cases h : i = 0
  · subst h
    rw [if_neg (show ¬ 0 + j = 0 by omega), Nat.zero_add]
    rfl
  · rw [if_neg h, if_neg (show ¬ i + j = 0 by omega), ← Nat.add_assoc]
theorem box_o {w w' : World} {a : Addr} {v : Value} (h : w.cell? a = some v) (hb : Below w.heap.size w w') : w'.cell? a = some v := (hb.cell (p := a) (cell_lt h)).trans h
theorem Gr.drew {w w' : World} (h : Gr w w') : Gr w w'.drew := h.trans ⟨1, #[], by rw [Sort.grow_empty]; rfl⟩
theorem Gr.drewN {w w' : World} (h : Gr w w') (n : Nat) : Gr w (w'.drewN n) := h.trans ⟨n, #[], by rw [Sort.grow_empty]⟩
theorem Gr.alloc {w w' : World} (h : Gr w w') (o : Obj) : Gr w (w'.alloc o) := h.trans (gr1 _ _)
/-- The cells of a made row of structs of integers. -/
theorem made_ints (k n : Nat) (h : 0 < k) : (madeCells (List.replicate k (Value.int .i64 0)).toArray n).toList = ints (List.replicate n 0) := by
  refine List.ext_getElem (by simp [madeCells, ints]) fun i h1 h2 => ?_
  have h3 : i % k < k := Nat.mod_lt _ h
  simp [madeCells, ints, h3]
end Go.Proofs.Ytamejfeaniokfaa
/-
  Rows of cells: their first elements, runs of stores, clearing; an append of one element at a step of a drawn region.
  No condition.
-/
namespace Go.Proofs.Ytamejfeaniokfaa
set_option linter.unusedSimpArgs false
set_option linter.unusedVariables false
open Go.ChangeShapes Go.WideShapes Go.ChangeAt Go.RowKit
open Go.Sort (grow)

/-- The first elements of a row. -/
theorem row_cut {T : TypeId} {k n m cap : Nat} {w : World} {B : Nat} {A : Option Addr} {xs : List Value} (h : w.ownsRow B T k (.slice A n cap) n xs) (hm : m ≤ n) : w.ownsRow B T k (.slice A m cap) m (xs.take (m * k)) := by
  have hlen := h.1
  rcases h.2 with ⟨h0, h1⟩ | ⟨g, cap', cur, hv, hB, hh, hn, hc, hs, ht⟩
  · simp only [Value.slice.injEq] at h0
    obtain ⟨rfl, rfl, rfl⟩ := h0
    obtain rfl : m = 0 := by omega
    refine ⟨by simp, .inl ⟨rfl, rfl⟩⟩
  · simp only [Value.slice.injEq, true_and] at hv
    obtain ⟨rfl, rfl⟩ := hv
    have hmk : m * k ≤ n * k := Nat.mul_le_mul_right k hm
    refine ⟨by simp; omega, .inr ⟨g, cap, cur, rfl, hB, hh, by omega, hc, hs, ?_⟩⟩
    rw [← ht, List.take_take, Nat.min_eq_left hmk]
/-- A run of stores into a row of ours. -/
theorem row_stores {T : TypeId} {k n cap g B : Nat} : ∀ (vs : List Value) (o : Nat) (w : World) (xs : List Value), w.ownsRow B T k (.slice (some ⟨g, 0, none⟩) n cap) n xs →
    ∃ ys, (w.setCells g o vs).ownsRow B T k (.slice (some ⟨g, 0, none⟩) n cap) n ys ∧ w.grownBy (w.setCells g o vs) (some g) ∧ ys.take o = xs.take o
  | [], o, w, xs, h => ⟨xs, h, World.grownBy.refl _ _, rfl⟩
  | v :: r, o, w, xs, h => by
    have s := World.ownsRow.stored h o v
    obtain ⟨ys, h1, h2, h3⟩ := row_stores r (o + 1) _ _ s.1
    refine ⟨ys, h1, Lib.grownBy_trans s.2 h2, ?_⟩
    have h4 := congrArg (List.take o) h3
    rw [List.take_take, List.take_take, Nat.min_eq_left (by omega)] at h4
    rw [h4, List.take_set_of_le (Nat.le_refl _)]
theorem clear_at {P : Program} (w : World) (t e ty : TypeId) (z : Value) (ht : P.underlying t = some (.slice e)) (hv : ∀ w, (zeroValue e).run P w = .ok z w) (k : Nat) (hk : 0 < k) (hz : z.cells = (List.replicate k (Value.int .i64 0)).toArray) (b o n c : Nat) (hn : 0 < n)
    (hc : ∀ j, j < n * k → (w.cell? ⟨b, o + j, none⟩).isSome = true) (hf : ∀ j, j < n * k → w.frozen? ⟨b, o + j, none⟩ = false) :
    (Builtin.clear_ #[t] ty #[.slice (some ⟨b, o, none⟩) n c]).run P w = .ok (.tuple #[]) (w.setCells b o (ints (List.replicate (n * k) 0))) := by
  have hzc : (Builtin.zeroCells z.cells n).toList = ints (List.replicate (n * k) 0) := by
    rw [hz]
    refine List.ext_getElem (by simp [Builtin.zeroCells, ints]) fun i h1 h2 => ?_
    have h3 : i % k < k := Nat.mod_lt _ hk
    simp [Builtin.zeroCells, ints, h3]
  have hlen : (ints (List.replicate (n * k) (0 : Int))).length = n * k := by simp [ints]
  have hst := run_storeCells_cells (P := P) b o (ints (List.replicate (n * k) 0)) 0 w (by simpa [ints] using hc) (by simpa [ints] using hf) (by intro v hv'; simp [ints] at hv'; rw [hv'.2]; rfl)
  simp only [Nat.add_zero] at hst
  obtain ⟨L, hL⟩ : ∃ L, L = ints (List.replicate (n * k) 0) := ⟨_, rfl⟩
  rw [← hL] at hzc hst ⊢
  clear hL hlen
  obtain ⟨m, rfl⟩ : ∃ m, n = m + 1 := ⟨n - 1, by omega⟩
  simp [Builtin.clear_, run_underlying ht, hv, hzc, hst]
end Go.Proofs.Ytamejfeaniokfaa
/-
  A region that draws its order, by an invariant over what is done: one goal for each operation, whatever the orders.
  Condition: each operation waits for earlier ones alone.
-/
namespace Go.Proofs.Ytamejfeaniokfaa
set_option linter.unusedSimpArgs false
set_option linter.unusedVariables false
open Go.RowKit

/-- How many operations are still to come. -/
def leftOps (L : Array Bool) : Nat := L.toList.count false
theorem leftOps_set {L : Array Bool} {i : Nat} (h : L.getD i true = false) : leftOps (L.setIfInBounds i true) + 1 = leftOps L := by
  unfold leftOps
  have hi : i < L.size := by
    rcases Nat.lt_or_ge i L.size with h1 | h1
    · exact h1
    · rw [Array.getD_eq_getD_getElem?, Array.getElem?_eq_none h1] at h; simp at h
  have hv : L[i] = false := by
    rw [Array.getD_eq_getD_getElem?, Array.getElem?_eq_getElem hi] at h; simpa using h
  rw [Array.toList_setIfInBounds, List.count_set (by simpa using hi)]
  have hp : 0 < L.toList.count false := List.count_pos_iff.2 (by rw [← hv]; simp)
  have e1 : (L.toList[i]'(by simpa using hi) == false) = true := by simp [hv]
  rw [if_pos e1, if_neg (by simp)]
  omega
theorem leftOps_zero {L : Array Bool} (h : leftOps L = 0) (i : Nat) : L.getD i true = true := by
  unfold leftOps at h
  rcases Nat.lt_or_ge i L.size with h1 | h1
  · rw [Array.getD_eq_getD_getElem?, Array.getElem?_eq_getElem h1]
    cases hv : L[i]
    · exact absurd (show false ∈ L.toList by rw [← hv]; simp) (List.count_eq_zero.1 h)
    · rfl
  · rw [Array.getD_eq_getD_getElem?, Array.getElem?_eq_none h1]; rfl
section
variable {P : Program} {md : Region.Mode} {ops : Array Oper} {Q : Exit → Act → World → Prop}
theorem wpAny_inv (Inv : Array Bool → Act → World → Prop)
    (hs : ∀ L a w i, Inv L a w → i ∈ Region.ready md ops L → wpOp P ops Q i (fun a' w' => Inv (L.setIfInBounds i true) a' w') a w)
    (he : ∀ L a w, Inv L a w → Region.ready md ops L = [] → Q .normal a w) :
    ∀ (fuel : Nat) (L : Array Bool) (a : Act) (w : World), leftOps L ≤ fuel → Inv L a w → wpAny P md ops Q fuel L a w
  | 0, L, a, w, hl, hI => by
    have hr : Region.ready md ops L = [] := List.eq_nil_iff_forall_not_mem.2 fun i hi => by
      have h1 := (mem_ready.1 hi).1
      rw [leftOps_zero (by omega)] at h1
      cases h1
    exact ⟨hr, he L a w hI hr⟩
  | fuel + 1, L, a, w, hl, hI => by
    refine ⟨fun hr => he L a w hI hr, fun i hi => ?_⟩
    have h1 := (mem_ready.1 hi).1
    have h2 := leftOps_set h1
    exact wpOp_mono (fun a' w' h => wpAny_inv Inv hs he fuel _ a' w' (by omega) h) (hs L a w i hI hi)
/-- Nothing is ready: all is done. -/
theorem ready_nil {L : Array Bool} (hz : L.size = ops.size) (hac : (List.range ops.size).all (fun i => ((ops[i]?).map fun o => o.after.all fun e => !Region.binds md e || decide (e.on < i)).getD true) = true) (h : Region.ready md ops L = []) : ∀ i, i < ops.size → L.getD i false = true := by
  intro i
  induction i using Nat.strongRecOn with
  | ind i ih =>
    intro hi
    cases hv : L.getD i false
    · exfalso
      have hL : L.getD i true = false := by
        rw [Array.getD_eq_getD_getElem?, Array.getElem?_eq_getElem (by omega)] at hv ⊢
        simpa using hv
      have hm : i ∈ Region.ready md ops L := mem_ready.2 ⟨hL, ops[i], Array.getElem?_eq_getElem hi, fun e hee hbi => by
        have h1 := List.all_eq_true.1 hac i (List.mem_range.2 hi)
        rw [Array.getElem?_eq_getElem hi] at h1
        have h3 : ops[i].after.all (fun e => !Region.binds md e || decide (e.on < i)) = true := h1
        have h4 := (Array.all_eq_true_iff_forall_mem.1 h3) e hee
        rw [hbi] at h4
        have h2 : e.on < i := by simpa using h4
        exact ih e.on h2 (by omega)⟩
      rw [h] at hm
      cases hm
    · rfl
theorem wp_region_inv {id : Nat} {a : Act} {w : World} (hm : P.follows .mixedOrders = true) (Inv : Array Bool → Act → World → Prop)
    (h0 : Inv (Array.replicate ops.size false) a w.drew)
    (hs : ∀ L a w i, Inv L a w → i ∈ Region.ready .any ops L → wpOp P ops Q i (fun a' w' => Inv (L.setIfInBounds i true) a' w') a w)
    (he : ∀ L a w, Inv L a w → Region.ready .any ops L = [] → Q .normal a w) : (Code.region id ops true).wp P Q a w :=
  wp_region_any hm (wpAny_inv Inv hs he ops.size _ a _ (by unfold leftOps; simp) h0)
end
theorem belD {x w : World} (h : Below x.heap.size x w) : Below x.heap.size x w.drew := belN h 1
theorem belDN {x w : World} (h : Below x.heap.size x w) (n : Nat) : Below x.heap.size x (w.drewN n) := belN h n
theorem belA1 {x w : World} (h : Below x.heap.size x w) (o : Obj) : Below x.heap.size x (w.alloc o) := h.alloc h.size o
theorem belS {x w : World} (h : Below x.heap.size x w) {g : Nat} (hg : x.heap.size ≤ g) (j : Nat) (v : Value) : Below x.heap.size x (w.setCell ⟨g, j, none⟩ v) := h.setCell hg _
theorem heap_set_at {w : World} {g j : Nat} {cs : Array Value} {T : TypeId} (v : Value) (h : w.heap[g]? = some (.cells cs T (0, 0))) : (w.setCell ⟨g, j, none⟩ v).heap[g]? = some (.cells (cs.setIfInBounds j v) T (0, 0)) := by
  obtain ⟨hlt, hk⟩ := Array.getElem?_eq_some_iff.1 h
  show (w.heap.modify g _)[g]? = _
  rw [Array.getElem?_eq_getElem (by rw [Array.size_modify]; exact hlt), Array.getElem_modify_self, hk]
  rfl
theorem notl {L : Array Bool} {i : Nat} (h : L.getD i true = false) (h' : L.getD i false = true) : False := by
  rw [Array.getD_eq_getD_getElem?] at h h'
  cases hx : L[i]? <;> simp [hx] at h h'
  rw [h] at h'; cases h'
theorem getD_set_same {L : Array Bool} {n i : Nat} (hz : L.size = n) (hi : i < n) : (L.setIfInBounds i true).getD i false = true := by
  rw [Array.getD_eq_getD_getElem?, Array.getElem?_eq_getElem (by simpa [hz] using hi), Array.getElem_setIfInBounds_self]; rfl
/-- What an operation waits for has been done. -/
theorem haf_of {o : Oper} {L : Array Bool} (haf : ∀ e ∈ o.after, Region.binds .any e = true → L.getD e.on false = true) (k : Nat) (h : (o.after.any fun e => e.on == k && Region.binds .any e) = true) : L.getD k false = true := by
  obtain ⟨i, hi, he⟩ := Array.any_eq_true.1 h
  rw [Bool.and_eq_true] at he
  have := haf _ (Array.getElem_mem hi) he.2
  rwa [beq_iff_eq.1 he.1] at this
end Go.Proofs.Ytamejfeaniokfaa

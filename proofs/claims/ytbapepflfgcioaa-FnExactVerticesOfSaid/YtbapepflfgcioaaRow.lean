/-
  Slices of structs of integers, as flat rows of cells: what may be said of them, whatever the struct.
  No condition.
-/
import Derived.Test.YtbapepflfgcioaaTrop
import Derived.RegionTactic
namespace Go.Proofs.Ytbapepflfgcioaa
set_option linter.unusedSimpArgs false
set_option linter.unusedVariables false
open Go.ChangeShapes Go.WideShapes Go.ChangeAt Go.RowKit

/-- The slice value v is of this call's own (from block B on); its n elements, of k cells each, read cell by cell as zs. -/
def FS (T : TypeId) (k : Nat) (w : World) (B : Nat) (v : Value) (n : Nat) (zs : List Int) : Prop := w.ownsRow B T k v n (ints zs)
section
variable {T : TypeId} {k n : Nat} {w w' : World} {B B' : Nat} {v : Value} {zs : List Int}
theorem FS.len (h : FS T k w B v n zs) : zs.length = n * k := by have := h.1; simpa [ints] using this
theorem FS.base (h : FS T k w B v n zs) (hB : B' ≤ B) : FS T k w B' v n zs := by
  refine ⟨h.1, ?_⟩
  rcases h.2 with h0 | ⟨g, cap, cur, h1, h2, h3⟩
  · exact .inl h0
  · exact .inr ⟨g, cap, cur, h1, by omega, h3⟩
theorem FS.keep (h : FS T k w B v n zs) (hk : ∀ g, v.ownBlock = some g → w'.heap[g]? = w.heap[g]?) : FS T k w' B v n zs := by
  refine ⟨h.1, ?_⟩
  rcases h.2 with h0 | ⟨g, cap, cur, h1, h2, h3, h4⟩
  · exact .inl h0
  · exact .inr ⟨g, cap, cur, h1, h2, (hk g (by rw [h1]; rfl)).trans h3, h4⟩
theorem FS.lt (h : FS T k w B v n zs) : ∀ g, v.ownBlock = some g → B ≤ g ∧ g < w.heap.size := World.ownsRow.lt h
theorem FS.in_ (h : FS T k w B v n zs) : In v B w.heap.size := h.lt
theorem FS.below (h : FS T k w B v n zs) (hb : Below w.heap.size w w') : FS T k w' B v n zs := h.keep fun g hg => hb.block g (h.lt g hg).2
theorem FS.drewN (h : FS T k w B v n zs) (m : Nat) : FS T k (w.drewN m) B v n zs := h
theorem FS.alloc (h : FS T k w B v n zs) (o : Obj) : FS T k (w.alloc o) B v n zs := World.ownsRow.alloc h o
theorem FS.other (h : FS T k w B v n zs) {row : Option Nat} (hg : w.grownBy w' row) (hne : ∀ g, v.ownBlock = some g → some g ≠ row) : FS T k w' B v n zs :=
  h.keep fun g hv => hg.block g (h.lt g hv).2 (hne g hv)
theorem FS.marked {a b c d : Nat} {x : Value} (h : FS T k w B v n zs) (hv : In v a b) (hx : In x c d) (hd : b ≤ c ∨ d ≤ a) (hg : w.grownBy w' x.ownBlock) : FS T k w' B v n zs :=
  h.other hg fun g hgv he => by
    have h1 := hv g hgv
    have h2 := hx g he.symm
    omega
theorem FS.nil_ (T : TypeId) (k : Nat) (w : World) (B : Nat) : FS T k w B (.slice none 0 0) 0 [] := World.ownsRow_nil w B _ k
theorem FS.parts (h : FS T k w B v n zs) : ∃ A cap, v = .slice A n cap ∧ n ≤ maxLen ∧ ∀ j, j < n * k → ∃ g, A = some ⟨g, 0, none⟩ ∧ w.cell? ⟨g, j, none⟩ = some (.int .i64 (gd zs j)) := by
  have hl := h.len
  rcases h.2 with ⟨rfl, h0⟩ | ⟨g, cap, cur, rfl, h2, h3, h4, h5, h6, h7⟩
  · exact ⟨none, 0, by rw [h0], by simp [maxLen, h0], fun j hj => by rw [h0] at hj; omega⟩
  · refine ⟨some ⟨g, 0, none⟩, cap, rfl, by omega, fun j hj => ⟨g, rfl, ?_⟩⟩
    rw [World.ownsRow.cellAt h j hj, getD_ints zs j (by omega)]
/-- Elements behind an owned row. -/
theorem FS.snoc {m : Nat} {es : List Int} (h : w'.ownsRow B T k v (n + m) (ints zs ++ ints es)) : FS T k w' B v (n + m) (zs ++ es) := by
  unfold FS ints
  rw [List.map_append]
  exact h
end
theorem FS.drew {T : TypeId} {k n : Nat} {w : World} {B : Nat} {v : Value} {zs : List Int} (h : FS T k w B v n zs) : FS T k w.drew B v n zs := h
/-- An append onto an owned row, at a step of a region that draws. -/
theorem step_append_own {P : Program} {w : World} {ops : Array Oper} {o : Oper} {a : Act} {K : Act → World → Prop} {Q : Exit → Act → World → Prop} {E : Prop} (hgd : o.guard = none) (s x : Operand) (t : TypeId)
    (ho : o.op = .call { callee := .builtin .append, args := #[s, x], argTypes := #[t, t] })
    (base : Nat) (e : TypeId) (i : TypeInfo) (z : Value) (size bytes : Nat) (ht : P.underlying t = some (.slice e)) (hi : P.info? e = some i) (hz : i.zero = some z)
    (hsize : i.size = size) (hby : i.bytes = bytes) (hzs : z.cells.size = size) (hsz : 0 < size)
    (v : Value) (n : Nat) (xs : List Value) (hs : a.eval s = v) (hown : w.ownsRow base e size v n xs)
    (ad : Addr) (m c : Nat) (news : List Value) (hx : a.eval x = .slice (some ad) m c) (hl : news.length = m * size) (hnews : ∀ j u, news[j]? = some u → w.cell? (ad.add j) = some u) (h1 : ∀ u ∈ news, u.oneCell' = true)
    (h63 : n + m ≤ maxLen) (hbytes : (n + m) * bytes ≤ 140737488355328) (hbase : base ≤ w.heap.size)
    (h : ∀ v' w', w'.ownsRow base e size v' (n + m) (xs ++ news) → w.grownBy w' v.ownBlock → (v' = .slice none 0 0 ↔ v = .slice none 0 0 ∧ m = 0) → K (a.put o.dst v') w') :
    if Region.wanted o (yielded ops a.tmps) = true then Oper.wp P o a w K Q else E := by
  have hw : Region.wanted o (yielded ops a.tmps) = true := by simp [Region.wanted, hgd]
  rw [if_pos hw]
  exact wp_append_own w s x t ho base e i z size bytes ht hi hz hsize hby hzs hsz v n xs hs hown ad m c news hx hl hnews h1 h63 hbytes hbase h
theorem new_cells (w : World) (T : TypeId) (cs : Array Value) : ∀ j u, cs.toList[j]? = some u → (w.alloc (.cells cs T)).cell? ((⟨w.heap.size, 0, none⟩ : Addr).add j) = some u := by
  intro j u h
  have h0 : (⟨w.heap.size, 0, none⟩ : Addr).add j = ⟨w.heap.size, j, none⟩ := by simp [Addr.add]; try omega
  rw [h0, cell_of_row (w.alloc (.cells cs T)) w.heap.size j cs T (0, 0) (heap_alloc_new w _), ← h, Array.getElem?_toList]

/-! ### Flat lists of elements -/
theorem gd_app_ge (a b : List Int) (n : Nat) : gd (a ++ b) (a.length + n) = gd b n := by
  unfold gd; rw [List.getD_eq_getElem?_getD, List.getD_eq_getElem?_getD, List.getElem?_append_right (by omega)]; congr 2; omega
theorem gd_app_lt {a b : List Int} {n : Nat} (h : n < a.length) : gd (a ++ b) n = gd a n := by
  unfold gd; rw [List.getD_eq_getElem?_getD, List.getD_eq_getElem?_getD, List.getElem?_append_left h]
theorem flat_len {α : Type} {f : α → List Int} {k : Nat} (hf : ∀ a, (f a).length = k) : ∀ (l : List α), (l.flatMap f).length = l.length * k
  | [] => by simp
  | a :: l => by rw [List.flatMap_cons, List.length_append, hf, flat_len hf l, List.length_cons, Nat.add_mul]; omega
theorem flat_gd {α : Type} {f : α → List Int} {k : Nat} (hf : ∀ a, (f a).length = k) : ∀ (l : List α) (j i : Nat) (hj : j < l.length), i < k → gd (l.flatMap f) (j * k + i) = gd (f l[j]) i
  | [], _, _, hj, _ => by simp at hj
  | a :: l, 0, i, _, hi => by rw [List.flatMap_cons, Nat.zero_mul, Nat.zero_add, gd_app_lt (by rw [hf]; exact hi)]; rfl
  | a :: l, j + 1, i, hj, hi => by
    rw [List.flatMap_cons, Nat.add_mul, Nat.one_mul, show j * k + k + i = (f a).length + (j * k + i) by rw [hf]; omega, gd_app_ge, flat_gd hf l j i (by simpa using hj) hi]
    rfl
theorem flat_snoc {α : Type} {f : α → List Int} (l : List α) (a : α) : (l ++ [a]).flatMap f = l.flatMap f ++ f a := by simp
/-- What marking does: the cells count up from k, nothing else has changed. -/
def MarksF (T : TypeId) (c : Nat) (B : Nat) (v : Value) (k : Int) (n : Nat) (w : World) (e : Ending) (w' : World) : Prop :=
  e = .returned (.int .i64 (k + (n * c : Nat))) ∧ FS T c w' B v n (upFrom k (n * c)) ∧ w.grownBy w' v.ownBlock ∧ w'.heap.size = w.heap.size
end Go.Proofs.Ytbapepflfgcioaa

/-
  slices.SortFunc at rows of fractions, by the library's proved contract.
  Condition: the slice reads as the list that is named; all of it are valid fractions.
-/
import Derived.Test.YthegkifhbgopoaaCuO
import Derived.Test.YthegkifhbgopoaaPg
import Derived.Test.YthegkifhbgopoaaSortFrac
import Derived.Shelf.SlSortCmp.NoneTotal
namespace Go.Proofs.Ythegkifhbgopoaa
set_option linter.unusedSimpArgs false
set_option linter.unusedVariables false
open Go.ChangeShapes Go.WideShapes Go.ChangeAt Go.RowKit
open Go.Sort (grow HoldsK Holds putRow putRowK flatK SWO PermIn SortedIn)

/-! ### Their order -/
def cmpFr (p q : Pt) : Int := cmpI (p.1 * q.2) (q.1 * p.2)
theorem cmpFr_lt (p q : Pt) : cmpFr p q < 0 ↔ p.1 * q.2 < q.1 * p.2 := by unfold cmpFr cmpI; (repeat' split) <;> omega
theorem fr_trans {a b c d e f : Int} (hb : 0 < b) (hd : 0 < d) (hf : 0 < f) (h1 : a * d ≤ c * b) (h2 : c * f ≤ e * d) : a * f ≤ e * b := by
  have e1 : a * d * f ≤ c * b * f := Int.mul_le_mul_of_nonneg_right h1 (by omega)
  have e2 : c * f * b ≤ e * d * b := Int.mul_le_mul_of_nonneg_right h2 (by omega)
  have e3 : d * (a * f) ≤ d * (e * b) := by grind
  exact Int.le_of_mul_le_mul_left e3 hd
theorem fr_trans_lt {a b c d e f : Int} (hb : 0 < b) (hd : 0 < d) (hf : 0 < f) (h1 : a * d < c * b) (h2 : c * f < e * d) : a * f < e * b := by
  have e1 : a * d * f < c * b * f := Int.mul_lt_mul_of_pos_right h1 hf
  have e2 : c * f * b < e * d * b := Int.mul_lt_mul_of_pos_right h2 hb
  have e3 : d * (a * f) < d * (e * b) := by grind
  exact Int.lt_of_mul_lt_mul_left e3 (by omega)
/-- A valid fraction. -/
abbrev Fr9 : Type := { p : Pt // frB p.1 p.2 = true }
instance : Inhabited Fr9 := ⟨⟨(0, 1), by decide⟩⟩
def cmpF9 (a b : Fr9) : Int := cmpFr a.1 b.1
def encF9 (a : Fr9) : List Value := [.int .i64 a.1.1, .int .i64 a.1.2]
theorem encF9_len (a : Fr9) : (encF9 a).length = 2 := rfl
theorem encF9_one (a : Fr9) : ∀ v ∈ encF9 a, v.oneCell' = true := fun v hv => by
  simp [encF9] at hv
  rcases hv with rfl | rfl <;> rfl
theorem swo_F9 : SWO (ltOf cmpF9) where
  irrefl x := by
    unfold ltOf cmpF9
    rw [decide_eq_false_iff_not, cmpFr_lt]; omega
  trans x y z h1 h2 := by
    unfold ltOf cmpF9 at *
    rw [decide_eq_true_eq, cmpFr_lt] at *
    exact fr_trans_lt (frB_pos x.2).1 (frB_pos y.2).1 (frB_pos z.2).1 h1 h2
  ntrans x y z h1 h2 := by
    unfold ltOf cmpF9 at *
    rw [decide_eq_false_iff_not, cmpFr_lt] at *
    have := fr_trans (frB_pos z.2).1 (frB_pos y.2).1 (frB_pos x.2).1 (a := z.1.1) (c := y.1.1) (e := x.1.1) (by omega) (by omega)
    omega
theorem isFracG (n d : Int) (w : World) (h : frB n d = true) : Calls Try.prog 137 #[fracV n d] w fun e w' => e = .returned (.bool true) ∧ Gr w w' := by
  obtain ⟨hn, hd, hg⟩ := frB_bd h
  go_enter Try.func137, Try.ntmps137
  go_wp2_with (go_at_call 108; refine (greatestDivisor_any _ _ _ ?_ ?_).mono ?_; (unfold wide; omega); (unfold wide; omega); rintro e w' ⟨rfl, nq, rfl⟩)
  go_ret
  exact ⟨ret_bool (by simp [hg]), (gr1 _ _).drewN nq⟩
theorem compareFracsG (p q : Pt) (w : World) (hp : frB p.1 p.2 = true) (hq : frB q.1 q.2 = true) : Calls Try.prog 107 #[fracV p.1 p.2, fracV q.1 q.2] w fun e w' => e = .returned (.tuple #[.int .i64 (cmpFr p q), .bool true]) ∧ Gr w w' := by
  obtain ⟨⟨p1, p2⟩, q1, q2⟩ := okWide hp hq
  obtain ⟨a, b⟩ := p
  obtain ⟨c, d⟩ := q
  dsimp only at *
  have HP := Lib.hid hp
  have HQ := Lib.hid hq
  clear hp hq
  go_enter Try.func107, Try.ntmps107
  go_wp2_with fail
  refine (isFracG _ _ _ HP.out).mono ?_
  rintro x w1 ⟨rfl, b1⟩
  have C1 := F2.below2 (box2 w a b c d) b1.below
  obtain ⟨⟨x0, x1, -, -⟩, ⟨y0, y1, -, -⟩⟩ := id C1
  go_wp2_with fail
  refine (isFracG _ _ _ HQ.out).mono ?_
  rintro x w2 ⟨rfl, b2⟩
  obtain ⟨⟨u0, u1, -, -⟩, ⟨v0, v1, -, -⟩⟩ := F2.below2 C1 b2.below
  go_wp2_with fail
  refine (cmpCompare_any _ _ _).mono ?_
  rintro e w' ⟨rfl, rfl⟩
  go_wp2_with fail
  go_ret2
  exact ⟨rfl, (Gr.trans (gr2 _ _ _) (b1.trans b2))⟩
theorem compareValues_any (p q : Pt) (w : World) (hp : frB p.1 p.2 = true) (hq : frB q.1 q.2 = true) : Calls Try.prog 59 #[fracV p.1 p.2, fracV q.1 q.2] w fun e w' => e = .returned (.int .i64 (cmpFr p q)) ∧ Gr w w' := by
  have HC := Lib.hid (fun w => compareFracsG p q w hp hq)
  clear hp hq
  go_enter Try.func59, Try.ntmps59
  go_wp2_with fail
  refine (HC.out _).mono ?_
  rintro x w1 ⟨rfl, b1⟩
  go_wp2
  go_ret
  exact ⟨rfl, Gr.trans (gr2 _ _ _) b1⟩
def encF0 (t : Pt) : List Value := [.int .i64 t.1, .int .i64 t.2]
theorem flatP_atF (l : List Pt) (k i : Nat) (hk : k < l.length) (hi : i < 2) : (ints (flatP l))[k * 2 + i]? = (encF0 (pd l k))[i]? := by
  rw [getD_ints _ _ (by rw [flatP_len]; omega), show gd (flatP l) (k * 2 + i) = gd (encP l[k]) i from flat_gd encP_len l k i hk hi, ← pd_eq l k hk]
  have : i = 0 ∨ i = 1 := by omega
  rcases this with rfl | rfl <;> rfl
/-- A row of ours behind the sort. -/
theorem putF_row {w : World} {B : Nat} {g n cap : Nat} {xs : List Value} {T : TypeId} (h : w.ownsRow B T 2 (.slice (some ⟨g, 0, none⟩) n cap) n xs) (F : Array Value) (hF : F.size = n * 2) (m : Nat) (os : Array Obj) :
    (grow (putRow id (Sort.ahead w m) g 0 F) os).ownsRow B T 2 (.slice (some ⟨g, 0, none⟩) n cap) n F.toList ∧ w.grownBy (grow (putRow id (Sort.ahead w m) g 0 F) os) (some g) := by
  refine ⟨⟨by simpa using hF, ?_⟩, ?_⟩
  · rcases h.2 with ⟨h0, -⟩ | ⟨g', cap', cur, hv, hB, hh, hn, hc, hs, ht⟩
    · cases h0
    · obtain ⟨rfl, rfl⟩ : g = g' ∧ cap = cap' := by simpa using hv
      have hlt : g < w.heap.size := (Array.getElem?_eq_some_iff.1 hh).1
      refine .inr ⟨g, cap, Sort.putCells id 0 F cur, rfl, hB, ?_, hn, hc, by simp [Sort.putCells, hs], ?_⟩
      · rw [Sort.heap_grow_old _ _ (by rw [Sort.size_putRow]; exact hlt)]
        unfold Sort.putRow Sort.mapBlock
        simp only [Sort.ahead]
        rw [Array.getElem?_modify, if_pos rfl, hh]
        rfl
      · refine List.ext_getElem? fun j => ?_
        by_cases hj : j < n * 2
        · have hcs : n * 2 ≤ cap * 2 := Nat.mul_le_mul_right 2 hn
          rw [List.getElem?_take_of_lt hj, Array.getElem?_toList, Array.getElem?_toList, Array.getElem?_eq_getElem (by omega : j < F.size)]
          simp only [Sort.putCells, Array.getElem?_mapIdx]
          rw [Array.getElem?_eq_getElem (by omega : j < cur.size)]
          simp only [Option.map_some, Nat.zero_le, Nat.zero_add, true_and, Nat.sub_zero, id]
          rw [if_pos (by omega), getElem!_pos _ _ (by omega)]
        · rw [List.getElem?_eq_none (by simp; omega), List.getElem?_eq_none (by simp; omega)]
  · refine ⟨rfl, rfl, rfl, ?_, fun k hk hne => ?_⟩
    · show w.heap.size ≤ (_ ++ os).size
      rw [Array.size_append]
      have : (putRow id (Sort.ahead w m) g 0 F).heap.size = w.heap.size := Sort.size_putRow _ _ _ _ _
      omega
    · have hs : (putRow id (Sort.ahead w m) g 0 F).heap.size = w.heap.size := Sort.size_putRow _ _ _ _ _
      rw [Sort.heap_grow_old _ _ (by rw [hs]; exact hk)]
      unfold Sort.putRow Sort.mapBlock
      simp only [Sort.ahead]
      rw [Array.getElem?_modify, if_neg (by rintro rfl; exact hne rfl)]
/-- What a sort leaves, as lists. -/
theorem sorted_listsF {α : Type} [Inhabited α] {lt : α → α → Bool} {l : List α} {d : Array α} (h : PermIn 0 l.toArray.size l.toArray d) (hs : SortedIn lt 0 l.toArray.size d) : d.toList.Perm l ∧ d.toList.Pairwise fun a b => lt b a = false := by
  obtain ⟨h1, -, h3⟩ := h
  have e1 : d.extract 0 l.toArray.size = d := by rw [← h1]; simp
  have e2 : l.toArray.extract 0 l.toArray.size = l.toArray := by simp
  rw [e1, e2] at h3
  refine ⟨h3, ?_⟩
  rw [List.pairwise_iff_getElem]
  intro i j hi hj hij
  have hi' : i < d.size := by simpa using hi
  have hj' : j < d.size := by simpa using hj
  have := hs i j (Nat.zero_le _) hij (by rw [← h1]; exact hj')
  rw [getElem!_pos d i hi', getElem!_pos d j hj'] at this
  simpa using this
/-- The fractions of a list. -/
def frs (l : List Pt) (h : ∀ a ∈ l, frB a.1 a.2 = true) : List Fr9 := l.attach.map fun x => ⟨x.1, h x.1 x.2⟩
theorem frs_val (l : List Pt) (h : ∀ a ∈ l, frB a.1 a.2 = true) : (frs l h).map Subtype.val = l := by
  unfold frs
  rw [List.map_map]
  exact List.attach_map_subtype_val l
theorem flatF_at (l : List Fr9) (k i : Nat) (hk : k < l.length) (hi : i < 2) : (ints (flatP (l.map Subtype.val)))[k * 2 + i]? = (encF9 l[k])[i]? := by
  rw [flatP_atF _ k i (by simpa using hk) hi, pd_eq _ _ (by simpa using hk)]
  simp only [List.getElem_map]
  rfl
theorem flatKF_ints (l : List Fr9) : (flatK encF9 2 l.toArray).toList = ints (flatP (l.map Subtype.val)) := by
  refine List.ext_getElem? fun j => ?_
  by_cases hj : j < l.length * 2
  · have h1 := Sort.get_flatK encF9 2 l.toArray j (by simpa using hj)
    have hq : j / 2 < l.length := by omega
    have h2 := flatF_at l (j / 2) (j % 2) hq (by omega)
    rw [show j / 2 * 2 + j % 2 = j by omega] at h2
    rw [h2]
    have hs : j < (flatK encF9 2 l.toArray).size := by simpa using hj
    rw [getElem!_pos _ j hs] at h1
    rw [Array.getElem?_toList, Array.getElem?_eq_getElem hs, h1]
    have h3 : (l.toArray)[j / 2]! = l[j / 2] := by
      rw [getElem!_pos _ _ (by simpa using hq)]; simp
    rw [h3]
    have hr : j % 2 < (encF9 l[j / 2]).length := by rw [encF9_len]; omega
    rw [List.getElem?_eq_getElem hr, getElem!_pos (encF9 l[j / 2]) (j % 2) hr]
  · have e1 : (flatK encF9 2 l.toArray).toList.length = l.length * 2 := by simp
    have e2 : (ints (flatP (l.map Subtype.val))).length = l.length * 2 := by simp [ints, flatP_len]
    exact (List.getElem?_eq_none (by omega)).trans (List.getElem?_eq_none (by omega)).symm
theorem holdsF_of {w : World} {B : Nat} {g n cap : Nat} {l : List Fr9} (hn : n = l.length) (h : w.ownsRow B 32 2 (.slice (some ⟨g, 0, none⟩) n cap) n (ints (flatP (l.map Subtype.val)))) : HoldsK encF9 2 w g 0 l.toArray := by
  intro j hj
  have hj' : j < l.length * 2 := by simpa using hj
  refine ⟨?_, by rw [Nat.zero_add]; exact World.ownsRow.frozenAt h j⟩
  rw [Nat.zero_add, World.ownsRow.cellAt h j (by omega), ← flatKF_ints, Array.getElem?_toList, Array.getElem?_eq_getElem hj]
  rw [getElem!_pos _ j hj]
  rfl
theorem cmpF9_lays (blk off size : Nat) (w : World) : CmpLays Try.prog 59 #[] encF9 2 cmpF9 blk off size w := fun _ _ _ _ x y => compareValues_any x.1 y.1 _ x.2 y.2
theorem entF9_cmp : ∀ (args : Array Value) (w : World), (callFunc 59 args).run Try.prog w = .ok (.enter 59 args) w := enters_of Try.func59 (by kernel_rfl) rfl
theorem sortFuncF_any (w : World) (B : Nat) (v : Value) (l : List Pt) (h : FS 32 2 w B v l.length (flatP l)) (hz : l.length ≤ 1000000) (hok : ∀ a ∈ l, frB a.1 a.2 = true) : Calls Try.prog 58 #[v, .func (.func 59) #[] #[]] w fun e w' => e = .returned (.tuple #[]) ∧ ∃ d, FS 32 2 w' B v d.length (flatP d) ∧ d.Perm l ∧ Hid (d.Pairwise fun a b => a.1 * b.2 ≤ b.1 * a.2) ∧ w.grownBy w' v.ownBlock := by
  have hval := frs_val l hok
  have hll : (frs l hok).length = l.length := by have := congrArg List.length hval; simpa using this
  rcases h.2 with ⟨rfl, h0⟩ | ⟨g, cap, cur, rfl, hBg, hh, -⟩
  · have hl : l = [] := List.eq_nil_of_length_eq_zero h0
    subst hl
    have hcon := AnyF.slices_SortFunc_none { Try.sortFrac with } none 0 (.func (.func 59) #[] #[]) w
    refine hcon.mono ?_
    rintro e w' ⟨rfl, rfl⟩
    exact ⟨rfl, [], h, List.Perm.refl _, Lib.hid List.Pairwise.nil, World.grownBy.refl _ _⟩
  · have hg : g < w.heap.size := (Array.getElem?_eq_some_iff.1 hh).1
    have hcon := AnyQ.slices_SortFunc Try.sortFrac 2 Try.isAgg32 Try.sizeOf32 encF9 encF9_len encF9_one cmpF9 swo_F9 59 #[] g 0 cap (frs l hok).toArray w entF9_cmp (cmpF9_lays g 0 _ w) (holdsF_of hll.symm (by rw [hval]; exact h)) hg (by simp [hll]; omega)
    have hsz : (frs l hok).toArray.size = l.length := by simp [hll]
    refine Calls.mono (by rw [hsz] at hcon; exact hcon) ?_
    rintro e w' ⟨rfl, d, m, os, hp, hs, rfl⟩
    obtain ⟨p1, p2⟩ := sorted_listsF (l := frs l hok) (by rw [hsz]; exact hp) (by rw [hsz]; exact hs)
    have hdl : d.toList.length = l.length := p1.length_eq.trans hll
    have hF : (flatK encF9 2 d.toList.toArray).size = l.length * 2 := by rw [Sort.size_flatK, List.size_toArray, hdl]
    obtain ⟨h1, h2⟩ := putF_row h (flatK encF9 2 d.toList.toArray) hF m os
    rw [show d.toList.toArray = d by simp] at h1 h2
    refine ⟨rfl, d.toList.map Subtype.val, ?_, ?_, Lib.hid ?_, h2⟩
    · unfold FS
      rw [List.length_map, hdl, ← flatKF_ints, show d.toList.toArray = d by simp]
      exact h1
    · have := p1.map Subtype.val
      rwa [hval] at this
    · rw [List.pairwise_map]
      refine p2.imp ?_
      intro a b hab
      unfold ltOf cmpF9 at hab
      rw [decide_eq_false_iff_not, cmpFr_lt] at hab
      omega
end Go.Proofs.Ythegkifhbgopoaa

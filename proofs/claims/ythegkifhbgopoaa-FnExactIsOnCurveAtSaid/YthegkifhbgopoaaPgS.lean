/-
  The stack of points of the program, its four methods; which points stay in it.
  Conditions: coordinates are small; the function value answers as the turn that is named.
-/
import Derived.Test.YthegkifhbgopoaaPg
import Derived.Test.YthegkifhbgopoaaRow
import Derived.Deep.RegionLaw
import Derived.Test.YthegkifhbgopoaaSortPoint
namespace Go.Proofs.Ythegkifhbgopoaa
set_option linter.unusedSimpArgs false
set_option linter.unusedVariables false
open Go.ChangeShapes Go.WideShapes Go.ChangeAt Go.RowKit
open Go.Sort (grow)

theorem flatP_take (d : List Pt) (k : Nat) : (flatP d).take (k * 2) = flatP (d.take k) := by
  induction d generalizing k with
  | nil => simp [flatP]
  | cons a d ih =>
    cases k with
    | zero => simp [flatP]
    | succ k =>
      show (encP a ++ flatP d).take ((k + 1) * 2) = encP a ++ flatP (d.take k)
      rw [← ih k, List.take_append, show (encP a).take ((k + 1) * 2) = encP a from List.take_of_length_le (by simp [encP]; omega), show (k + 1) * 2 - (encP a).length = k * 2 by simp [encP]; omega]
theorem flatP_drop (d : List Pt) (k : Nat) : (flatP d).drop (k * 2) = flatP (d.drop k) := by
  induction d generalizing k with
  | nil => simp [flatP]
  | cons a d ih =>
    cases k with
    | zero => simp [flatP]
    | succ k =>
      show (encP a ++ flatP d).drop ((k + 1) * 2) = flatP (d.drop k)
      rw [← ih k, List.drop_append, show (encP a).drop ((k + 1) * 2) = [] from List.drop_eq_nil_of_le (by simp [encP]; omega), show (k + 1) * 2 - (encP a).length = k * 2 by simp [encP]; omega, List.nil_append]
theorem flatP_app (a b : List Pt) : flatP (a ++ b) = flatP a ++ flatP b := by simp [flatP]
theorem take_pd (l : List Pt) (k : Nat) (hk : k < l.length) : l.take (k + 1) = l.take k ++ [pd l k] := by
  rw [pd_eq l k hk, List.take_succ_eq_append_getElem hk]
theorem pd_mem {l : List Pt} {k : Nat} (hk : k < l.length) : pd l k ∈ l := by rw [pd_eq l k hk]; exact List.getElem_mem hk
theorem PtS.some {w : World} {B : Nat} {v : Value} {l : List Pt} (h : PtS w B v l) (h0 : 0 < l.length) : ∃ g cap, v = .slice (some ⟨g, 0, none⟩) l.length cap ∧ B ≤ g ∧ l.length ≤ cap ∧ cap ≤ maxLen := by
  rcases h.2 with ⟨rfl, hn⟩ | ⟨g, cap, cur, rfl, hb, hg, hn, hm, hc, ht⟩
  · omega
  · exact ⟨g, cap, rfl, hb, hn, hm⟩
/-- The first elements of a list of points. -/
theorem PtS.cut {w : World} {B : Nat} {A : Option Addr} {n cap m : Nat} {l : List Pt} (hn : n = l.length) (h : PtS w B (.slice A n cap) l) (hm : m ≤ n) : PtS w B (.slice A m cap) (l.take m) := by
  have h1 : w.ownsRow B 108 2 (.slice A n cap) n (ints (flatP l)) := by rw [hn] at h ⊢; exact h
  have h2 := row_cut h1 hm
  have e : (l.take m).length = m := by simp; omega
  unfold PtS FS
  rw [e, ← flatP_take]
  unfold ints at h2 ⊢
  rw [List.map_take]
  exact h2
def slNP : Value → Nat
  | .slice _ n _ => n
  | _ => 0
theorem PtS.slN {w : World} {B : Nat} {v : Value} {l : List Pt} (h : PtS w B v l) : slNP v = l.length := by
  obtain ⟨A, cap, rfl, -, -⟩ := PtS.parts h; rfl
/-- A stack of a call's own in block B, its top first; its row lies behind. -/
def StP (B : Nat) (wr : World) (s : List Pt) : Prop := ∃ v, wr.cell? ⟨B, 0, none⟩ = some v ∧ wr.frozen? ⟨B, 0, none⟩ = false ∧ PtS wr (B + 1) v s.reverse
theorem StP.lt {B : Nat} {wr : World} {s : List Pt} (h : StP B wr s) : B < wr.heap.size := by
  obtain ⟨v, hv, -⟩ := h; exact cell_lt hv
theorem StP.below {B : Nat} {w w' : World} {s : List Pt} (h : StP B w s) (hb : Below w.heap.size w w') : StP B w' s := by
  have hl := h.lt
  obtain ⟨v, hv, hf, hr⟩ := h
  exact ⟨v, (hb.cell (p := ⟨B, 0, none⟩) hl).trans hv, (World.frozen?_of_block (hb.block B hl)).trans hf, FS.below hr hb⟩
theorem StP.drewN {B : Nat} {w : World} {s : List Pt} (h : StP B w s) (n : Nat) : StP B (w.drewN n) s := h
theorem belKP {B : Nat} {w w1 : World} (h : Below B w w1) (n : Nat) : Below B w (w1.drewN n) := ⟨h.os, h.tape, h.output, h.size, h.block⟩
/-- How many elements it has. -/
def stNP (B : Nat) (w : World) : Nat := slNP ((w.cell? ⟨B, 0, none⟩).getD undef)
theorem StP.stN {B : Nat} {w : World} {s : List Pt} (h : StP B w s) : stNP B w = s.length := by
  obtain ⟨v, hv, -, hr⟩ := h
  unfold stNP
  rw [hv]
  exact (PtS.slN hr).trans List.length_reverse
theorem rev_twoP {j i : Pt} {t : List Pt} : pd (j :: i :: t).reverse (t.length + 1) = j ∧ pd (j :: i :: t).reverse t.length = i := by
  unfold pd
  constructor
  · rw [List.getD_eq_getElem?_getD, List.getElem?_reverse (by simp only [List.length_cons]; omega)]; simp
  · rw [List.getD_eq_getElem?_getD, List.getElem?_reverse (by simp only [List.length_cons]; omega)]; simp
theorem popH_mem {T : Pt → Pt → Pt → Int} {p q : Pt} : ∀ {S : List Pt}, q ∈ popH T p S → q ∈ S
  | [], h => by simp [popH] at h
  | [c], h => by simpa [popH] using h
  | j :: i :: t, h => by
    unfold popH at h
    split at h
    · exact h
    · exact List.mem_cons_of_mem _ (popH_mem h)
theorem stkH_mem {T : Pt → Pt → Pt → Int} : ∀ (l S : List Pt) {q : Pt}, q ∈ l.foldl (fun s p => p :: popH T p s) S → q ∈ l ∨ q ∈ S
  | [], S, q, h => .inr h
  | p :: t, S, q, h => by
    rcases stkH_mem t _ h with h | h
    · exact .inl (List.mem_cons_of_mem _ h)
    · rcases List.mem_cons.1 h with rfl | h
      · exact .inl (by simp)
      · exact .inr (popH_mem h)
theorem popH_short {T : Pt → Pt → Pt → Int} {p : Pt} {s : List Pt} (h : s.length < 2) : popH T p s = s := by
  match s, h with
  | [], _ => rfl
  | [_], _ => rfl
theorem popH_more {T : Pt → Pt → Pt → Int} {p j i : Pt} {t : List Pt} (h : decide (0 < T i j p) = false) : popH T p (j :: i :: t) = popH T p (i :: t) := by
  conv => lhs; unfold popH
  rw [if_neg (of_decide_eq_false h)]
theorem popH_stop {T : Pt → Pt → Pt → Int} {p j i : Pt} {t : List Pt} (h : decide (0 < T i j p) = true) : popH T p (j :: i :: t) = j :: i :: t := by
  unfold popH; rw [if_pos (of_decide_eq_true h)]
end Go.Proofs.Ythegkifhbgopoaa
/-
  slices.SortFunc, Compact, Clone and Equal at rows of points: what the calls do.
  Condition: the slice reads as the list that is named.
-/
namespace Go.Proofs.Ythegkifhbgopoaa
set_option linter.unusedSimpArgs false
set_option linter.unusedVariables false
open Go.ChangeShapes Go.WideShapes Go.ChangeAt Go.RowKit
open Go.Sort (grow HoldsK Holds putRow putRowK flatK SWO)

theorem lt_cmpP (s t : Pt) : ltOf cmpP s t = true ↔ Bf s t := by
  unfold ltOf; rw [decide_eq_true_eq, cmpP_lt]
theorem lt_cmpP_no (s t : Pt) : ltOf cmpP s t = false ↔ ¬ Bf s t := by
  rw [← lt_cmpP]; simp
theorem swo_cmpP : SWO (ltOf cmpP) where
  irrefl x := by rw [lt_cmpP_no]; exact geo_up.irr
  trans x y z h1 h2 := by rw [lt_cmpP] at *; exact geo_up.trans h1 h2
  ntrans x y z h1 h2 := by rw [lt_cmpP_no] at *; unfold Bf at *; omega
theorem tot_cmpP (x y : Pt) (h : ltOf cmpP x y = false) (h' : ltOf cmpP y x = false) : x = y := by
  rw [lt_cmpP_no] at h h'
  rcases geo_up.tot x y with e | e | e
  · exact absurd e h
  · exact e
  · exact absurd e h'
/-- A list of points in order. -/
def sortP (l : List Pt) : List Pt := l.mergeSort fun x y => !(ltOf cmpP) y x
theorem sortP_perm (l : List Pt) : (sortP l).Perm l := List.mergeSort_perm _ _
theorem sortP_len (l : List Pt) : (sortP l).length = l.length := (sortP_perm l).length_eq
theorem sortP_ord (l : List Pt) : (sortP l).Pairwise fun a b => Bf a b ∨ a = b := by
  have h := List.pairwise_mergeSort (le := fun x y : Pt => !(ltOf cmpP) y x)
    (fun a b c h1 h2 => by
      simp only [Bool.not_eq_true'] at h1 h2 ⊢
      rw [lt_cmpP_no] at *; unfold Bf at *; omega)
    (fun a b => by
      rcases hx : ltOf cmpP b a with _ | _
      · simp
      · have : ltOf cmpP a b = false := by rw [lt_cmpP] at hx; rw [lt_cmpP_no]; exact geo_up.asym hx
        simp [this]) l
  exact h.imp fun {a b} hab => by
    simp only [Bool.not_eq_true'] at hab
    rw [lt_cmpP_no] at hab
    rcases geo_up.tot a b with e | e | e
    · exact .inl e
    · exact .inr e
    · exact absurd e hab
def eqB (s t : Pt) : Bool := s.1 == t.1 && s.2 == t.2
theorem eqB_iff (s t : Pt) : eqB s t = true ↔ s = t := by
  unfold eqB; simp [Prod.ext_iff]
/-- Elements without those that are as the one before. -/
def cmpD (d : List Pt) : Nat → List Pt
  | 0 => []
  | k + 1 => if 0 < k ∧ eqB (pd d k) (pd d (k - 1)) = true then cmpD d k else cmpD d k ++ [pd d k]
theorem cmpD_ok (d : List Pt) (hd : d.Pairwise fun a b => Bf a b ∨ a = b) : ∀ n, n ≤ d.length → (cmpD d n).Pairwise Bf ∧ ∀ q, q ∈ cmpD d n ↔ q ∈ d.take n
  | 0, _ => by simp [cmpD]
  | n + 1, h => by
    obtain ⟨ih1, ih2⟩ := cmpD_ok d hd n (by omega)
    rw [take_pd d n (by omega)]
    unfold cmpD
    split
    · next hc =>
      refine ⟨ih1, fun q => ?_⟩
      rw [ih2, List.mem_append, List.mem_singleton]
      have hm : pd d n ∈ d.take n := by
        rw [(eqB_iff _ _).1 hc.2, pd_eq d (n - 1) (by omega)]
        exact List.mem_iff_getElem.2 ⟨n - 1, by rw [List.length_take]; omega, List.getElem_take⟩
      constructor
      · exact .inl
      · rintro (h | rfl)
        · exact h
        · exact hm
    · next hc =>
      refine ⟨List.pairwise_append.2 ⟨ih1, by simp, fun a ha b hb => ?_⟩, fun q => by rw [List.mem_append, List.mem_append, ih2]⟩
      rw [List.mem_singleton.1 hb]
      rw [ih2] at ha
      obtain ⟨i, hi, he⟩ := List.mem_iff_getElem.1 ha
      rw [List.length_take] at hi
      rw [List.getElem_take] at he
      have h1 := List.pairwise_iff_getElem.1 hd i n (by omega) (by omega) (by omega)
      rw [he, ← pd_eq d n (by omega)] at h1
      rcases h1 with h1 | h1
      · exact h1
      · exfalso
        refine hc ⟨by omega, ?_⟩
        rw [eqB_iff]
        by_cases hin : i = n - 1
        · subst hin; rw [← pd_eq d (n - 1) (by omega)] at he; rw [he, h1]
        · have h2 := List.pairwise_iff_getElem.1 hd i (n - 1) (by omega) (by omega) (by omega)
          have h3 := List.pairwise_iff_getElem.1 hd (n - 1) n (by omega) (by omega) (by omega)
          rw [he, ← pd_eq d (n - 1) (by omega)] at h2
          rw [← pd_eq d n (by omega), ← pd_eq d (n - 1) (by omega)] at h3
          rw [← h1] at h3 ⊢
          rcases h2 with h2 | h2
          · rcases h3 with h3 | h3
            · exact absurd h3 (geo_up.asym h2)
            · exact h3.symm
          · exact h2
theorem sort_srt (l : List Pt) : cmpD (sortP l) (sortP l).length = srtP l := by
  obtain ⟨h1, h2⟩ := cmpD_ok (sortP l) (sortP_ord l) _ (Nat.le_refl _)
  refine srtP_of h1 fun q => ?_
  rw [h2, List.take_length, (sortP_perm l).mem_iff]
def encVP (t : Pt) : List Value := [.int .i64 t.1, .int .i64 t.2]
theorem encVP_len (t : Pt) : (encVP t).length = 2 := rfl
theorem encVP_one (t : Pt) : ∀ v ∈ encVP t, v.oneCell' = true := fun v hv => by
  simp [encVP] at hv
  rcases hv with rfl | rfl <;> rfl
theorem flatP_at (l : List Pt) (k i : Nat) (hk : k < l.length) (hi : i < 2) : (ints (flatP l))[k * 2 + i]? = (encVP (pd l k))[i]? := by
  rw [getD_ints _ _ (by rw [flatP_len]; omega), show gd (flatP l) (k * 2 + i) = gd (encP l[k]) i from flat_gd encP_len l k i hk hi, ← pd_eq l k hk]
  have : i = 0 ∨ i = 1 := by omega
  rcases this with rfl | rfl <;> rfl
/-- The sort's flat row is ours. -/
theorem flatKP_ints (l : List Pt) : (flatK encVP 2 l.toArray).toList = ints (flatP l) := by
  refine List.ext_getElem? fun j => ?_
  by_cases hj : j < l.length * 2
  · have h1 := Sort.get_flatK encVP 2 l.toArray j (by simpa using hj)
    have hq : j / 2 < l.length := by omega
    have h2 := flatP_at l (j / 2) (j % 2) hq (by omega)
    rw [show j / 2 * 2 + j % 2 = j by omega] at h2
    rw [h2]
    have hs : j < (flatK encVP 2 l.toArray).size := by simpa using hj
    rw [getElem!_pos _ j hs] at h1
    rw [Array.getElem?_toList, Array.getElem?_eq_getElem hs, h1]
    have h3 : (l.toArray)[j / 2]! = pd l (j / 2) := by
      rw [getElem!_pos _ _ (by simpa using hq), pd_eq l _ hq]; simp
    rw [h3]
    have hr : j % 2 < (encVP (pd l (j / 2))).length := by rw [encVP_len]; omega
    rw [List.getElem?_eq_getElem hr, getElem!_pos (encVP (pd l (j / 2))) (j % 2) hr]
  · have e1 : (flatK encVP 2 l.toArray).toList.length = l.length * 2 := by simp
    have e2 : (ints (flatP l)).length = l.length * 2 := by simp [ints, flatP_len]
    exact (List.getElem?_eq_none (by omega)).trans (List.getElem?_eq_none (by omega)).symm
theorem holdsP_of {w : World} {B : Nat} {g n cap : Nat} {l : List Pt} (hn : n = l.length) (h : w.ownsRow B 108 2 (.slice (some ⟨g, 0, none⟩) n cap) n (ints (flatP l))) : HoldsK encVP 2 w g 0 l.toArray := by
  intro j hj
  have hj' : j < l.length * 2 := by simpa using hj
  refine ⟨?_, by rw [Nat.zero_add]; exact World.ownsRow.frozenAt h j⟩
  rw [Nat.zero_add, World.ownsRow.cellAt h j (by omega), ← flatKP_ints, Array.getElem?_toList, Array.getElem?_eq_getElem hj]
  rw [getElem!_pos _ j hj]
  rfl
/-- A row of ours behind the sort. -/
theorem putP_row {w : World} {B : Nat} {g n cap : Nat} {xs : List Value} {T : TypeId} (h : w.ownsRow B T 2 (.slice (some ⟨g, 0, none⟩) n cap) n xs) (F : Array Value) (hF : F.size = n * 2) (m : Nat) (os : Array Obj) :
    (grow (putRow id (Sort.ahead w m) g 0 F) os).ownsRow B T 2 (.slice (some ⟨g, 0, none⟩) n cap) n F.toList ∧ w.grownBy (grow (putRow id (Sort.ahead w m) g 0 F) os) (some g) := by
  refine ⟨⟨by simpa using hF, ?_⟩, ?_⟩
  · rcases h.2 with ⟨h0, -⟩ | ⟨g', cap', cur, hv, hB, hh, hn, hc, hs, ht⟩
    · cases h0
    · obtain ⟨rfl, rfl⟩ : g = g' ∧ cap = cap' := by simpa using hv
      have hlt : g < w.heap.size := (Array.getElem?_eq_some_iff.1 hh).1
      refine .inr ⟨g, cap, Sort.putCells id 0 F cur, rfl, hB, ?_, hn, hc, by simp [Sort.putCells, hs], ?_⟩
      · rw [Sort.heap_grow_old _ _ (by rw [Sort.size_putRow]; exact hlt)]
        unfold Sort.putRow Sort.mapBlock
        simp only [Sort.ahead]
        rw [Array.getElem?_modify, if_pos rfl, hh]
        rfl
      · refine List.ext_getElem? fun j => ?_
        by_cases hj : j < n * 2
        · have hcs : n * 2 ≤ cap * 2 := Nat.mul_le_mul_right 2 hn
          rw [List.getElem?_take_of_lt hj, Array.getElem?_toList, Array.getElem?_toList, Array.getElem?_eq_getElem (by omega : j < F.size)]
          simp only [Sort.putCells, Array.getElem?_mapIdx]
          rw [Array.getElem?_eq_getElem (by omega : j < cur.size)]
          simp only [Option.map_some, Nat.zero_le, Nat.zero_add, true_and, Nat.sub_zero, id]
          rw [if_pos (by omega), getElem!_pos _ _ (by omega)]
        · rw [List.getElem?_eq_none (by simp; omega), List.getElem?_eq_none (by simp; omega)]
  · refine ⟨rfl, rfl, rfl, ?_, fun k hk hne => ?_⟩
    · show w.heap.size ≤ (_ ++ os).size
      rw [Array.size_append]
      have : (putRow id (Sort.ahead w m) g 0 F).heap.size = w.heap.size := Sort.size_putRow _ _ _ _ _
      omega
    · have hs : (putRow id (Sort.ahead w m) g 0 F).heap.size = w.heap.size := Sort.size_putRow _ _ _ _ _
      rw [Sort.heap_grow_old _ _ (by rw [hs]; exact hk)]
      unfold Sort.putRow Sort.mapBlock
      simp only [Sort.ahead]
      rw [Array.getElem?_modify, if_neg (by rintro rfl; exact hne rfl)]
theorem cmpD_len (d : List Pt) : ∀ k, (cmpD d k).length ≤ k
  | 0 => by simp [cmpD]
  | k + 1 => by
    have := cmpD_len d k
    unfold cmpD
    split
    · omega
    · simp; omega
theorem cmpD_skip {d : List Pt} {k : Nat} (h0 : 0 < k) (h : eqB (pd d k) (pd d (k - 1)) = true) : cmpD d (k + 1) = cmpD d k := by
  rw [cmpD, if_pos ⟨by omega, h⟩]
theorem cmpD_keep {d : List Pt} {k : Nat} (h : eqB (pd d k) (pd d (k - 1)) = false) : cmpD d (k + 1) = cmpD d k ++ [pd d k] := by
  rw [cmpD, if_neg (by rw [h]; simp)]
theorem cmpD_one {d : List Pt} (h : 0 < d.length) : cmpD d 1 = d.take 1 := by
  rw [cmpD, if_neg (by simp), take_pd d 0 h]; simp [cmpD]
theorem pd_set {L : List Pt} {i p : Nat} {t : Pt} (h : i ≠ p) : pd (L.set i t) p = pd L p := by
  unfold pd; rw [List.getD_eq_getElem?_getD, List.getD_eq_getElem?_getD, List.getElem?_set_ne h]
theorem flatP_set : ∀ (L : List Pt) (i : Nat) (t : Pt), i < L.length → flatP (L.set i t) = ((flatP L).set (i * 2) t.1).set (i * 2 + 1) t.2
  | [], _, _, h => by simp at h
  | a :: r, 0, t, _ => rfl
  | a :: r, i + 1, t, h => by
    have ih := flatP_set r i t (by simpa using h)
    show encP a ++ flatP (r.set i t) = _
    rw [ih, show (i + 1) * 2 = i * 2 + 1 + 1 by omega]
    rfl
theorem take_set_snocP {L : List Pt} {i : Nat} {t : Pt} (h : i < L.length) : (L.set i t).take (i + 1) = L.take i ++ [t] := by
  rw [take_pd _ _ (by simpa using h), List.take_set_of_le (Nat.le_refl _), pd_eq _ _ (by simpa using h)]
  simp
theorem nePt : ∀ (s t : Pt) (w : World), Sem.run Try.prog (binOp .neq 108 (ptV s) (ptV t)) w = .ok (.bool (!eqB s t)) w := by
  intro x y w
  have u3 := Try.underlying3
  have a3 := Try.isAgg3
  have z3 := Try.sizeOf3
  have hS : Try.prog.underlying 108 = some (.struct (Try.prog.fieldsOf 108)) := by kernel_rfl
  have hp : Try.prog.stoodInHeld 108 = false := by kernel_rfl
  unfold eqB
  rw [run_neq_struct, show (10000 : Nat) = 9999 + 1 from rfl, run_equalIn_agg w 9999 108 _ _ hS hp]
  simp only [Program.fieldsOf, Try.underlying108]
  go_simp
  by_cases h1 : x.1 = y.1 <;> by_cases h2 : x.2 = y.2 <;> simp [h1, h2]
theorem eqP_next (a b : List Pt) (k : Nat) (h : k < a.length) (h' : k < b.length) (he : a.take k = b.take k) (hk : pd a k = pd b k) : a.take (k + 1) = b.take (k + 1) := by
  rw [take_pd a k h, take_pd b k h', he, hk]
end Go.Proofs.Ythegkifhbgopoaa

/-
  The ends of a cell in order: slices.SortFunc at arrays of five integers; what endsOfCell returns; the model's ends.
  Condition: the slices read as what is named; the terms are valid, the cell is one.
-/
import Derived.Test.YtbapepflfgcioaaGreatCuE
import Derived.Test.YtbapepflfgcioaaGreatSortend
import Derived.Test.YtbapepflfgcioaaGreatCuB
import Derived.Test.YtbapepflfgcioaaGreatEdL
namespace Go.Proofs.YtbapepflfgcioaaGreat
set_option linter.unusedSimpArgs false
set_option linter.unusedVariables false
open Go.ChangeShapes Go.WideShapes Go.ChangeAt Go.RowKit Go.Maps
open Go.Sort (grow HoldsK Holds putRow putRowK flatK SWO)

/-- Five integers, and the list of them. -/
abbrev En := Int × Int × Int × Int × Int
def l5 (e : En) : List Int := [e.1, e.2.1, e.2.2.1, e.2.2.2.1, e.2.2.2.2]
theorem l5_len (e : En) : (l5 e).length = 5 := rfl
def toEn (e : List Int) : En := (gd e 0, gd e 1, gd e 2, gd e 3, gd e 4)
theorem l5_to {e : List Int} (h : e.length = 5) : l5 (toEn e) = e := by
  match e, h with
  | [a, b, c, d, f], _ => rfl
theorem to_l5 (e : En) : toEn (l5 e) = e := rfl
def flatE (l : List En) : List Int := l.flatMap l5
theorem flatE_len (l : List En) : (flatE l).length = l.length * 5 := flat_len l5_len l
def ped (l : List En) (k : Nat) : En := l.getD k (0, 0, 0, 0, 0)
theorem ped_eq (l : List En) (k : Nat) (hk : k < l.length) : ped l k = l[k] := by
  unfold ped; rw [List.getD_eq_getElem?_getD, List.getElem?_eq_getElem hk]; rfl
theorem flatE_gd {l : List En} {j i : Nat} (hj : j < l.length) (hi : i < 5) : gd (flatE l) (j * 5 + i) = gd (l5 (ped l j)) i := by
  rw [ped_eq l j hj]; exact flat_gd l5_len l j i hj hi
def cmpE (a b : En) : Int := cmpLx (l5 a) (l5 b)
theorem lt_cmpE (a b : En) : ltOf cmpE a b = lxL (l5 a) (l5 b) := by unfold ltOf cmpE; exact lt_cmpLx _ _
theorem swo_cmpE : SWO (ltOf cmpE) where
  irrefl x := by rw [lt_cmpE]; exact totLx.irr _
  trans x y z h1 h2 := by rw [lt_cmpE] at *; exact totLx.tr h1 h2
  ntrans x y z h1 h2 := by
    rw [lt_cmpE] at *
    cases h : lxL (l5 x) (l5 z)
    · rfl
    · exfalso
      cases h3 : lxL (l5 y) (l5 x)
      · have e := totLx.tot h1 h3
        rw [e, h2] at h; cases h
      · have := totLx.tr h3 h
        rw [h2] at this; cases this
theorem tot_cmpE (x y : En) (h : ltOf cmpE x y = false) (h' : ltOf cmpE y x = false) : x = y := by
  rw [lt_cmpE] at h h'
  rw [← to_l5 x, totLx.tot h h', to_l5]
def sortE (l : List En) : List En := l.mergeSort fun x y => !(ltOf cmpE) y x
theorem sortE_perm (l : List En) : (sortE l).Perm l := List.mergeSort_perm _ _
theorem sortE_len (l : List En) : (sortE l).length = l.length := (sortE_perm l).length_eq
theorem sortE_ord (l : List En) : (sortE l).Pairwise fun a b => lxL (l5 b) (l5 a) = false := by
  have h := List.pairwise_mergeSort (le := fun x y : En => !(ltOf cmpE) y x)
    (fun a b c h1 h2 => by
      simp only [Bool.not_eq_true'] at h1 h2 ⊢
      exact swo_cmpE.ntrans c b a h2 h1)
    (fun a b => by
      rcases hx : ltOf cmpE b a with _ | _
      · simp
      · have : ltOf cmpE a b = false := by rw [lt_cmpE] at hx ⊢; exact totLx.asy hx
        simp [this]) l
  exact h.imp fun {a b} hab => by
    simp only [Bool.not_eq_true'] at hab
    rw [lt_cmpE] at hab
    exact hab
def encVE (t : En) : List Value := [.int .i64 t.1, .int .i64 t.2.1, .int .i64 t.2.2.1, .int .i64 t.2.2.2.1, .int .i64 t.2.2.2.2]
theorem encVE_len (t : En) : (encVE t).length = 5 := rfl
theorem encVE_one (t : En) : ∀ v ∈ encVE t, v.oneCell' = true := fun v hv => by
  simp [encVE] at hv
  rcases hv with rfl | rfl | rfl | rfl | rfl <;> rfl
theorem flatE_at (l : List En) (k i : Nat) (hk : k < l.length) (hi : i < 5) : (ints (flatE l))[k * 5 + i]? = (encVE (ped l k))[i]? := by
  rw [getD_ints _ _ (by rw [flatE_len]; omega), flatE_gd hk hi]
  have : i = 0 ∨ i = 1 ∨ i = 2 ∨ i = 3 ∨ i = 4 := by omega
  rcases this with rfl | rfl | rfl | rfl | rfl <;> rfl
theorem flatKE_ints (l : List En) : (flatK encVE 5 l.toArray).toList = ints (flatE l) := by
  refine List.ext_getElem? fun j => ?_
  by_cases hj : j < l.length * 5
  · have h1 := Sort.get_flatK encVE 5 l.toArray j (by simpa using hj)
    have hq : j / 5 < l.length := by omega
    have h2 := flatE_at l (j / 5) (j % 5) hq (by omega)
    rw [show j / 5 * 5 + j % 5 = j by omega] at h2
    rw [h2]
    have hs : j < (flatK encVE 5 l.toArray).size := by simpa using hj
    rw [getElem!_pos _ j hs] at h1
    rw [Array.getElem?_toList, Array.getElem?_eq_getElem hs, h1]
    have h3 : (l.toArray)[j / 5]! = ped l (j / 5) := by
      rw [getElem!_pos _ _ (by simpa using hq), ped_eq l _ hq]; simp
    rw [h3]
    have hr : j % 5 < (encVE (ped l (j / 5))).length := by rw [encVE_len]; omega
    rw [List.getElem?_eq_getElem hr, getElem!_pos (encVE (ped l (j / 5))) (j % 5) hr]
  · have e1 : (flatK encVE 5 l.toArray).toList.length = l.length * 5 := by simp
    have e2 : (ints (flatE l)).length = l.length * 5 := by simp [ints, flatE_len]
    exact (List.getElem?_eq_none (by omega)).trans (List.getElem?_eq_none (by omega)).symm
abbrev EnS (w : World) (B : Nat) (v : Value) (l : List En) : Prop := FS 69 5 w B v l.length (flatE l)
theorem holdsE_of {w : World} {B : Nat} {g n cap : Nat} {l : List En} (hn : n = l.length) (h : w.ownsRow B 69 5 (.slice (some ⟨g, 0, none⟩) n cap) n (ints (flatE l))) : HoldsK encVE 5 w g 0 l.toArray := by
  intro j hj
  have hj' : j < l.length * 5 := by simpa using hj
  refine ⟨?_, by rw [Nat.zero_add]; exact World.ownsRow.frozenAt h j⟩
  rw [Nat.zero_add, World.ownsRow.cellAt h j (by omega), ← flatKE_ints, Array.getElem?_toList, Array.getElem?_eq_getElem hj]
  rw [getElem!_pos _ j hj]
  rfl
/-- A row of k cells an element behind the sort. -/
theorem putK_row {k : Nat} {w : World} {B : Nat} {g n cap : Nat} {xs : List Value} {T : TypeId} (h : w.ownsRow B T k (.slice (some ⟨g, 0, none⟩) n cap) n xs) (F : Array Value) (hF : F.size = n * k) (m : Nat) (os : Array Obj) :
    (grow (putRow id (Sort.ahead w m) g 0 F) os).ownsRow B T k (.slice (some ⟨g, 0, none⟩) n cap) n F.toList ∧ w.grownBy (grow (putRow id (Sort.ahead w m) g 0 F) os) (some g) := by
  refine ⟨⟨by simpa using hF, ?_⟩, ?_⟩
  · rcases h.2 with ⟨h0, -⟩ | ⟨g', cap', cur, hv, hB, hh, hn, hc, hs, ht⟩
    · cases h0
    · obtain ⟨rfl, rfl⟩ : g = g' ∧ cap = cap' := by simpa using hv
      have hlt : g < w.heap.size := (Array.getElem?_eq_some_iff.1 hh).1
      refine .inr ⟨g, cap, Sort.putCells id 0 F cur, rfl, hB, ?_, hn, hc, by simp [Sort.putCells, hs], ?_⟩
      · rw [Sort.heap_grow_old _ _ (by rw [Sort.size_putRow]; exact hlt)]
        unfold Sort.putRow Sort.mapBlock
        simp only [Sort.ahead]
        rw [Array.getElem?_modify, if_pos rfl, hh]
        rfl
      · refine List.ext_getElem? fun j => ?_
        by_cases hj : j < n * k
        · have hcs : n * k ≤ cap * k := Nat.mul_le_mul_right k hn
          rw [List.getElem?_take_of_lt hj, Array.getElem?_toList, Array.getElem?_toList, Array.getElem?_eq_getElem (by omega : j < F.size)]
          simp only [Sort.putCells, Array.getElem?_mapIdx]
          rw [Array.getElem?_eq_getElem (by omega : j < cur.size)]
          simp only [Option.map_some, Nat.zero_le, Nat.zero_add, true_and, Nat.sub_zero, id]
          rw [if_pos (by omega), getElem!_pos _ _ (by omega)]
        · rw [List.getElem?_eq_none (by simp; omega), List.getElem?_eq_none (by simp; omega)]
  · refine ⟨rfl, rfl, rfl, ?_, fun k hk hne => ?_⟩
    · show w.heap.size ≤ (_ ++ os).size
      rw [Array.size_append]
      have : (putRow id (Sort.ahead w m) g 0 F).heap.size = w.heap.size := Sort.size_putRow _ _ _ _ _
      omega
    · have hs : (putRow id (Sort.ahead w m) g 0 F).heap.size = w.heap.size := Sort.size_putRow _ _ _ _ _
      rw [Sort.heap_grow_old _ _ (by rw [hs]; exact hk)]
      unfold Sort.putRow Sort.mapBlock
      simp only [Sort.ahead]
      rw [Array.getElem?_modify, if_neg (by rintro rfl; exact hne rfl)]
abbrev vE (t : En) : Value := .agg #[.int .i64 t.1, .int .i64 t.2.1, .int .i64 t.2.2.1, .int .i64 t.2.2.2.1, .int .i64 t.2.2.2.2]
/-- A box of five integers, cut whole, reads as the list of them. -/
theorem E5.rd {w : World} {g : Nat} {t : En} (h : E5 w g t.1 t.2.1 t.2.2.1 t.2.2.2.1 t.2.2.2.2) : RdV w (.slice (some ⟨g, 0, none⟩) 5 5) (l5 t) := by
  obtain ⟨⟨h0, h1, h2, h3, h4⟩, -⟩ := h.cells
  refine ⟨some ⟨g, 0, none⟩, 5, rfl, by rw [l5_len]; unfold maxLen; omega, fun k hk => ⟨g, rfl, ?_⟩⟩
  rw [l5_len] at hk
  have : k = 0 ∨ k = 1 ∨ k = 2 ∨ k = 3 ∨ k = 4 := by omega
  rcases this with rfl | rfl | rfl | rfl | rfl
  · exact h0
  · exact h1
  · exact h2
  · exact h3
  · exact h4
end Go.Proofs.YtbapepflfgcioaaGreat
/-
  All ends of a cell, of both; BalanceAt of both.
  Condition: the slices read as what is named; the terms are valid, the cell is one.
-/
namespace Go.Proofs.YtbapepflfgcioaaGreat
set_option linter.unusedSimpArgs false
set_option linter.unusedVariables false
open Go.ChangeShapes Go.WideShapes Go.ChangeAt Go.RowKit Go.Maps
open Go.Sort (grow)

theorem lxL_pre : ∀ {s s' t t' : List Int}, s.length = s'.length → lxL s s' = true → lxL (s ++ t) (s' ++ t') = true
  | [], [], _, _, _, h => by cases h
  | [], _ :: _, _, _, hl, _ => by simp at hl
  | _ :: _, [], _, _, hl, _ => by simp at hl
  | a :: s, b :: s', t, t', hl, h => by
    rw [List.cons_append, List.cons_append]
    by_cases e : a = b
    · rw [lxL_same e] at h ⊢; exact lxL_pre (by simpa using hl) h
    · rw [lxL_diff e] at h ⊢; exact h
/-- An end: its side, its direction, its weight; all ends of a cell, in order. -/
def enE (l : List Tm) (x : List Int) (e : List Int) : List Int := e ++ enT l x (gd e 0).toNat (gd e 1).toNat
theorem enE_pair (l : List Tm) (x : List Int) (i k : Nat) : enE l x [(i : Int), (k : Int)] = [(i : Int), (k : Int)] ++ enT l x i k := by
  unfold enE
  rw [show gd [(i : Int), (k : Int)] 0 = (i : Int) from rfl, show gd [(i : Int), (k : Int)] 1 = (k : Int) from rfl, Int.toNat_natCast, Int.toNat_natCast]
theorem enE_len {l : List Tm} (hl : plB l = true) {x : List Int} (hx : x ∈ ceL l) {e : List Int} (he : e ∈ sdL l x) : (enE l x e).length = 5 := by
  obtain ⟨i, k, -, -, rfl, -⟩ := side_of hl hx he
  rw [enE_pair, List.length_append, enT_len]; rfl
def enL (l : List Tm) (x : List Int) : List (List Int) := (setX lxL (sdL l x)).map (enE l x)
theorem enL_len (l : List Tm) (x : List Int) : (enL l x).length = (setX lxL (sdL l x)).length := by simp [enL]
theorem side_len {l : List Tm} (hl : plB l = true) {x : List Int} (hx : x ∈ ceL l) {e : List Int} (he : e ∈ sdL l x) : e.length = 2 := by
  obtain ⟨i, k, -, -, rfl, -⟩ := side_of hl hx he
  rfl
theorem enL_inc {l : List Tm} (hl : plB l = true) {x : List Int} (hx : x ∈ ceL l) : Inc lxL (enL l x) := by
  unfold enL Inc
  rw [List.pairwise_map]
  refine List.Pairwise.imp_of_mem ?_ (setX_inc totLx (sdL l x))
  intro a b ha hb hab
  rw [setX_mem totLx] at ha hb
  exact lxL_pre (by rw [side_len hl hx ha, side_len hl hx hb]) hab
def ME (l : List Tm) (x : List Int) : List En := (sdL l x).map fun s => toEn (enE l x s)
theorem ME_len (l : List Tm) (x : List Int) : (ME l x).length = (sdL l x).length := by simp [ME]
theorem ME_at {l : List Tm} {x : List Int} {j : Nat} (hj : j < (sdL l x).length) : ped (ME l x) j = toEn (enE l x ((sdL l x)[j])) := by
  rw [ped_eq _ _ (by rw [ME_len]; exact hj)]
  unfold ME
  rw [List.getElem_map]
theorem ME_l5 {l : List Tm} (hl : plB l = true) {x : List Int} (hx : x ∈ ceL l) : (ME l x).map l5 = (sdL l x).map (enE l x) := by
  unfold ME
  rw [List.map_map]
  exact List.map_congr_left fun e he => l5_to (enE_len hl hx he)
theorem ends_sorted {l : List Tm} (hl : plB l = true) {x : List Int} (hx : x ∈ ceL l) : (sortE (ME l x)).map l5 = enL l x := by
  have hp : ((sortE (ME l x)).map l5).Perm ((sdL l x).map (enE l x)) := by rw [← ME_l5 hl hx]; exact (sortE_perm _).map _
  have hn : ((sdL l x).map (enE l x)).Nodup := by
    rw [List.nodup_iff_pairwise_ne, List.pairwise_map]
    refine List.Pairwise.imp_of_mem ?_ (List.nodup_iff_pairwise_ne.1 (sd_nodup hx))
    intro a b ha hb hab e
    exact hab (List.append_inj_left e (by rw [side_len hl hx ha, side_len hl hx hb]))
  refine inc_ext totLx ?_ (enL_inc hl hx) fun e => ?_
  · have h1 : ((sortE (ME l x)).map l5).Pairwise fun a b => lxL b a = false := by rw [List.pairwise_map]; exact sortE_ord _
    have h2 := List.nodup_iff_pairwise_ne.1 (hp.nodup_iff.2 hn)
    refine (h1.and h2).imp fun {a b} h => ?_
    cases hab : lxL a b
    · exact absurd (totLx.tot hab h.1) h.2
    · rfl
  · rw [hp.mem_iff]
    unfold enL
    rw [List.mem_map, List.mem_map]
    constructor
    · rintro ⟨s, hs, rfl⟩; exact ⟨s, (setX_mem totLx _ _).2 hs, rfl⟩
    · rintro ⟨s, hs, rfl⟩; exact ⟨s, (setX_mem totLx _ _).1 hs, rfl⟩
theorem infoEnd : (Tryz.prog.info? 69).map (fun i => (i.zero, i.size, i.bytes)) = some (some (.agg #[.int .i64 0, .int .i64 0, .int .i64 0, .int .i64 0, .int .i64 0]), 5, 40) := by kernel_rfl
theorem part5 (zs : List Int) (j : Nat) (hj : j * 5 + 4 < zs.length) : (((((part zs (j * 5)).set (j * 5) (gd zs (j * 5))).set (j * 5 + 1) (gd zs (j * 5 + 1))).set (j * 5 + 2) (gd zs (j * 5 + 2))).set (j * 5 + 3) (gd zs (j * 5 + 3))).set (j * 5 + 4) (gd zs (j * 5 + 4)) = part zs ((j + 1) * 5) := by
  rw [part_set zs (j * 5) (by omega), part_set zs (j * 5 + 1) (by omega), part_set zs (j * 5 + 2) (by omega), part_set zs (j * 5 + 3) (by omega), part_set zs (j * 5 + 4) hj]
  congr 1
  omega
end Go.Proofs.YtbapepflfgcioaaGreat

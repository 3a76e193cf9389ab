/-
  The ends of a cell in order: slices.SortFunc at arrays of five integers; what endsOfCell returns; the model's ends.
  Condition: the slices read as what is named; the terms are valid, the cell is one.
-/
import Derived.Test.YtcfplfjllnojoaaGreatCuE
import Derived.Test.YtcfplfjllnojoaaGreatSortend
import Derived.Test.YtcfplfjllnojoaaGreatCuB
import Derived.Test.YtcfplfjllnojoaaGreatEdL
namespace Go.Proofs.YtcfplfjllnojoaaGreat
set_option linter.unusedSimpArgs false
set_option linter.unusedVariables false
open Go.ChangeShapes Go.WideShapes Go.ChangeAt Go.RowKit Go.Maps
open Go.Sort (grow HoldsK Holds putRow putRowK flatK SWO)

/-- Five integers, and the list of them. -/
abbrev En := Int × Int × Int × Int × Int
def l5 (e : En) : List Int := [e.1, e.2.1, e.2.2.1, e.2.2.2.1, e.2.2.2.2]
theorem l5_len (e : En) : (l5 e).length = 5 := rfl
def toEn (e : List Int) : En := (gd e 0, gd e 1, gd e 2, gd e 3, gd e 4)
theorem l5_to {e : List Int} (h : e.length = 5) : l5 (toEn e) = e := by
  match e, h with
  | [a, b, c, d, f], _ => rfl
theorem to_l5 (e : En) : toEn (l5 e) = e := rfl
def flatE (l : List En) : List Int := l.flatMap l5
theorem flatE_len (l : List En) : (flatE l).length = l.length * 5 := flat_len l5_len l
def ped (l : List En) (k : Nat) : En := l.getD k (0, 0, 0, 0, 0)
theorem ped_eq (l : List En) (k : Nat) (hk : k < l.length) : ped l k = l[k] := by
  unfold ped; rw [List.getD_eq_getElem?_getD, List.getElem?_eq_getElem hk]; rfl
theorem flatE_gd {l : List En} {j i : Nat} (hj : j < l.length) (hi : i < 5) : gd (flatE l) (j * 5 + i) = gd (l5 (ped l j)) i := by
  rw [ped_eq l j hj]; exact flat_gd l5_len l j i hj hi
def cmpE (a b : En) : Int := cmpLx (l5 a) (l5 b)
theorem lt_cmpE (a b : En) : ltOf cmpE a b = lxL (l5 a) (l5 b) := by unfold ltOf cmpE; exact lt_cmpLx _ _
theorem swo_cmpE : SWO (ltOf cmpE) where
  irrefl x := by rw [lt_cmpE]; exact totLx.irr _
  trans x y z h1 h2 := by rw [lt_cmpE] at *; exact totLx.tr h1 h2
  ntrans x y z h1 h2 := by
    rw [lt_cmpE] at *
    cases h : lxL (l5 x) (l5 z)
    · rfl
    · exfalso
      cases h3 : lxL (l5 y) (l5 x)
      · have e := totLx.tot h1 h3
        rw [e, h2] at h; cases h
      · have := totLx.tr h3 h
        rw [h2] at this; cases this
theorem tot_cmpE (x y : En) (h : ltOf cmpE x y = false) (h' : ltOf cmpE y x = false) : x = y := by
  rw [lt_cmpE] at h h'
  rw [← to_l5 x, totLx.tot h h', to_l5]
def sortE (l : List En) : List En := l.mergeSort fun x y => !(ltOf cmpE) y x
theorem sortE_perm (l : List En) : (sortE l).Perm l := List.mergeSort_perm _ _
theorem sortE_len (l : List En) : (sortE l).length = l.length := (sortE_perm l).length_eq
theorem sortE_ord (l : List En) : (sortE l).Pairwise fun a b => lxL (l5 b) (l5 a) = false := by
  have h := List.pairwise_mergeSort (le := fun x y : En => !(ltOf cmpE) y x)
    (fun a b c h1 h2 => by
      simp only [Bool.not_eq_true'] at h1 h2 ⊢
      exact swo_cmpE.ntrans c b a h2 h1)
    (fun a b => by
      rcases hx : ltOf cmpE b a with _ | _
      · simp
      · have : ltOf cmpE a b = false := by rw [lt_cmpE] at hx ⊢; exact totLx.asy hx
        simp [this]) l
  exact h.imp fun {a b} hab => by
    simp only [Bool.not_eq_true'] at hab
    rw [lt_cmpE] at hab
    exact hab
def encVE (t : En) : List Value := [.int .i64 t.1, .int .i64 t.2.1, .int .i64 t.2.2.1, .int .i64 t.2.2.2.1, .int .i64 t.2.2.2.2]
theorem encVE_len (t : En) : (encVE t).length = 5 := rfl
theorem encVE_one (t : En) : ∀ v ∈ encVE t, v.oneCell' = true := fun v hv => by
  simp [encVE] at hv
  rcases hv with rfl | rfl | rfl | rfl | rfl <;> rfl
theorem flatE_at (l : List En) (k i : Nat) (hk : k < l.length) (hi : i < 5) : (ints (flatE l))[k * 5 + i]? = (encVE (ped l k))[i]? := by
  rw [getD_ints _ _ (by rw [flatE_len]; omega), flatE_gd hk hi]
  have : i = 0 ∨ i = 1 ∨ i = 2 ∨ i = 3 ∨ i = 4 := by omega
  rcases this with rfl | rfl | rfl | rfl | rfl <;> rfl
theorem flatKE_ints (l : List En) : (flatK encVE 5 l.toArray).toList = ints (flatE l) := by
  refine List.ext_getElem? fun j => ?_
  by_cases hj : j < l.length * 5
  · have h1 := Sort.get_flatK encVE 5 l.toArray j (by simpa using hj)
    have hq : j / 5 < l.length := by omega
    have h2 := flatE_at l (j / 5) (j % 5) hq (by omega)
    rw [show j / 5 * 5 + j % 5 = j by omega] at h2
    rw [h2]
    have hs : j < (flatK encVE 5 l.toArray).size := by simpa using hj
    rw [getElem!_pos _ j hs] at h1
    rw [Array.getElem?_toList, Array.getElem?_eq_getElem hs, h1]
    have h3 : (l.toArray)[j / 5]! = ped l (j / 5) := by
      rw [getElem!_pos _ _ (by simpa using hq), ped_eq l _ hq]; simp
    rw [h3]
    have hr : j % 5 < (encVE (ped l (j / 5))).length := by rw [encVE_len]; omega
    rw [List.getElem?_eq_getElem hr, getElem!_pos (encVE (ped l (j / 5))) (j % 5) hr]
  · have e1 : (flatK encVE 5 l.toArray).toList.length = l.length * 5 := by simp
    have e2 : (ints (flatE l)).length = l.length * 5 := by simp [ints, flatE_len]
    exact (List.getElem?_eq_none (by omega)).trans (List.getElem?_eq_none (by omega)).symm
abbrev EnS (w : World) (B : Nat) (v : Value) (l : List En) : Prop := FS 50 5 w B v l.length (flatE l)
theorem holdsE_of {w : World} {B : Nat} {g n cap : Nat} {l : List En} (hn : n = l.length) (h : w.ownsRow B 50 5 (.slice (some ⟨g, 0, none⟩) n cap) n (ints (flatE l))) : HoldsK encVE 5 w g 0 l.toArray := by
  intro j hj
  have hj' : j < l.length * 5 := by simpa using hj
  refine ⟨?_, by rw [Nat.zero_add]; exact World.ownsRow.frozenAt h j⟩
  rw [Nat.zero_add, World.ownsRow.cellAt h j (by omega), ← flatKE_ints, Array.getElem?_toList, Array.getElem?_eq_getElem hj]
  rw [getElem!_pos _ j hj]
  rfl
/-- A row of k cells an element behind the sort. -/
theorem putK_row {k : Nat} {w : World} {B : Nat} {g n cap : Nat} {xs : List Value} {T : TypeId} (h : w.ownsRow B T k (.slice (some ⟨g, 0, none⟩) n cap) n xs) (F : Array Value) (hF : F.size = n * k) (m : Nat) (os : Array Obj) :
    (grow (putRow id (Sort.ahead w m) g 0 F) os).ownsRow B T k (.slice (some ⟨g, 0, none⟩) n cap) n F.toList ∧ w.grownBy (grow (putRow id (Sort.ahead w m) g 0 F) os) (some g) := by
  refine ⟨⟨by simpa using hF, ?_⟩, ?_⟩
  · rcases h.2 with ⟨h0, -⟩ | ⟨g', cap', cur, hv, hB, hh, hn, hc, hs, ht⟩
    · cases h0
    · obtain ⟨rfl, rfl⟩ : g = g' ∧ cap = cap' := by simpa using hv
      have hlt : g < w.heap.size := (Array.getElem?_eq_some_iff.1 hh).1
      refine .inr ⟨g, cap, Sort.putCells id 0 F cur, rfl, hB, ?_, hn, hc, by simp [Sort.putCells, hs], ?_⟩
      · rw [Sort.heap_grow_old _ _ (by rw [Sort.size_putRow]; exact hlt)]
        unfold Sort.putRow Sort.mapBlock
        simp only [Sort.ahead]
        rw [Array.getElem?_modify, if_pos rfl, hh]
        rfl
      · refine List.ext_getElem? fun j => ?_
        by_cases hj : j < n * k
        · have hcs : n * k ≤ cap * k := Nat.mul_le_mul_right k hn
          rw [List.getElem?_take_of_lt hj, Array.getElem?_toList, Array.getElem?_toList, Array.getElem?_eq_getElem (by omega : j < F.size)]
          simp only [Sort.putCells, Array.getElem?_mapIdx]
          rw [Array.getElem?_eq_getElem (by omega : j < cur.size)]
          simp only [Option.map_some, Nat.zero_le, Nat.zero_add, true_and, Nat.sub_zero, id]
          rw [if_pos (by omega), getElem!_pos _ _ (by omega)]
        · rw [List.getElem?_eq_none (by simp; omega), List.getElem?_eq_none (by simp; omega)]
  · refine ⟨rfl, rfl, rfl, ?_, fun k hk hne => ?_⟩
    · show w.heap.size ≤ (_ ++ os).size
      rw [Array.size_append]
      have : (putRow id (Sort.ahead w m) g 0 F).heap.size = w.heap.size := Sort.size_putRow _ _ _ _ _
      omega
    · have hs : (putRow id (Sort.ahead w m) g 0 F).heap.size = w.heap.size := Sort.size_putRow _ _ _ _ _
      rw [Sort.heap_grow_old _ _ (by rw [hs]; exact hk)]
      unfold Sort.putRow Sort.mapBlock
      simp only [Sort.ahead]
      rw [Array.getElem?_modify, if_neg (by rintro rfl; exact hne rfl)]
abbrev vE (t : En) : Value := .agg #[.int .i64 t.1, .int .i64 t.2.1, .int .i64 t.2.2.1, .int .i64 t.2.2.2.1, .int .i64 t.2.2.2.2]
/-- A box of five integers, cut whole, reads as the list of them. -/
theorem E5.rd {w : World} {g : Nat} {t : En} (h : E5 w g t.1 t.2.1 t.2.2.1 t.2.2.2.1 t.2.2.2.2) : RdV w (.slice (some ⟨g, 0, none⟩) 5 5) (l5 t) := by
  obtain ⟨⟨h0, h1, h2, h3, h4⟩, -⟩ := h.cells
  refine ⟨some ⟨g, 0, none⟩, 5, rfl, by rw [l5_len]; unfold maxLen; omega, fun k hk => ⟨g, rfl, ?_⟩⟩
  rw [l5_len] at hk
  have : k = 0 ∨ k = 1 ∨ k = 2 ∨ k = 3 ∨ k = 4 := by omega
  rcases this with rfl | rfl | rfl | rfl | rfl
  · exact h0
  · exact h1
  · exact h2
  · exact h3
  · exact h4
set_option maxHeartbeats 1000000 in
theorem cmpE_any (x y : En) (w : World) : Calls Tryz.prog 47 #[vE x, vE y] w fun e w' => e = .returned (.int .i64 (cmpE x y)) ∧ Gr w w' := by
  obtain ⟨w2, hw2⟩ : ∃ w2, w2 = (w.alloc (.cells #[.int .i64 x.1, .int .i64 x.2.1, .int .i64 x.2.2.1, .int .i64 x.2.2.2.1, .int .i64 x.2.2.2.2] 50)).alloc (.cells #[.int .i64 y.1, .int .i64 y.2.1, .int .i64 y.2.2.1, .int .i64 y.2.2.2.1, .int .i64 y.2.2.2.2] 50) := ⟨_, rfl⟩
  have h1 := (E5.new w x.1 x.2.1 x.2.2.1 x.2.2.2.1 x.2.2.2.2).below ((Below.refl _ _).alloc (Nat.le_refl _) (.cells #[.int .i64 y.1, .int .i64 y.2.1, .int .i64 y.2.2.1, .int .i64 y.2.2.2.1, .int .i64 y.2.2.2.2] 50))
  have h2 := E5.new (w.alloc (.cells #[.int .i64 x.1, .int .i64 x.2.1, .int .i64 x.2.2.1, .int .i64 x.2.2.2.1, .int .i64 x.2.2.2.2] 50)) y.1 y.2.1 y.2.2.1 y.2.2.2.1 y.2.2.2.2
  rw [World.size_alloc] at h2
  rw [← hw2] at h1 h2
  have HG := Lib.hid (show Gr w w2 by rw [hw2]; exact gr2 _ _ _)
  have HC := Lib.hid (fun k => show Calls Tryz.prog 26 #[.slice (some ⟨w.heap.size, 0, none⟩) 5 5, .slice (some ⟨w.heap.size + 1, 0, none⟩) 5 5] (w2.drewN k) fun e w' => e = .returned (.int .i64 (cmpE x y)) ∧ w' = w2.drewN k from
    (compareSl_rd (w2.drewN k) _ _ (l5 x) (l5 y) (E5.rd (t := x) (h1.below (belN (Below.refl _ _) k))) (E5.rd (t := y) (h2.below (belN (Below.refl _ _) k)))).mono fun e w' h => ⟨h.1, h.2.symm⟩)
  clear h1 h2
  go_enter Tryz.func47, Tryz.ntmps47
  go_upto_region 1 with fail
  rw [← hw2]
  clear hw2
  go_wp2
  go_quiet (first | (with_reducible exact Calls.quiet_of_same (HC.out _)))
  go_wp2
  go_ret
  exact ⟨rfl, HG.out.trans ⟨nq, #[], by rw [Sort.grow_empty]⟩⟩
theorem cmpE_lays (blk off size : Nat) (w : World) : CmpLays Tryz.prog 47 #[] encVE 5 cmpE blk off size w := fun _ _ _ _ x y => cmpE_any x y _
theorem entE_cmp : ∀ (args : Array Value) (w : World), (callFunc 47 args).run Tryz.prog w = .ok (.enter 47 args) w := enters_of Tryz.func47 (by kernel_rfl) rfl
theorem sortFuncE_any (w : World) (B : Nat) (v : Value) (l : List En) (h : EnS w B v l) (hz : l.length ≤ 1000000) : Calls Tryz.prog 46 #[v, .func (.func 47) #[] #[]] w fun e w' => e = .returned (.tuple #[]) ∧ EnS w' B v (sortE l) ∧ w.grownBy w' v.ownBlock := by
  have hlen := h.len
  rcases h.2 with ⟨rfl, h0⟩ | ⟨g, cap, cur, rfl, hBg, hh, -⟩
  · have hl : l = [] := List.eq_nil_of_length_eq_zero h0
    subst hl
    have hcon := AnyF.slices_SortFunc_none { Tryz.sortend with } none 0 (.func (.func 47) #[] #[]) w
    refine hcon.mono ?_
    rintro e w' ⟨rfl, rfl⟩
    exact ⟨rfl, by simpa [sortE] using h, World.grownBy.refl _ _⟩
  · have hg : g < w.heap.size := (Array.getElem?_eq_some_iff.1 hh).1
    have hcon := AnyQ.slices_SortFunc_total Tryz.sortend 5 Tryz.isAgg50 Tryz.sizeOf50 encVE encVE_len encVE_one cmpE swo_cmpE 47 #[] g 0 cap l.toArray w entE_cmp (cmpE_lays g 0 _ w) (holdsE_of rfl h) hg (by simp; omega) tot_cmpE
    rw [List.size_toArray] at hcon
    refine hcon.mono ?_
    rintro e w' ⟨rfl, m, os, rfl⟩
    have hF : (flatK encVE 5 (sortE l).toArray).size = l.length * 5 := by rw [Sort.size_flatK, List.size_toArray, sortE_len]
    obtain ⟨h1, h2⟩ := putK_row h (flatK encVE 5 (sortE l).toArray) hF m os
    refine ⟨rfl, ?_, h2⟩
    unfold EnS FS
    rw [sortE_len, ← flatKE_ints]
    exact h1
end Go.Proofs.YtcfplfjllnojoaaGreat
/-
  All ends of a cell, of both; BalanceAt of both.
  Condition: the slices read as what is named; the terms are valid, the cell is one.
-/
namespace Go.Proofs.YtcfplfjllnojoaaGreat
set_option linter.unusedSimpArgs false
set_option linter.unusedVariables false
open Go.ChangeShapes Go.WideShapes Go.ChangeAt Go.RowKit Go.Maps
open Go.Sort (grow)

theorem lxL_pre : ∀ {s s' t t' : List Int}, s.length = s'.length → lxL s s' = true → lxL (s ++ t) (s' ++ t') = true
  | [], [], _, _, _, h => by cases h
  | [], _ :: _, _, _, hl, _ => by simp at hl
  | _ :: _, [], _, _, hl, _ => by simp at hl
  | a :: s, b :: s', t, t', hl, h => by
    rw [List.cons_append, List.cons_append]
    by_cases e : a = b
    · rw [lxL_same e] at h ⊢; exact lxL_pre (by simpa using hl) h
    · rw [lxL_diff e] at h ⊢; exact h
/-- An end: its side, its direction, its weight; all ends of a cell, in order. -/
def enE (l : List Tm) (x : List Int) (e : List Int) : List Int := e ++ enT l x (gd e 0).toNat (gd e 1).toNat
theorem enE_pair (l : List Tm) (x : List Int) (i k : Nat) : enE l x [(i : Int), (k : Int)] = [(i : Int), (k : Int)] ++ enT l x i k := by
  unfold enE
  rw [show gd [(i : Int), (k : Int)] 0 = (i : Int) from rfl, show gd [(i : Int), (k : Int)] 1 = (k : Int) from rfl, Int.toNat_natCast, Int.toNat_natCast]
theorem enE_len {l : List Tm} (hl : plB l = true) {x : List Int} (hx : x ∈ ceL l) {e : List Int} (he : e ∈ sdL l x) : (enE l x e).length = 5 := by
  obtain ⟨i, k, -, -, rfl, -⟩ := side_of hl hx he
  rw [enE_pair, List.length_append, enT_len]; rfl
def enL (l : List Tm) (x : List Int) : List (List Int) := (setX lxL (sdL l x)).map (enE l x)
theorem enL_len (l : List Tm) (x : List Int) : (enL l x).length = (setX lxL (sdL l x)).length := by simp [enL]
theorem side_len {l : List Tm} (hl : plB l = true) {x : List Int} (hx : x ∈ ceL l) {e : List Int} (he : e ∈ sdL l x) : e.length = 2 := by
  obtain ⟨i, k, -, -, rfl, -⟩ := side_of hl hx he
  rfl
theorem enL_inc {l : List Tm} (hl : plB l = true) {x : List Int} (hx : x ∈ ceL l) : Inc lxL (enL l x) := by
  unfold enL Inc
  rw [List.pairwise_map]
  refine List.Pairwise.imp_of_mem ?_ (setX_inc totLx (sdL l x))
  intro a b ha hb hab
  rw [setX_mem totLx] at ha hb
  exact lxL_pre (by rw [side_len hl hx ha, side_len hl hx hb]) hab
def ME (l : List Tm) (x : List Int) : List En := (sdL l x).map fun s => toEn (enE l x s)
theorem ME_len (l : List Tm) (x : List Int) : (ME l x).length = (sdL l x).length := by simp [ME]
theorem ME_at {l : List Tm} {x : List Int} {j : Nat} (hj : j < (sdL l x).length) : ped (ME l x) j = toEn (enE l x ((sdL l x)[j])) := by
  rw [ped_eq _ _ (by rw [ME_len]; exact hj)]
  unfold ME
  rw [List.getElem_map]
theorem ME_l5 {l : List Tm} (hl : plB l = true) {x : List Int} (hx : x ∈ ceL l) : (ME l x).map l5 = (sdL l x).map (enE l x) := by
  unfold ME
  rw [List.map_map]
  exact List.map_congr_left fun e he => l5_to (enE_len hl hx he)
theorem ends_sorted {l : List Tm} (hl : plB l = true) {x : List Int} (hx : x ∈ ceL l) : (sortE (ME l x)).map l5 = enL l x := by
  have hp : ((sortE (ME l x)).map l5).Perm ((sdL l x).map (enE l x)) := by rw [← ME_l5 hl hx]; exact (sortE_perm _).map _
  have hn : ((sdL l x).map (enE l x)).Nodup := by
    rw [List.nodup_iff_pairwise_ne, List.pairwise_map]
    refine List.Pairwise.imp_of_mem ?_ (List.nodup_iff_pairwise_ne.1 (sd_nodup hx))
    intro a b ha hb hab e
    exact hab (List.append_inj_left e (by rw [side_len hl hx ha, side_len hl hx hb]))
  refine inc_ext totLx ?_ (enL_inc hl hx) fun e => ?_
  · have h1 : ((sortE (ME l x)).map l5).Pairwise fun a b => lxL b a = false := by rw [List.pairwise_map]; exact sortE_ord _
    have h2 := List.nodup_iff_pairwise_ne.1 (hp.nodup_iff.2 hn)
    refine (h1.and h2).imp fun {a b} h => ?_
    cases hab : lxL a b
    · exact absurd (totLx.tot hab h.1) h.2
    · rfl
  · rw [hp.mem_iff]
    unfold enL
    rw [List.mem_map, List.mem_map]
    constructor
    · rintro ⟨s, hs, rfl⟩; exact ⟨s, (setX_mem totLx _ _).2 hs, rfl⟩
    · rintro ⟨s, hs, rfl⟩; exact ⟨s, (setX_mem totLx _ _).1 hs, rfl⟩
theorem infoEnd : (Tryz.prog.info? 50).map (fun i => (i.zero, i.size, i.bytes)) = some (some (.agg #[.int .i64 0, .int .i64 0, .int .i64 0, .int .i64 0, .int .i64 0]), 5, 40) := by kernel_rfl
theorem part5 (zs : List Int) (j : Nat) (hj : j * 5 + 4 < zs.length) : (((((part zs (j * 5)).set (j * 5) (gd zs (j * 5))).set (j * 5 + 1) (gd zs (j * 5 + 1))).set (j * 5 + 2) (gd zs (j * 5 + 2))).set (j * 5 + 3) (gd zs (j * 5 + 3))).set (j * 5 + 4) (gd zs (j * 5 + 4)) = part zs ((j + 1) * 5) := by
  rw [part_set zs (j * 5) (by omega), part_set zs (j * 5 + 1) (by omega), part_set zs (j * 5 + 2) (by omega), part_set zs (j * 5 + 3) (by omega), part_set zs (j * 5 + 4) hj]
  congr 1
  omega
set_option maxHeartbeats 4000000 in
set_option maxRecDepth 100000 in
theorem endsOfCell_any (w : World) (B B' : Nat) (v c : Value) (l : List Tm) (x : List Int) (h : TmS w B v l) (hc : IS w B' c x) (hl : plB l = true) (hx : x ∈ ceL l) :
    Calls Tryz.prog 22 #[v, c] w fun e w' => ∃ r E, e = .returned r ∧ EnS w' w.heap.size r E ∧ E.map l5 = enL l x ∧ Below w.heap.size w w' := by
  have HL := Lib.hid hl
  have HX := Lib.hid hx
  have h12 := hc_le hx (plB_le hl).2
  rw [← sdL_len] at h12
  go_enter Tryz.func22, Tryz.ntmps22
  go_wp2_with fail
  refine (sidesOfCell_any w B B' v c l x h hc hl hx).mono ?_
  rintro e w2 ⟨rs, rfl, hR, b2⟩
  have H2 := Lib.hid (FS.below h b2)
  have HC2 := Lib.hid (hc.below b2)
  have HB2 := Lib.hid b2
  obtain ⟨A, cap, rfl, -, hp⟩ := FS.parts hR
  have HP := Lib.hid hp
  obtain ⟨n, hn⟩ : ∃ n, n = (sdL l x).length := ⟨_, rfl⟩
  have HN := Lib.hid hn
  rw [← hn] at h12 ⊢
  obtain ⟨zs, hzs⟩ : ∃ zs, zs = flatE (ME l x) := ⟨_, rfl⟩
  have HZL := Lib.hid (show zs.length = n * 5 by rw [hzs, flatE_len, ME_len, hn])
  have HZG := Lib.hid (fun (j t : Nat) (hj : j < n) (ht : t < 5) => show gd zs (j * 5 + t) = gd (l5 (ped (ME l x) j)) t by rw [hzs]; exact flatE_gd (by rw [ME_len, ← hn]; exact hj) ht)
  have HZS := Lib.hid hzs
  obtain ⟨i0, hi, hz0, hz1, hz2⟩ := info_parts infoEnd
  clear h hc hl hx hR hp b2 hn hzs
  go_wp2_with (refine wpList_make_full _ rfl _ _ 47 rfl w2.heap.size 50 i0 (.agg #[.int .i64 0, .int .i64 0, .int .i64 0, .int .i64 0, .int .i64 0]) 5 Tryz.underlying47 hi hz0 hz1 .i64 .i64 _ _ n rfl rfl rfl rfl (by rw [hz2]; omega) (by simp only [maxLen]; omega) (Nat.le_refl _) ?_; intro w5 hown hgrow)
  have hrow0 : w5.ownsRow w2.heap.size 50 5 (.slice (some ⟨w2.heap.size, 0, none⟩) n n) n (ints (part zs 0)) := by
    rw [show (madeCells (.agg #[.int .i64 0, .int .i64 0, .int .i64 0, .int .i64 0, .int .i64 0] : Value).cells (n * 5)).toList = ints (part zs 0) from by
      rw [show part zs 0 = List.replicate (n * 5) 0 by simp [part, HZL.out]]
      exact made_ints 5 _ (by omega)] at hown
    exact hown
  have hb0 : Below w2.heap.size w2 w5 := (Below.refl _ _).grown hgrow (Nat.le_refl _) (fun _ h => by cases h)
  clear hown hgrow
  go_wp2
  go_loopw [17] (fun i wr => ∃ j : Nat, j ≤ n ∧ i = .int .i64 j ∧ wr.ownsRow w2.heap.size 50 5 (.slice (some ⟨w2.heap.size, 0, none⟩) n n) n (ints (part zs (j * 5))) ∧ Below w2.heap.size w2 wr) (fun i _ => n - (intOf i).toNat)
  case atStart => exact ⟨0, by omega, rfl, by rw [Nat.zero_mul]; exact hrow0, hb0⟩
  case round =>
    obtain ⟨j, hj, rfl, hrow, hb⟩ := hrel
    clear hrow0 hb0
    by_cases hlt : j < n
    · have hjs : j < (sdL l x).length := by rw [← HN.out]; exact hlt
      obtain ⟨g, rfl, hc0⟩ := HP.out (j * 2) (by omega)
      obtain ⟨g', hg', hd0⟩ := HP.out (j * 2 + 1) (by omega)
      cases hg'
      obtain ⟨i, k, hik, hkl, hs, -, -⟩ := side_of HL.out HX.out (List.getElem_mem hjs)
      have hsa := sdL_at hjs
      rw [hs] at hsa
      simp only [List.cons.injEq, and_true] at hsa
      rw [← hsa.1] at hc0
      rw [← hsa.2] at hd0
      have HG := Lib.hid (show ∀ t, t < 5 → gd zs (j * 5 + t) = gd ([(i : Int), (k : Int)] ++ enT l x i k) t from fun t ht => by
        rw [HZG.out j t hlt ht, ME_at hjs, hs, enE_pair, l5_to (by rw [List.length_append, enT_len]; rfl)])
      have c0 := X3.below.box_old3 hc0 hb
      have d0 := X3.below.box_old3 hd0 hb
      have lg : g < wr.heap.size := cell_lt c0
      obtain ⟨W, hW⟩ : ∃ W, W = wr.alloc (.cells #[.int .i64 (i : Int), .int .i64 (k : Int)] 51) := ⟨_, rfl⟩
      have bW : Below wr.heap.size wr W := by rw [hW]; exact (Below.refl _ _).alloc (Nat.le_refl _) _
      have HCALL := Lib.hid (endOfSide_any W _ _ _ _ l x i k (FS.below (FS.below H2.out hb) bW) ((HC2.out.below hb).below bW) HL.out HX.out (by omega) hkl (by omega))
      have HROW := Lib.hid (sl_below hrow bW)
      have HBW := Lib.hid (bel2 hb bW)
      rw [hW] at HCALL HROW HBW
      clear hc0 hd0 hs hsa hrow hb bW hW hkl
      go_wp2_with fail
      refine HCALL.out.mono ?_
      rintro e w6 ⟨rfl, b6⟩
      have hrow6 := sl_below HROW.out b6
      have hb6 := bel2 HBW.out b6
      have hl5 := HZL.out
      have f0 := World.ownsRow.frozenAt hrow6 (j * 5)
      have f1 := World.ownsRow.frozenAt hrow6 (j * 5 + 1)
      have f2 := World.ownsRow.frozenAt hrow6 (j * 5 + 2)
      have f3 := World.ownsRow.frozenAt hrow6 (j * 5 + 3)
      have f4 := World.ownsRow.frozenAt hrow6 (j * 5 + 4)
      have hcell : ∀ q, q < n * 5 → w6.cell? ⟨w2.heap.size, q, none⟩ = some (.int .i64 (gd (part zs (j * 5)) q)) := fun q hq => by
        rw [World.ownsRow.cellAt hrow6 q hq, getD_ints _ q (by rw [part_len zs _ (by omega)]; omega)]
      have e0 := hcell (j * 5) (by omega)
      have e1 := hcell (j * 5 + 1) (by omega)
      have e2 := hcell (j * 5 + 2) (by omega)
      have e3 := hcell (j * 5 + 3) (by omega)
      have e4 := hcell (j * 5 + 4) (by omega)
      have s0 := World.ownsRow.stored hrow6 (j * 5) (.int .i64 (gd zs (j * 5)))
      have s1 := World.ownsRow.stored s0.1 (j * 5 + 1) (.int .i64 (gd zs (j * 5 + 1)))
      have s2 := World.ownsRow.stored s1.1 (j * 5 + 2) (.int .i64 (gd zs (j * 5 + 2)))
      have s3 := World.ownsRow.stored s2.1 (j * 5 + 3) (.int .i64 (gd zs (j * 5 + 3)))
      have s4 := World.ownsRow.stored s3.1 (j * 5 + 4) (.int .i64 (gd zs (j * 5 + 4)))
      have hrow7 := s4.1
      rw [show (((((ints (part zs (j * 5))).set (j * 5) (.int .i64 (gd zs (j * 5)))).set (j * 5 + 1) (.int .i64 (gd zs (j * 5 + 1)))).set (j * 5 + 2) (.int .i64 (gd zs (j * 5 + 2)))).set (j * 5 + 3) (.int .i64 (gd zs (j * 5 + 3)))).set (j * 5 + 4) (.int .i64 (gd zs (j * 5 + 4))) = ints (part zs ((j + 1) * 5)) from by rw [← part5 zs j (by omega)]; unfold ints; simp only [List.map_set]] at hrow7
      have hb7 := belS (belS (belS (belS (belS hb6 (Nat.le_refl _) (j * 5) (.int .i64 (gd zs (j * 5)))) (Nat.le_refl _) (j * 5 + 1) (.int .i64 (gd zs (j * 5 + 1)))) (Nat.le_refl _) (j * 5 + 2) (.int .i64 (gd zs (j * 5 + 2)))) (Nat.le_refl _) (j * 5 + 3) (.int .i64 (gd zs (j * 5 + 3)))) (Nat.le_refl _) (j * 5 + 4) (.int .i64 (gd zs (j * 5 + 4)))
      have g0 : gd zs (j * 5) = (i : Int) := HG.out 0 (by omega)
      have g1 : gd zs (j * 5 + 1) = (k : Int) := HG.out 1 (by omega)
      have g2 : gd zs (j * 5 + 2) = gd (enT l x i k) 0 := HG.out 2 (by omega)
      have g3 : gd zs (j * 5 + 3) = gd (enT l x i k) 1 := HG.out 3 (by omega)
      have g4 : gd zs (j * 5 + 4) = gd (enT l x i k) 2 := HG.out 4 (by omega)
      rw [g0, g1, g2, g3, g4] at hrow7 hb7
      have HH := Lib.hid (And.intro hrow7 hb7)
      clear s0 s1 s2 s3 s4 hrow7 hb7 hrow6 hcell hl5 hb6 b6 HROW HBW HCALL g0 g1 g2 g3 g4 HG c0 d0 lg hik
      go_wp2
      go_roundw
      case rel => exact ⟨j + 1, by omega, by go_num, HH.out.1, HH.out.2⟩
      case measure => simp [intOf]; omega
    · obtain rfl : j = n := by omega
      have hl5 := HZL.out
      rw [part_end zs _ (by omega), HZS.out] at hrow
      have hrs : EnS wr w2.heap.size (.slice (some ⟨w2.heap.size, 0, none⟩) j j) (ME l x) := by
        unfold EnS FS
        rw [ME_len, ← HN.out]
        exact hrow
      have HSF := Lib.hid (sortFuncE_any wr _ _ (ME l x) hrs (by rw [ME_len, ← HN.out]; omega))
      have HB := Lib.hid hb
      clear hrow hl5 hrs hb
      go_wp2_with fail
      refine HSF.out.mono ?_
      rintro e w7 ⟨rfl, hr7, hg7⟩
      have hb7 : Below w2.heap.size w2 w7 := HB.out.grown hg7 HB.out.size (fun q hq => by simp only [Value.ownBlock, Option.some.injEq] at hq; omega)
      go_wp2
      go_ret
      exact ⟨_, sortE (ME l x), rfl, FS.base hr7 HB2.out.size, ends_sorted HL.out HX.out, bel2 HB2.out hb7⟩
end Go.Proofs.YtcfplfjllnojoaaGreat

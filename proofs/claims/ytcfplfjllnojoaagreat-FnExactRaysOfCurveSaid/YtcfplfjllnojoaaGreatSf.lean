/-
  slices.SortFunc and slices.SortedFunc at slices of integers: what each call returns, by the library's proved contract.
  Condition: the slices read as the lists that are named.
-/
import Derived.Test.YtcfplfjllnojoaaGreatSortSl
import Derived.Test.YtcfplfjllnojoaaGreatCmp
import Derived.Test.YtcfplfjllnojoaaGreatCeX
namespace Go.Proofs.YtcfplfjllnojoaaGreat
set_option linter.unusedSimpArgs false
set_option linter.unusedVariables false
open Go.ChangeShapes Go.WideShapes Go.ChangeAt Go.RowKit
open Go.Sort (grow Holds putRow SWO PermIn SortedIn)

theorem lt_cmpLx (x y : List Int) : decide (cmpLx x y < 0) = lxL x y := by
  rw [Bool.eq_iff_iff, decide_eq_true_eq]; exact cmpLx_lt x y
/-- Slices with what they read as, in a world. -/
abbrev SV (w : World) (B : Nat) := { p : Value × List Int // IS w B p.1 p.2 }
instance (w : World) (B : Nat) : Inhabited (SV w B) := ⟨⟨(.slice none 0 0, []), IS.nil_ w B⟩⟩
def encS {w : World} {B : Nat} (x : SV w B) : Value := x.1.1
def cmpS {w : World} {B : Nat} (x y : SV w B) : Int := cmpLx x.1.2 y.1.2
theorem lt_cmpS {w : World} {B : Nat} (x y : SV w B) : ltOf cmpS x y = lxL x.1.2 y.1.2 := by unfold ltOf cmpS; exact lt_cmpLx _ _
theorem swo_cmpS (w : World) (B : Nat) : SWO (ltOf (cmpS (w := w) (B := B))) where
  irrefl x := by rw [lt_cmpS]; exact totLx.irr _
  trans x y z h1 h2 := by rw [lt_cmpS] at *; exact totLx.tr h1 h2
  ntrans x y z h1 h2 := by
    rw [lt_cmpS] at *
    cases h : lxL x.1.2 z.1.2
    · rfl
    · exfalso
      cases h3 : lxL y.1.2 x.1.2
      · have e := totLx.tot h1 h3
        rw [e, h2] at h; cases h
      · have := totLx.tr h3 h
        rw [h2] at this; cases this
theorem put_row1 {α : Type} [Inhabited α] (enc : α → Value) {w : World} {B : Nat} {g n cap : Nat} {xs : List Value} {T : TypeId} (h : w.ownsRow B T 1 (.slice (some ⟨g, 0, none⟩) n cap) n xs) (F : Array α) (hF : F.size = n) (m : Nat) (os : Array Obj) :
    (grow (putRow enc (Sort.ahead w m) g 0 F) os).ownsRow B T 1 (.slice (some ⟨g, 0, none⟩) n cap) n (F.toList.map enc) ∧ w.grownBy (grow (putRow enc (Sort.ahead w m) g 0 F) os) (some g) := by
  refine ⟨⟨by simpa using hF, ?_⟩, ?_⟩
  · rcases h.2 with ⟨h0, -⟩ | ⟨g', cap', cur, hv, hB, hh, hn, hc, hs, ht⟩
    · cases h0
    · obtain ⟨rfl, rfl⟩ : g = g' ∧ cap = cap' := by simpa using hv
      have hlt : g < w.heap.size := (Array.getElem?_eq_some_iff.1 hh).1
      refine .inr ⟨g, cap, Sort.putCells enc 0 F cur, rfl, hB, ?_, hn, hc, by simp [Sort.putCells, hs], ?_⟩
      · rw [Sort.heap_grow_old _ _ (by rw [Sort.size_putRow]; exact hlt)]
        unfold Sort.putRow Sort.mapBlock
        simp only [Sort.ahead]
        rw [Array.getElem?_modify, if_pos rfl, hh]
        rfl
      · refine List.ext_getElem? fun j => ?_
        by_cases hj : j < n * 1
        · rw [List.getElem?_take_of_lt hj, Array.getElem?_toList, List.getElem?_map, Array.getElem?_toList, Array.getElem?_eq_getElem (by omega : j < F.size)]
          simp only [Sort.putCells, Array.getElem?_mapIdx]
          rw [Array.getElem?_eq_getElem (by omega : j < cur.size)]
          simp only [Option.map_some, Nat.zero_le, Nat.zero_add, true_and, Nat.sub_zero]
          rw [if_pos (by omega), getElem!_pos _ _ (by omega)]
        · rw [List.getElem?_eq_none (by simp; omega), List.getElem?_eq_none (by simp; omega)]
  · refine ⟨rfl, rfl, rfl, ?_, fun k hk hne => ?_⟩
    · show w.heap.size ≤ (_ ++ os).size
      rw [Array.size_append]
      have : (putRow enc (Sort.ahead w m) g 0 F).heap.size = w.heap.size := Sort.size_putRow _ _ _ _ _
      omega
    · have hs : (putRow enc (Sort.ahead w m) g 0 F).heap.size = w.heap.size := Sort.size_putRow _ _ _ _ _
      rw [Sort.heap_grow_old _ _ (by rw [hs]; exact hk)]
      unfold Sort.putRow Sort.mapBlock
      simp only [Sort.ahead]
      rw [Array.getElem?_modify, if_neg (by rintro rfl; exact hne rfl)]
theorem ent_cmpSl : ∀ (args : Array Value) (w : World), (callFunc 26 args).run Tryz.prog w = .ok (.enter 26 args) w := enters_of Tryz.func26 (by kernel_rfl) rfl
theorem sortFuncSl_any (w : World) (B : Nat) (v : Value) (P : VL) (h : LS w B v P) (hz : P.length ≤ 1000000) : Calls Tryz.prog 25 #[v, .func (.func 26) #[] #[]] w fun e w' =>
    e = .returned (.tuple #[]) ∧ w.grownBy w' v.ownBlock ∧ ∃ P', LS w' B v P' ∧ P'.Perm P ∧ P'.Pairwise fun p q => lxL q.2 p.2 = false := by
  rcases h.1.2 with ⟨rfl, h0⟩ | ⟨g, cap, cur, rfl, hBg, hh, -⟩
  · have hl : P = [] := List.eq_nil_of_length_eq_zero h0
    subst hl
    have hcon := AnyF.slices_SortFunc_none { Tryz.sortSl with } none 0 (.func (.func 26) #[] #[]) w
    refine hcon.mono ?_
    rintro e w' ⟨rfl, rfl⟩
    exact ⟨rfl, World.grownBy.refl _ _, [], h, List.Perm.refl _, List.Pairwise.nil⟩
  · have hg : g < w.heap.size := (Array.getElem?_eq_some_iff.1 hh).1
    obtain ⟨L, hL⟩ : ∃ L : List (SV w B), L.map Subtype.val = P := ⟨P.attach.map fun p => ⟨p.1, h.2.1 p.1 p.2⟩, by rw [List.map_map]; exact List.attach_map_subtype_val P⟩
    have hLn : L.length = P.length := by rw [← hL]; simp
    have hvl : vls P = L.map encS := by rw [← hL]; unfold vls; rw [List.map_map]; rfl
    have hhold : Holds encS w g 0 L.toArray := by
      intro j hj
      have hj' : j < L.length := by simpa using hj
      refine ⟨?_, by rw [Nat.zero_add]; exact World.ownsRow.frozenAt h.1 j⟩
      rw [Nat.zero_add, World.ownsRow.cellAt h.1 j (by omega), hvl, List.getElem?_map, List.getElem?_eq_getElem hj', getElem!_pos _ j hj]
      rfl
    have hcmp : CmpLays1 Tryz.prog 26 #[] encS cmpS g 0 L.toArray.size w := fun m os dk hs x y => by
      have hk : ∀ z : SV w B, IS (sortWorld encS w g 0 m dk os) B z.1.1 z.1.2 := fun z => by
        refine z.2.keep fun k hk => ?_
        have hkl := (z.2.lt k hk).2
        have hne := z.2.other_row h.1 k hk
        unfold sortWorld
        rw [Sort.heap_grow_old _ _ (by rw [Sort.size_putRow]; exact hkl)]
        unfold Sort.putRow Sort.mapBlock
        simp only [Sort.ahead]
        rw [Array.getElem?_modify, if_neg (fun e => hne e.symm)]
      refine (compareSl_any _ B B _ _ _ _ (hk x) (hk y)).mono ?_
      rintro e w' ⟨rfl, rfl⟩
      exact ⟨rfl, 0, #[], by rw [Sort.grow_empty]; rfl⟩
    have hcon := Any.slices_SortFunc Tryz.sortSl encS (fun x => x.2.one) cmpS (swo_cmpS w B) 26 #[] g 0 cap L.toArray w ent_cmpSl hcmp hhold hg (by simp; omega)
    rw [List.size_toArray, hLn] at hcon
    refine hcon.mono ?_
    rintro e w' ⟨rfl, d, m, os, hp, hs, rfl⟩
    have hds : d.size = P.length := by rw [hp.1, List.size_toArray, hLn]
    have hperm : d.toList.Perm L := by
      have h3 := hp.2.2
      rw [← hds, Array.extract_size] at h3
      rw [show L.toArray.extract 0 d.size = L.toArray by rw [hds, ← hLn, ← List.size_toArray, Array.extract_size]] at h3
      simpa using h3
    obtain ⟨h1, h2⟩ := put_row1 encS h.1 d hds m os
    have hPp : (d.toList.map Subtype.val).Perm P := by rw [← hL]; exact hperm.map _
    refine ⟨rfl, h2, d.toList.map Subtype.val, ⟨?_, fun p hpm => ?_, ?_⟩, hPp, ?_⟩
    · rw [show (d.toList.map Subtype.val).length = P.length by simp [hds]]
      rw [show vls (d.toList.map Subtype.val) = d.toList.map encS by unfold vls; rw [List.map_map]; rfl]
      exact h1
    · obtain ⟨z, hz, rfl⟩ := List.mem_map.1 hpm
      exact z.2.in_grown h2 (z.2.other_row h.1)
    · refine (hPp.pairwise_iff (fun {p q} hpq g hg e => ?_)).2 h.2.2
      exact hpq g e hg
    · rw [List.pairwise_map, List.pairwise_iff_getElem]
      intro i j hi hj hij
      have hi' : i < d.size := by simpa using hi
      have hj' : j < d.size := by simpa using hj
      have := hs i j (Nat.zero_le _) hij (by omega)
      rw [getElem!_pos d i hi', getElem!_pos d j hj', lt_cmpS] at this
      simpa using this
set_option maxHeartbeats 1000000 in
/-- slices.SortedFunc(seq, slices.Compare[[]int]), against whatever iterator: what has come, in order. -/
theorem sortedFunc_any (g : Nat) (lb : Array Value) (eg : ∀ args w, (callFunc g args).run Tryz.prog w = .ok (.enter g args) w) (S Sp : List OV → Prop) (N : Nat) (hN : N ≤ 1000000) (w : World)
    (hseq : ∀ (F : Fence), (∀ g, F.fn g) → F.round = none → SeqStops F 3 Tryz.prog g lb (fun c : OV => c.1) S Sp N w)
    (B : Nat) (hB : B ≤ w.heap.size) (Qp : VL → Prop) (hS : ∀ xs, S xs → xs.length ≤ 1000000 ∧ ∃ P : VL, P.map (·.1) = xs.map Subtype.val ∧ LV w B P ∧ Qp P) :
    Calls Tryz.prog 66 #[.func (.func g) #[] lb, .func (.func 26) #[] #[]] w fun e w' =>
      ∃ v P P', e = .returned v ∧ Qp P ∧ LS w' B v P' ∧ P'.Perm P ∧ (P'.Pairwise fun p q => lxL q.2 p.2 = false) ∧ Below w.heap.size w w' := by
  have HC := Lib.hid (show Calls Tryz.prog 94 #[.func (.func g) #[] lb] w fun e W' => ∃ v xs, e = .returned v ∧ S xs ∧ W'.ownsRow w.heap.size 36 1 v xs.length (xs.map Subtype.val) ∧ (v = .slice none 0 0 ↔ xs = []) ∧ Below w.heap.size w W' from
    callsIn_of (n := 5) fun F hF hro => collect_in F 5 hF hro (by omega) g lb eg S Sp N hN w (hseq F hF hro))
  go_enter Tryz.func66, Tryz.ntmps66
  go_wp2_with fail
  refine HC.out.mono ?_
  rintro e w1 ⟨v, xs, rfl, hSx, hrow, -, b1⟩
  obtain ⟨hxl, P, hP, hLV, hQ⟩ := hS xs hSx
  have hPl : P.length = xs.length := by have := congrArg List.length hP; simpa using this
  have hLS : LS w1 B v P := ⟨by
    rw [hPl, show vls P = xs.map Subtype.val from hP]
    exact sl_base hrow hB, hLV.below b1⟩
  have hin : ∀ k, v.ownBlock = some k → w.heap.size ≤ k := fun k hk => (World.ownsRow.lt hrow k hk).1
  go_wp2_with fail
  refine (sortFuncSl_any w1 B v P hLS (by omega)).mono ?_
  rintro e w2 ⟨rfl, hg, P', hLS', hperm, hpw⟩
  go_wp2
  go_ret
  exact ⟨v, P, P', rfl, hQ, hLS', hperm, hpw, b1.grown hg b1.size hin⟩
end Go.Proofs.YtcfplfjllnojoaaGreat

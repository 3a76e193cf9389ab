/-
  slices.SortFunc and slices.Concat at rows of sides, and sides put in order: what the calls do, the sort by the library's proved contract.
  Condition: the slices read as the lists that are named; the points are directions within bounds.
-/
import Derived.Test.YthegkifhbgopoaaDuA
namespace Go.Proofs.Ythegkifhbgopoaa
set_option linter.unusedSimpArgs false
set_option linter.unusedVariables false
open Go.ChangeShapes Go.WideShapes Go.ChangeAt Go.RowKit
open Go.Sort (grow HoldsK Holds putRow putRowK flatK SWO PermIn SortedIn)

theorem flatP_appD (a b : List Pt) : flatP (a ++ b) = flatP a ++ flatP b := by simp [flatP]
def encD (t : Pt) : List Value := [.int .i64 t.1, .int .i64 t.2]
theorem encD_len (t : Pt) : (encD t).length = 2 := rfl
theorem encD_one (t : Pt) : ∀ v ∈ encD t, v.oneCell' = true := fun v hv => by
  simp [encD] at hv
  rcases hv with rfl | rfl <;> rfl
theorem flatP_atD (l : List Pt) (k i : Nat) (hk : k < l.length) (hi : i < 2) : (ints (flatP l))[k * 2 + i]? = (encD (pd l k))[i]? := by
  rw [getD_ints _ _ (by rw [flatP_len]; omega), show gd (flatP l) (k * 2 + i) = gd (encP l[k]) i from flat_gd encP_len l k i hk hi, ← pd_eq l k hk]
  have : i = 0 ∨ i = 1 := by omega
  rcases this with rfl | rfl <;> rfl
/-- The sort's flat row is ours. -/
theorem flatKD_intsP (l : List Pt) : (flatK encD 2 l.toArray).toList = ints (flatP l) := by
  refine List.ext_getElem? fun j => ?_
  by_cases hj : j < l.length * 2
  · have h1 := Sort.get_flatK encD 2 l.toArray j (by simpa using hj)
    have hq : j / 2 < l.length := by omega
    have h2 := flatP_atD l (j / 2) (j % 2) hq (by omega)
    rw [show j / 2 * 2 + j % 2 = j by omega] at h2
    rw [h2]
    have hs : j < (flatK encD 2 l.toArray).size := by simpa using hj
    rw [getElem!_pos _ j hs] at h1
    rw [Array.getElem?_toList, Array.getElem?_eq_getElem hs, h1]
    have h3 : (l.toArray)[j / 2]! = pd l (j / 2) := by
      rw [getElem!_pos _ _ (by simpa using hq), pd_eq l _ hq]; simp
    rw [h3]
    have hr : j % 2 < (encD (pd l (j / 2))).length := by rw [encD_len]; omega
    rw [List.getElem?_eq_getElem hr, getElem!_pos (encD (pd l (j / 2))) (j % 2) hr]
  · have e1 : (flatK encD 2 l.toArray).toList.length = l.length * 2 := by simp
    have e2 : (ints (flatP l)).length = l.length * 2 := by simp [ints, flatP_len]
    exact (List.getElem?_eq_none (by omega)).trans (List.getElem?_eq_none (by omega)).symm
theorem holdsD_ofP {w : World} {B : Nat} {g n cap : Nat} {l : List Pt} (hn : n = l.length) (h : w.ownsRow B 108 2 (.slice (some ⟨g, 0, none⟩) n cap) n (ints (flatP l))) : HoldsK encD 2 w g 0 l.toArray := by
  intro j hj
  have hj' : j < l.length * 2 := by simpa using hj
  refine ⟨?_, by rw [Nat.zero_add]; exact World.ownsRow.frozenAt h j⟩
  rw [Nat.zero_add, World.ownsRow.cellAt h j (by omega), ← flatKD_intsP, Array.getElem?_toList, Array.getElem?_eq_getElem hj]
  rw [getElem!_pos _ j hj]
  rfl
/-- A row of ours behind the sort. -/
theorem putD_row {w : World} {B : Nat} {g n cap : Nat} {xs : List Value} {T : TypeId} (h : w.ownsRow B T 2 (.slice (some ⟨g, 0, none⟩) n cap) n xs) (F : Array Value) (hF : F.size = n * 2) (m : Nat) (os : Array Obj) :
    (grow (putRow id (Sort.ahead w m) g 0 F) os).ownsRow B T 2 (.slice (some ⟨g, 0, none⟩) n cap) n F.toList ∧ w.grownBy (grow (putRow id (Sort.ahead w m) g 0 F) os) (some g) := by
  refine ⟨⟨by simpa using hF, ?_⟩, ?_⟩
  · rcases h.2 with ⟨h0, -⟩ | ⟨g', cap', cur, hv, hB, hh, hn, hc, hs, ht⟩
    · cases h0
    · obtain ⟨rfl, rfl⟩ : g = g' ∧ cap = cap' := by simpa using hv
      have hlt : g < w.heap.size := (Array.getElem?_eq_some_iff.1 hh).1
      refine .inr ⟨g, cap, Sort.putCells id 0 F cur, rfl, hB, ?_, hn, hc, by simp [Sort.putCells, hs], ?_⟩
      · rw [Sort.heap_grow_old _ _ (by rw [Sort.size_putRow]; exact hlt)]
        unfold Sort.putRow Sort.mapBlock
        simp only [Sort.ahead]
        rw [Array.getElem?_modify, if_pos rfl, hh]
        rfl
      · refine List.ext_getElem? fun j => ?_
        by_cases hj : j < n * 2
        · have hcs : n * 2 ≤ cap * 2 := Nat.mul_le_mul_right 2 hn
          rw [List.getElem?_take_of_lt hj, Array.getElem?_toList, Array.getElem?_toList, Array.getElem?_eq_getElem (by omega : j < F.size)]
          simp only [Sort.putCells, Array.getElem?_mapIdx]
          rw [Array.getElem?_eq_getElem (by omega : j < cur.size)]
          simp only [Option.map_some, Nat.zero_le, Nat.zero_add, true_and, Nat.sub_zero, id]
          rw [if_pos (by omega), getElem!_pos _ _ (by omega)]
        · rw [List.getElem?_eq_none (by simp; omega), List.getElem?_eq_none (by simp; omega)]
  · refine ⟨rfl, rfl, rfl, ?_, fun k hk hne => ?_⟩
    · show w.heap.size ≤ (_ ++ os).size
      rw [Array.size_append]
      have : (putRow id (Sort.ahead w m) g 0 F).heap.size = w.heap.size := Sort.size_putRow _ _ _ _ _
      omega
    · have hs : (putRow id (Sort.ahead w m) g 0 F).heap.size = w.heap.size := Sort.size_putRow _ _ _ _ _
      rw [Sort.heap_grow_old _ _ (by rw [hs]; exact hk)]
      unfold Sort.putRow Sort.mapBlock
      simp only [Sort.ahead]
      rw [Array.getElem?_modify, if_neg (by rintro rfl; exact hne rfl)]
/-- The directions of a list. -/
def dirs (l : List Pt) (h : ∀ a ∈ l, Nz a ∧ Sm 400 a) : List Dir9 := l.attach.map fun x => ⟨x.1, h x.1 x.2⟩
theorem dirs_val (l : List Pt) (h : ∀ a ∈ l, Nz a ∧ Sm 400 a) : (dirs l h).map Subtype.val = l := by
  unfold dirs
  rw [List.map_map]
  exact List.attach_map_subtype_val l
theorem flatD_at (l : List Dir9) (k i : Nat) (hk : k < l.length) (hi : i < 2) : (ints (flatP (l.map Subtype.val)))[k * 2 + i]? = (encD9 l[k])[i]? := by
  rw [flatP_atD _ k i (by simpa using hk) hi, pd_eq _ _ (by simpa using hk)]
  simp only [List.getElem_map]
  rfl
theorem flatKD_ints (l : List Dir9) : (flatK encD9 2 l.toArray).toList = ints (flatP (l.map Subtype.val)) := by
  refine List.ext_getElem? fun j => ?_
  by_cases hj : j < l.length * 2
  · have h1 := Sort.get_flatK encD9 2 l.toArray j (by simpa using hj)
    have hq : j / 2 < l.length := by omega
    have h2 := flatD_at l (j / 2) (j % 2) hq (by omega)
    rw [show j / 2 * 2 + j % 2 = j by omega] at h2
    rw [h2]
    have hs : j < (flatK encD9 2 l.toArray).size := by simpa using hj
    rw [getElem!_pos _ j hs] at h1
    rw [Array.getElem?_toList, Array.getElem?_eq_getElem hs, h1]
    have h3 : (l.toArray)[j / 2]! = l[j / 2] := by
      rw [getElem!_pos _ _ (by simpa using hq)]; simp
    rw [h3]
    have hr : j % 2 < (encD9 l[j / 2]).length := by rw [encD9_len]; omega
    rw [List.getElem?_eq_getElem hr, getElem!_pos (encD9 l[j / 2]) (j % 2) hr]
  · have e1 : (flatK encD9 2 l.toArray).toList.length = l.length * 2 := by simp
    have e2 : (ints (flatP (l.map Subtype.val))).length = l.length * 2 := by simp [ints, flatP_len]
    exact (List.getElem?_eq_none (by omega)).trans (List.getElem?_eq_none (by omega)).symm
theorem holdsD_of {w : World} {B : Nat} {g n cap : Nat} {l : List Dir9} (hn : n = l.length) (h : w.ownsRow B 108 2 (.slice (some ⟨g, 0, none⟩) n cap) n (ints (flatP (l.map Subtype.val)))) : HoldsK encD9 2 w g 0 l.toArray := by
  intro j hj
  have hj' : j < l.length * 2 := by simpa using hj
  refine ⟨?_, by rw [Nat.zero_add]; exact World.ownsRow.frozenAt h j⟩
  rw [Nat.zero_add, World.ownsRow.cellAt h j (by omega), ← flatKD_ints, Array.getElem?_toList, Array.getElem?_eq_getElem hj]
  rw [getElem!_pos _ j hj]
  rfl
theorem cmpD9_lays (blk off size : Nat) (w : World) : CmpLays Try.prog 88 #[] encD9 2 cmpD9 blk off size w := fun _ _ _ _ x y => compareSides_any x.1 y.1 _ x.2.2 y.2.2
theorem entD9_cmp : ∀ (args : Array Value) (w : World), (callFunc 88 args).run Try.prog w = .ok (.enter 88 args) w := enters_of Try.func88 (by kernel_rfl) rfl
theorem sortFuncD_any (w : World) (B : Nat) (v : Value) (l : List Pt) (h : PtS w B v l) (hz : l.length ≤ 1000000) (hok : ∀ a ∈ l, Nz a ∧ Sm 400 a) : Calls Try.prog 117 #[v, .func (.func 88) #[] #[]] w fun e w' => e = .returned (.tuple #[]) ∧ ∃ d, PtS w' B v d ∧ d.Perm l ∧ Hid (d.Pairwise fun a b => hfB fwB b a = false) ∧ w.grownBy w' v.ownBlock := by
  have hlen := h.len
  have hval := dirs_val l hok
  have hll : (dirs l hok).length = l.length := by have := congrArg List.length hval; simpa using this
  rcases h.2 with ⟨rfl, h0⟩ | ⟨g, cap, cur, rfl, hBg, hh, -⟩
  · have hl : l = [] := List.eq_nil_of_length_eq_zero h0
    subst hl
    have hcon := AnyF.slices_SortFunc_none { Try.sortPoint with } none 0 (.func (.func 88) #[] #[]) w
    refine hcon.mono ?_
    rintro e w' ⟨rfl, rfl⟩
    exact ⟨rfl, [], h, List.Perm.refl _, Lib.hid List.Pairwise.nil, World.grownBy.refl _ _⟩
  · have hg : g < w.heap.size := (Array.getElem?_eq_some_iff.1 hh).1
    have hcon := AnyQ.slices_SortFunc Try.sortPoint 2 Try.isAgg108 Try.sizeOf108 encD9 encD9_len encD9_one cmpD9 swo_D9 88 #[] g 0 cap (dirs l hok).toArray w entD9_cmp (cmpD9_lays g 0 _ w) (holdsD_of hll.symm (by rw [hval]; exact h)) hg (by simp [hll]; omega)
    have hsz : (dirs l hok).toArray.size = l.length := by simp [hll]
    refine Calls.mono (by rw [hsz] at hcon; exact hcon) ?_
    rintro e w' ⟨rfl, d, m, os, hp, hs, rfl⟩
    obtain ⟨p1, p2⟩ := sorted_lists (l := dirs l hok) (by rw [hsz]; exact hp) (by rw [hsz]; exact hs)
    have hdl : d.toList.length = l.length := p1.length_eq.trans hll
    have hF : (flatK encD9 2 d.toList.toArray).size = l.length * 2 := by rw [Sort.size_flatK, List.size_toArray, hdl]
    obtain ⟨h1, h2⟩ := putD_row h (flatK encD9 2 d.toList.toArray) hF m os
    rw [show d.toList.toArray = d by simp] at h1 h2
    refine ⟨rfl, d.toList.map Subtype.val, ?_, ?_, Lib.hid ?_, h2⟩
    · unfold PtS FS
      rw [List.length_map, hdl, ← flatKD_ints, show d.toList.toArray = d by simp]
      exact h1
    · have := p1.map Subtype.val
      rwa [hval] at this
    · rw [List.pairwise_map]
      refine p2.imp ?_
      intro a b hab
      unfold ltOf cmpD9 at hab
      rw [decide_eq_false_iff_not, cmpDu_lt] at hab
      simpa using hab
set_option maxHeartbeats 1000000 in
set_option maxRecDepth 100000 in
theorem growD_nil (w : World) (n : Nat) (hn : n ≤ 1000000) : Calls Try.prog 142 #[.slice none 0 0, .int .i64 (n : Int)] w fun e w' => ∃ r, e = .returned r ∧ FS 108 2 w' w.heap.size r 0 [] ∧ Below w.heap.size w w' := by
  obtain ⟨i0, hi, hz0, hz1, hz2⟩ := info_parts infoPoint
  by_cases h0 : 0 < n
  · have hrun := fun ty => Lib.run_append_nil_zeros (P := Try.prog) w 66 3 ty 108 i0 (.agg #[.int .i64 0, .int .i64 0]) .i64 .i64 Try.underlying66 Try.underlying3 hi hz0 n h0 (by omega) (by omega) (by rw [hz2]; omega)
    have HC := Lib.hid (And.intro (grownCap_ge w n 0 108) (grownCap_le_maxLen w n 0 108 (by unfold maxLen; omega)))
    obtain ⟨c, hc⟩ : ∃ c, c = grownCap w n 0 108 := ⟨_, rfl⟩
    rw [← hc] at hrun HC
    obtain ⟨cs, hcs⟩ : ∃ cs, cs = Builtin.zeroCells (.agg #[.int .i64 0, .int .i64 0] : Value).cells n ++ Builtin.zeroCells (.agg #[.int .i64 0, .int .i64 0] : Value).cells (c - n) := ⟨_, rfl⟩
    rw [← hcs] at hrun
    have HZ := Lib.hid (show cs.size = c * 2 by
      rw [hcs, Array.size_append, size_zeroCells, size_zeroCells]
      show n * 2 + (c - n) * 2 = c * 2
      have := HC.out.1
      omega)
    have HR := Lib.hid hrun
    have hcl := HC.out.1
    clear hc hcs hrun
    go_enter Try.func142, Try.ntmps142
    go_wp2_with (at_builtin; refine Lib.wpList_append_run _ rfl _ _ _ _ rfl _ _ rfl rfl _ _ (HR.out _) ?_)
    go_wp2
    go_ret
    refine ⟨_, rfl, ⟨rfl, .inr ⟨w.heap.size, c, cs, rfl, Nat.le_refl _, heap_alloc_new w.drew _, by omega, HC.out.2, HZ.out, by simp⟩⟩, ((Below.refl _ _).drew).alloc (by simp) _⟩
  · obtain rfl : n = 0 := by omega
    go_enter Try.func142, Try.ntmps142
    go_wp2
    go_ret
    exact ⟨_, rfl, FS.nil_ _ _ _ _, Below.refl _ _⟩
theorem growD_nil_at (w : World) (z : Int) (h0 : 0 ≤ z) (hn : z ≤ 1000000) : Calls Try.prog 142 #[.slice none 0 0, .int .i64 z] w fun e w' => ∃ r, e = .returned r ∧ FS 108 2 w' w.heap.size r 0 [] ∧ Below w.heap.size w w' := by
  obtain ⟨n, rfl⟩ : ∃ n : Nat, z = n := ⟨z.toNat, by omega⟩
  exact growD_nil w n (by omega)
set_option maxHeartbeats 2000000 in
set_option maxRecDepth 100000 in
theorem concatD_any (w : World) (s : Nat) (B B' : Nat) (va vb : Value) (a b : List Pt) (h : PtS w B va a) (h' : PtS w B' vb b) (ha1 : a.length ≤ 1000) (hb1 : b.length ≤ 1000) (s0 : w.cell? ⟨s, 0, none⟩ = some va) (s1 : w.cell? ⟨s, 1, none⟩ = some vb) :
    Calls Try.prog 116 #[.slice (some ⟨s, 0, none⟩) 2 2] w fun e w' => GivesPt (a ++ b) w e w' := by
  have H := Lib.hid h
  have H' := Lib.hid h'
  obtain ⟨A, cap, rfl, -, -⟩ := PtS.parts h
  obtain ⟨A', cap', rfl, -, -⟩ := PtS.parts h'
  obtain ⟨n, hna⟩ : ∃ n, n = a.length := ⟨_, rfl⟩
  obtain ⟨m, hmb⟩ : ∃ m, m = b.length := ⟨_, rfl⟩
  have HA := Lib.hid hna
  have HB := Lib.hid hmb
  have HF := Lib.hid (show FS 108 2 w B (.slice A n cap) n (flatP a) by rw [hna]; exact h)
  have HF' := Lib.hid (show FS 108 2 w B' (.slice A' m cap') m (flatP b) by rw [hmb]; exact h')
  rw [← hna] at ha1 s0
  rw [← hmb] at hb1 s1
  have q1 : IntKind.i64.wrap ((n : Int) + m) = ((n + m : Nat) : Int) := by rw [IntWalk.i64_in _ (by omega)]; omega
  obtain ⟨i0, hi, hz0, hz1, hz2⟩ := info_parts infoPoint
  have hsl := cell_lt s0
  clear h h' hna hmb H H'
  go_enter Try.func116, Try.ntmps116
  go_wp2
  refine wp_loop_rounds 3 ?_
  rw [rounds_succ]
  go_wp2_with fail
  rw [rounds_succ]
  go_wp2_with fail
  rw [rounds_succ]
  go_wp2_with fail
  refine (growD_nil_at _ _ (by omega) (by omega)).mono ?_
  rintro e w1 ⟨r, rfl, hr, b1⟩
  have k0 := box_o s0 b1
  have k1 := box_o s1 b1
  have hs1 := b1.size
  clear s0 s1 q1
  go_wp2_with fail
  refine wp_loop_rounds 3 ?_
  rw [rounds_succ]
  go_wp2_with (at_builtin; refine app_fs _ rfl _ _ 66 rfl w.heap.size 108 i0 (.agg #[.int .i64 0, .int .i64 0]) 2 16 Try.underlying66 hi hz0 hz1 hz2 rfl (by decide) _ 0 _ rfl hr B n _ (flatP a) rfl (HF.out.below b1) (by unfold maxLen; omega) (by omega) (by omega) ?_; intro v2 w2 hown2 hgrow2)
  have b2 : Below w.heap.size w w2 := b1.grown hgrow2 hs1 (fun k hk => (World.ownsRow.lt hr k hk).1)
  have hs2 := b2.size
  have j0 := hgrow2.cell k0 (fun e => by have := (World.ownsRow.lt hr s e.symm).1; omega)
  have j1 := hgrow2.cell k1 (fun e => by have := (World.ownsRow.lt hr s e.symm).1; omega)
  clear k0 k1
  go_wp2_with fail
  rw [rounds_succ]
  go_wp2_with (at_builtin; refine app_fs _ rfl _ _ 66 rfl w.heap.size 108 i0 (.agg #[.int .i64 0, .int .i64 0]) 2 16 Try.underlying66 hi hz0 hz1 hz2 rfl (by decide) _ (0 + n) _ rfl hown2 B' m _ (flatP b) rfl (HF'.out.below b2) (by unfold maxLen; omega) (by omega) (by omega) ?_; intro v3 w3 hown3 hgrow3)
  have b3 : Below w.heap.size w w3 := b2.grown hgrow3 hs2 (fun k hk => (World.ownsRow.lt hown2 k hk).1)
  go_wp2_with fail
  rw [rounds_succ]
  go_wp2
  go_ret
  refine ⟨_, rfl, ?_, b3⟩
  unfold PtS FS
  rw [flatP_appD, List.length_append, ← HA.out, ← HB.out]
  unfold ints at hown3 ⊢
  rw [List.map_append]
  simpa using hown3
set_option maxHeartbeats 1000000 in
set_option maxRecDepth 100000 in
theorem putInOrderD_any (w : World) (B : Nat) (va : Value) (a : List Pt) (h : PtS w B va a) (ha1 : a.length ≤ 1000) (hok : ∀ x ∈ a, Nz x ∧ Sm 400 x) :
    Calls Try.prog 87 #[.func (.func 88) #[] #[], va, .slice none 0 0] w fun e w' => ∃ r d, e = .returned r ∧ PtS w' w.heap.size r d ∧ Hid (d.Perm a ∧ d.Pairwise fun a b => hfB fwB b a = false) ∧ Below w.heap.size w w' := by
  obtain ⟨A, cap, rfl, -, -⟩ := PtS.parts h
  have HA := Lib.hid (h.alloc (.cells #[.slice A a.length cap, .slice none 0 0] 66))
  have HC := Lib.hid (concatD_any (w.alloc (.cells #[.slice A a.length cap, .slice none 0 0] 66)) w.heap.size B B _ _ a [] HA.out (FS.nil_ _ _ _ _) ha1 (by simp) (by simp [go_sem]) (by simp [go_sem]))
  have hb0 : Below w.heap.size w (w.alloc (.cells #[.slice A a.length cap, .slice none 0 0] 66)) := (Below.refl _ _).alloc (Nat.le_refl _) _
  have HB0 := Lib.hid hb0
  have HL := Lib.hid (show a.length ≤ 1000000 by omega)
  have HOK := Lib.hid hok
  rw [List.append_nil] at HC
  clear h hb0 hok
  go_enter Try.func87, Try.ntmps87
  go_wp2_with fail
  refine HC.out.mono ?_
  rintro e w1 ⟨r, rfl, hr, b1⟩
  have HR := Lib.hid (FS.base hr (by rw [World.size_alloc]; exact Nat.le_succ _) : PtS w1 w.heap.size r a)
  have B1 := bel2 HB0.out b1
  clear hr b1
  go_wp2_with fail
  refine (sortFuncD_any _ w.heap.size _ _ HR.out HL.out HOK.out).mono ?_
  rintro e w2 ⟨rfl, d, hd, hp, hw, hg⟩
  have B2 : Below w.heap.size w w2 := B1.grown hg B1.size (fun k hk => (HR.out.lt k hk).1)
  go_wp2
  go_ret
  exact ⟨_, d, rfl, hd, Lib.hid ⟨hp, hw.out⟩, B2⟩
end Go.Proofs.Ythegkifhbgopoaa

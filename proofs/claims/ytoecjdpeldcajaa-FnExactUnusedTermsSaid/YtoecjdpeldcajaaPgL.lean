/-
  Hulls, polygons and edges in the program: what the calls return.
  Conditions: the slice reads as the list that is named; coordinates of edges are small.
-/
import Derived.Test.YtoecjdpeldcajaaPgK
namespace Go.Proofs.Ytoecjdpeldcajaa
set_option linter.unusedSimpArgs false
set_option linter.unusedVariables false
open Go.ChangeShapes Go.WideShapes Go.ChangeAt Go.RowKit
open Go.Sort (grow)

theorem ptsB_few {l : List Pt} (h : ¬ 1 ≤ l.length) : ptsB l = false := by unfold ptsB; rw [decide_eq_false h]; rfl
theorem ptsB_many {l : List Pt} (h : ¬ l.length ≤ 40) : ptsB l = false := by unfold ptsB; rw [decide_eq_false h]; simp
/-- The edge at a corner; all edges. -/
def nxP (l : List Pt) (k : Nat) : Pt := pd l ((k + 1) % l.length)
def edP (l : List Pt) (k : Nat) : Pt := dfP (pd l k) (nxP l k)
def edT (l : List Pt) (k : Nat) : List Pt := (List.range k).map (edP l)
def edL (l : List Pt) : List Pt := if l.length = 1 then [] else edT l l.length
theorem edT_len (l : List Pt) (k : Nat) : (edT l k).length = k := by simp [edT]
theorem edT_next (l : List Pt) (k : Nat) : edT l (k + 1) = edT l k ++ [edP l k] := by simp [edT, List.range_succ]
theorem edT_pd (l : List Pt) {k n : Nat} (h : k < n) : pd (edT l n) k = edP l k := by
  rw [pd_eq _ _ (by rw [edT_len]; exact h)]; simp [edT]
theorem nx_lt {l : List Pt} (h : 0 < l.length) (k : Nat) : (k + 1) % l.length < l.length := Nat.mod_lt _ h
theorem nx_sm {m : Nat} {l : List Pt} (h : ∀ q ∈ l, Sm m q) (h0 : 0 < l.length) (k : Nat) : Sm m (nxP l k) := h _ (pd_mem (nx_lt h0 k))
theorem edL_sm {m : Nat} {l : List Pt} (h : ∀ q ∈ l, Sm m q) : ∀ q ∈ edL l, Sm (2 * m) q := fun q hq => by
  unfold edL at hq
  split at hq
  · simp at hq
  · unfold edT at hq
    obtain ⟨k, hk, rfl⟩ := List.mem_map.1 hq
    have hk := List.mem_range.1 hk
    exact (h _ (pd_mem hk)).df (nx_sm h (by omega) k)
theorem rem_nat (k n : Nat) : ((k : Int) + 1).tmod (n : Int) = (((k + 1) % n : Nat) : Int) := by
  rw [show ((k : Int) + 1) = ((k + 1 : Nat) : Int) by omega]; rfl
theorem partP_pt (zs : List Int) (j : Nat) (hj : j * 2 + 1 < zs.length) : ((part zs (j * 2)).set (j * 2) (gd zs (j * 2))).set (j * 2 + 1) (gd zs (j * 2 + 1)) = part zs ((j + 1) * 2) := by
  rw [part_set zs (j * 2) (by omega), part_set zs (j * 2 + 1) hj]
  congr 1
  omega
/-- A corner's block, the next corner in its row, and nothing that lay there when x was has changed. -/
abbrev SE (x : World) (gc gr o : Nat) (p q : Pt) (w : World) : Prop := w.cell? ⟨gc, 0, none⟩ = some (.int .i64 p.1) ∧ w.cell? ⟨gc, 1, none⟩ = some (.int .i64 p.2) ∧ w.cell? ⟨gr, o, none⟩ = some (.int .i64 q.1) ∧ w.cell? ⟨gr, o + 1, none⟩ = some (.int .i64 q.2) ∧ Below x.heap.size x w
theorem SE.of {x w : World} {gc gr o : Nat} {p q : Pt} (h : P2 w gc p) (h' : X2 w gr o q) (hb : Below x.heap.size x w) : SE x gc gr o p q w := ⟨h.1, h.2, h'.1, h'.2, hb⟩
theorem SE.drew {x w : World} {gc gr o : Nat} {p q : Pt} (h : SE x gc gr o p q w) : SE x gc gr o p q w.drew := ⟨h.1, h.2.1, h.2.2.1, h.2.2.2.1, h.2.2.2.2.drew⟩
theorem SE.gr {x w w' : World} {gc gr o : Nat} {p q : Pt} (h : SE x gc gr o p q w) (g : Gr w w') : SE x gc gr o p q w' := by
  have h1 := P2.below ⟨h.1, h.2.1⟩ g.below
  have h2 := X2.below ⟨h.2.2.1, h.2.2.2.1⟩ g.below
  exact ⟨h1.1, h1.2, h2.1, h2.2, bel2 h.2.2.2.2 g.below⟩
theorem SE.set {x w : World} {gc gr o : Nat} {p q : Pt} (h : SE x gc gr o p q w) (ge j : Nat) (v : Value) (h1 : gc ≠ ge) (h2 : gr ≠ ge) (h3 : x.heap.size ≤ ge) : SE x gc gr o p q (w.setCell ⟨ge, j, none⟩ v) :=
  ⟨(World.cell?_setCell_other _ _ _ _ (by simp <;> omega)).trans h.1, (World.cell?_setCell_other _ _ _ _ (by simp <;> omega)).trans h.2.1, (World.cell?_setCell_other _ _ _ _ (by simp <;> omega)).trans h.2.2.1, (World.cell?_setCell_other _ _ _ _ (by simp <;> omega)).trans h.2.2.2.1, h.2.2.2.2.setCell h3 _⟩
theorem row_cells {T : TypeId} {x w : World} {B g n : Nat} {zs : List Int} (h : x.ownsRow B T 2 (.slice (some ⟨g, 0, none⟩) n n) n (ints zs)) (hb : Below x.heap.size x w) (o : Nat) (ho : o + 1 < n * 2) (hl : n * 2 = zs.length) :
    w.cell? ⟨g, o, none⟩ = some (.int .i64 (gd zs o)) ∧ w.cell? ⟨g, o + 1, none⟩ = some (.int .i64 (gd zs (o + 1))) ∧ w.frozen? ⟨g, o, none⟩ = false ∧ w.frozen? ⟨g, o + 1, none⟩ = false := by
  have hr : w.ownsRow B T 2 (.slice (some ⟨g, 0, none⟩) n n) n (ints zs) := FS.below (zs := zs) h hb
  refine ⟨?_, ?_, World.ownsRow.frozenAt hr _, World.ownsRow.frozenAt hr _⟩
  · rw [World.ownsRow.cellAt hr o (by omega), getD_ints zs o (by omega)]
  · rw [World.ownsRow.cellAt hr (o + 1) (by omega), getD_ints zs (o + 1) (by omega)]
set_option maxHeartbeats 2000000 in
set_option maxRecDepth 100000 in
theorem edgesOf_any (w : World) (B : Nat) (v : Value) (l : List Pt) (h : PtS w B v l) (h0 : 0 < l.length) (hz : l.length ≤ 100000) (hsm : ∀ q ∈ l, Sm 1000 q) : Calls Try.prog 92 #[v] w fun e w' => GivesPt (edL l) w e w' := by
  have HSM := Lib.hid hsm
  have H0 := Lib.hid h
  obtain ⟨A, cap, rfl, hm, hp⟩ := PtS.parts h
  have HP := Lib.hid hp
  obtain ⟨n, hn⟩ : ∃ n, n = l.length := ⟨_, rfl⟩
  have HN := Lib.hid hn
  rw [← hn] at h0 hz ⊢
  clear hp h hn hm hsm
  by_cases h1 : n = 1
  · have HE := Lib.hid (show edL l = [] by unfold edL; rw [if_pos (by rw [← HN.out]; exact h1)])
    subst h1
    go_enter Try.func92, Try.ntmps92
    go_wp2
    go_ret
    exact ⟨_, rfl, by rw [HE.out]; exact FS.nil_ _ _ _ _, Below.refl _ _⟩
  · have HE := Lib.hid (show edL l = edT l n by unfold edL; rw [if_neg (by rw [← HN.out]; exact h1), HN.out])
    have h1' : ¬ (n : Int) = 1 := by omega
    have HQ := Lib.hid (fun p q W (hp : Sm 1000 p) (hq : Sm 1000 q) => stepTo_any p q W hp hq)
    obtain ⟨zs, hzs⟩ : ∃ zs, zs = flatP (edT l n) := ⟨_, rfl⟩
    have HZ := Lib.hid hzs
    have HZL := Lib.hid (show zs.length = n * 2 by rw [hzs, flatP_len, edT_len])
    obtain ⟨i0, hi, hz0, hz1, hz2⟩ := info_parts infoPoint
    clear hzs
    go_enter Try.func92, Try.ntmps92
    go_wp2_with (refine wpList_make_full _ rfl _ _ 24 rfl w.heap.size 57 i0 (.agg #[.int .i64 0, .int .i64 0]) 2 Try.underlying24 hi hz0 hz1 .i64 .i64 _ _ n rfl rfl rfl rfl (by rw [hz2]; omega) (by simp only [maxLen]; omega) (Nat.le_refl _) ?_; intro w2 hown hgrow)
    have hrow0 : w2.ownsRow w.heap.size 57 2 (.slice (some ⟨w.heap.size, 0, none⟩) n n) n (ints (part zs 0)) := by
      rw [show (madeCells (.agg #[.int .i64 0, .int .i64 0] : Value).cells (n * 2)).toList = ints (part zs 0) from by
        rw [show part zs 0 = List.replicate (n * 2) 0 by simp [part, HZL.out]]
        exact made_ints 2 _ (by omega)] at hown
      exact hown
    have hb0 : Below w.heap.size w w2 := (Below.refl _ w).grown hgrow (Nat.le_refl _) (fun _ h => by cases h)
    clear hown hgrow
    go_loopw [14] (fun i wr => ∃ j : Nat, j ≤ n ∧ i = .int .i64 j ∧ wr.ownsRow w.heap.size 57 2 (.slice (some ⟨w.heap.size, 0, none⟩) n n) n (ints (part zs (j * 2))) ∧ Below w.heap.size w wr) (fun i _ => n - (intOf i).toNat)
    case atStart => exact ⟨0, by omega, rfl, by rw [Nat.zero_mul]; exact hrow0, hb0⟩
    case round =>
      obtain ⟨j, hj, rfl, hrow, hb⟩ := hrel
      clear hrow0 hb0
      by_cases hlt : j < n
      · have hjl : j < l.length := by rw [← HN.out]; exact hlt
        obtain ⟨m, hm⟩ : ∃ m, m = (j + 1) % n := ⟨_, rfl⟩
        have HMM := Lib.hid (show ((j : Int) + 1).tmod (n : Int) = (m : Int) by rw [rem_nat, hm])
        have hmn : m < n := by rw [hm]; exact Nat.mod_lt _ h0
        obtain ⟨p, hpe⟩ : ∃ p, p = pd l j := ⟨_, rfl⟩
        obtain ⟨q, hqe⟩ : ∃ q, q = pd l m := ⟨_, rfl⟩
        have HED := Lib.hid (show edP l j = dfP p q by unfold edP nxP; rw [← HN.out, ← hm, hpe, hqe])
        have hp1 : Sm 1000 p := by rw [hpe]; exact HSM.out _ (pd_mem hjl)
        have hq1 : Sm 1000 q := by rw [hqe]; exact HSM.out _ (pd_mem (by rw [← HN.out]; exact hmn))
        obtain ⟨g, rfl, hc0⟩ := HP.out j hjl
        obtain ⟨g', hg', hd0⟩ := HP.out m (by rw [← HN.out]; exact hmn)
        cases hg'
        rw [← hpe] at hc0
        rw [← hqe] at hd0
        have hc1 := X2.below hc0 hb
        have hd1 := X2.below hd0 hb
        have hx0 := P2.new wr p 57
        have hd2 := X2.below hd1 ((Below.refl _ wr).alloc (Nat.le_refl _) (.cells #[.int .i64 p.1, .int .i64 p.2] 57))
        have hrowA := World.ownsRow.alloc hrow (.cells #[.int .i64 p.1, .int .i64 p.2] 57)
        have hbA := hb.alloc hb.size (.cells #[.int .i64 p.1, .int .i64 p.2] 57)
        have hwl := (World.ownsRow.lt hrow w.heap.size rfl).2
        obtain ⟨c0, c1⟩ := hc1
        clear hc0 hd0 hd1 hpe hqe hm hrow hb
        go_wp2
        generalize hX : wr.alloc (.cells #[.int .i64 p.1, .int .i64 p.2] 57) = X at hx0 hd2 hrowA hbA ⊢
        have hS : SE w wr.heap.size g (m * 2) p q X := SE.of hx0 hd2 hbA
        have HRA := Lib.hid hrowA
        have HCell := Lib.hid (fun (W : World) (hW : Gr X.drew W) => row_cells (zs := part zs (j * 2)) HRA.out ((gr0 X).drew.trans hW).below (j * 2) (by omega) (by rw [part_len zs _ (by rw [HZL.out]; omega)]; exact HZL.out.symm))
        have hgl : g ≠ w.heap.size := by have := World.ownsRow.lt H0.out g rfl; omega
        have hcl : wr.heap.size ≠ w.heap.size := by omega
        have q1 : IntKind.i64.wrap ((j : Int) + 1) = (j : Int) + 1 := IntWalk.i64_in _ (by omega)
        have q2 : ((j : Int) + 1).tmod (n : Int) = (m : Int) := HMM.out
        have q6 : ¬ n = 0 := by omega
        have q3 : ((n : Int) == 0) = false := by simp; omega
        have q4 : ¬ (n : Int) = 0 := by omega
        have q5 : IntKind.i64.wrap (m : Int) = (m : Int) := IntWalk.i64_in _ (by omega)
        have z1 : (0 : Int) ≤ (m : Int) := by omega
        go_region_held3 (fun w' => SE w wr.heap.size g (m * 2) p q w') (repeat' (first | with_reducible assumption | with_reducible refine SE.drew ?_ | with_reducible refine SE.set ?_ _ _ _ hcl hgl (Nat.le_refl _))) (first | (go_at_call 114; refine (HQ.out _ _ _ hp1 hq1).mono ?_; rintro e w' ⟨rfl, gg⟩; have hS2 := SE.gr (x := w) (gc := wr.heap.size) (gr := g) (o := m * 2) (p := p) (q := q) (by assumption) gg; obtain ⟨d0, d1, f0, f1⟩ := HCell.out _ gg))
        go_wp2
        go_roundw
        case rel =>
          have hr : w'.ownsRow w.heap.size 57 2 (.slice (some ⟨w.heap.size, 0, none⟩) n n) n (ints (part zs (j * 2))) := FS.below (zs := part zs (j * 2)) HRA.out ((gr0 X).drew.trans gg).below
          have s0 := World.ownsRow.stored hr (j * 2) (.int .i64 (dfP p q).1)
          have s1 := World.ownsRow.stored s0.1 (j * 2 + 1) (.int .i64 (dfP p q).2)
          have hrow3 := s1.1
          obtain ⟨e0, e1⟩ := flatP_gd (ps := edT l n) (j := j) (by rw [edT_len]; exact hlt)
          rw [edT_pd l hlt, HED.out, ← HZ.out] at e0 e1
          have hzl := HZL.out
          rw [← e0, ← e1, show ((ints (part zs (j * 2))).set (j * 2) (.int .i64 (gd zs (j * 2)))).set (j * 2 + 1) (.int .i64 (gd zs (j * 2 + 1))) = ints (part zs ((j + 1) * 2)) from by rw [← partP_pt zs j (by omega)]; unfold ints; simp only [List.map_set]] at hrow3
          exact ⟨j + 1, by omega, by go_num, by rw [← e0, ← e1]; exact hrow3, (hS2.2.2.2.2.setCell (Nat.le_refl _) _).setCell (Nat.le_refl _) _⟩
        case measure => simp [intOf]; omega
      · go_wp2
        go_ret
        have hl := HZL.out
        rw [part_end zs _ (by omega)] at hrow
        refine ⟨_, rfl, ?_, hb⟩
        rw [HE.out]
        unfold PtS
        rw [edT_len, ← HZ.out]
        exact hrow
end Go.Proofs.Ytoecjdpeldcajaa

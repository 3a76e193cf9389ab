/-
  Hulls in the model: what the calls return.
  Conditions: the slice reads as the list that is named; coordinates are small.
-/
import Derived.Test.YtoecjdpeldcajaaGreatPgI
namespace Go.Proofs.YtoecjdpeldcajaaGreat
set_option linter.unusedSimpArgs false
set_option linter.unusedVariables false
open Go.ChangeShapes Go.WideShapes Go.ChangeAt Go.RowKit
open Go.Sort (grow)

theorem all_badP (l : List Pt) (k : Nat) (hk : k < l.length) (h : ptG (pd l k) = false) : ptsB l = false := by
  unfold ptsB
  have : l.all ptG = false := by
    rw [List.all_eq_false]
    exact ⟨_, pd_mem hk, by rw [h]; simp⟩
  rw [this]; simp
theorem all_nextP (l : List Pt) (k : Nat) (hk : k < l.length) (h : (l.take k).all ptG = true) (h' : ptG (pd l k) = true) : (l.take (k + 1)).all ptG = true := by
  rw [take_pd l k hk, List.all_append, h]; simpa using h'
theorem ptsB_end {l : List Pt} (h : l.all ptG = true) : ptsB l = inB l.length 1 40 := by
  unfold ptsB
  rw [h]
  unfold inB
  have e1 : decide ((1 : Int) ≤ l.length) = decide (1 ≤ l.length) := by congr 1; apply propext; omega
  have e2 : decide ((l.length : Int) ≤ 40) = decide (l.length ≤ 40) := by congr 1; apply propext; omega
  rw [e1, e2, Bool.and_true]
theorem ptS_snoc {w : World} {B : Nat} {v : Value} {l : List Pt} {m : Nat} {t : Pt} (hm : m = l.length + 1) (h : w.ownsRow B 55 2 v m (ints (flatP l) ++ ints (encP t))) : PtS w B v (l ++ [t]) := by
  have e : (l ++ [t]).length = m := by rw [List.length_append, hm]; rfl
  unfold PtS FS
  rw [e, flatP_snoc]
  unfold ints at h ⊢
  rw [List.map_append]
  exact h
/-- A point behind a row of points of our own; the point lies at ad. -/
theorem wpList_append_pt {ops : Array Oper} {rest : List Oper} {o : Oper} {a : Act} {Q : Exit → Act → World → Prop} (w : World) (hgd : o.guard = none) (s x : Operand)
    (ho : o.op = .call { callee := .builtin .append, args := #[s, x], argTypes := #[72, 72] })
    (B : Nat) (v : Value) (l : List Pt) (hs : a.eval s = v) (hown : PtS w B v l) (n : Nat) (p : Pt) (hx : a.eval x = .slice (some ⟨n, 0, none⟩) 1 1)
    (hp : P2 w n p) (hn : l.length ≤ 1000000) (hB : B ≤ w.heap.size)
    (h : ∀ v' w', PtS w' B v' (l ++ [p]) → w.grownBy w' v.ownBlock → wpList Tryz.prog ops Q rest (a.put o.dst v') w') :
    wpList Tryz.prog ops Q (o :: rest) a w := by
  obtain ⟨i0, hi, hz0, hz1, hz2⟩ := info_parts infoPoint
  refine wpList_append_own w hgd s x 72 ho B 55 i0 (.agg #[.int .i64 0, .int .i64 0]) 2 16 Tryz.underlying72 hi hz0 hz1 hz2 rfl (by decide) v l.length _ hs hown ⟨n, 0, none⟩ 1 1 (ints (encP p)) hx rfl (P2.news hp) (by intro u hu; simp [ints, encP] at hu; rcases hu with rfl | rfl <;> rfl) (by unfold maxLen; omega) (by omega) hB ?_
  intro v' w' h1 h2 h3
  exact h v' w' (ptS_snoc rfl h1) h2
set_option maxHeartbeats 2000000 in
set_option maxRecDepth 100000 in
theorem pyHalf_any (w : World) (B : Nat) (v : Value) (l : List Pt) (h : PtS w B v l) (hz : l.length ≤ 100000) (hsm : ∀ q ∈ l, Sm 1000 q) : Calls Tryz.prog 88 #[v] w fun e w' => GivesPt (stkH trn l).reverse w e w' := by
  have HSM := Lib.hid hsm
  obtain ⟨A2, cap2, rfl, -, hp2⟩ := PtS.parts h
  have HP2 := Lib.hid hp2
  obtain ⟨N, hN⟩ : ∃ N, N = l.length := ⟨_, rfl⟩
  have HN := Lib.hid hN
  have HQ := Lib.hid (fun a b c W (ha : Sm 1000 a) (hb : Sm 1000 b) (hc : Sm 1000 c) => pyTurn_any a b c W ha hb hc)
  rw [← hN] at hz ⊢
  clear hp2 h hN hsm
  go_enter Tryz.func88, Tryz.ntmps88
  go_wp2
  go_loopw [3, 8] (fun o i wr => ∃ n : Nat, n ≤ N ∧ i = .int .i64 n ∧ PtS wr w.heap.size o (stkH trn (l.take n)).reverse ∧ Below w.heap.size w wr) (fun _ i _ => N - (intOf i).toNat)
  case atStart => exact ⟨0, by omega, rfl, FS.nil_ _ _ _ _, Below.refl _ _⟩
  case round =>
    obtain ⟨n, hn, rfl, ho, hb⟩ := hrel
    by_cases hlt : n < N
    · have hnl : n < l.length := by rw [← HN.out]; exact hlt
      obtain ⟨gp, rfl, hc0⟩ := HP2.out n hnl
      have hc1 := X2.below hc0 hb
      obtain ⟨k, hk⟩ : ∃ k, k = pd l n := ⟨_, rfl⟩
      have hks : Sm 1000 k := by rw [hk]; exact HSM.out _ (pd_mem hnl)
      rw [← hk] at hc1
      obtain ⟨s0, hs0⟩ : ∃ s0, s0 = stkH trn (l.take n) := ⟨_, rfl⟩
      have hsl : s0.length ≤ n := by rw [hs0]; exact Nat.le_trans (stkH_le _ _) (by simp; omega)
      have hsm0 : ∀ q ∈ s0, Sm 1000 q := fun q hq => by
        rw [hs0] at hq
        rcases stkH_mem _ _ hq with h | h
        · exact HSM.out q (List.mem_of_mem_take h)
        · simp at h
      rw [← hs0] at ho
      have HNX := Lib.hid (show stkH trn (l.take (n + 1)) = k :: popH trn k s0 by rw [take_pd l n hnl, stkH_snoc, ← hs0, ← hk])
      have hoA := FS.alloc ho (.cells #[.int .i64 k.1, .int .i64 k.2] 55)
      have hbA := hb.alloc hb.size (.cells #[.int .i64 k.1, .int .i64 k.2] 55)
      have hPA := P2.new wr k 55
      have hwr := hb.size
      obtain ⟨c0, c1⟩ := hc1
      clear hs0 hk ho hc0
      go_wp2
      generalize hW : wr.alloc (.cells #[.int .i64 k.1, .int .i64 k.2] 55) = W at hoA hbA hPA ⊢
      obtain ⟨gk, hgk⟩ : ∃ gk, gk = wr.heap.size := ⟨_, rfl⟩
      rw [← hgk] at hPA ⊢
      clear hb hW hgk c0 c1
      go_loopw [3] (fun o wq => ∃ W : World, W = wq ∧ ∃ s, PtS wq w.heap.size o s.reverse ∧ P2 wq gk k ∧ s.length ≤ n ∧ Hid (∀ q ∈ s, Sm 1000 q) ∧ Hid (popH trn k s = popH trn k s0) ∧ Below w.heap.size w wq) (fun o _ => slNP o)
      case atStart => exact ⟨_, rfl, s0, hoA, hPA, hsl, Lib.hid hsm0, Lib.hid rfl, hbA⟩
      case round =>
        obtain ⟨wq, rfl, s, ho2, hP2, hsl2, hsm2, hpop, hb2⟩ := hrel
        clear hoA hPA hbA hsl hsm0
        obtain ⟨t0, t1⟩ := P2.grown hP2
        have HO := Lib.hid ho2
        have hslN := PtS.slN ho2
        rw [List.length_reverse] at hslN
        have done : s.length < 2 ∨ (∃ j i t, s = j :: i :: t) := by
          match s with
          | [] => exact .inl (by simp)
          | [_] => exact .inl (by simp)
          | j :: i :: t => exact .inr ⟨j, i, t, rfl⟩
        rcases done with hsh | ⟨j, i, t, rfl⟩
        · have HPS := Lib.hid (popH_short (T := trn) (p := k) hsh)
          have HR := Lib.hid (show stkH trn (l.take (n + 1)) = k :: s by rw [HNX.out, ← hpop.out, HPS.out])
          obtain ⟨A, cap, rfl, -, -⟩ := PtS.parts ho2
          rw [List.length_reverse]
          obtain ⟨u, hu⟩ : ∃ u, u = s.length := ⟨_, rfl⟩
          have HU := Lib.hid hu
          rw [← hu] at hsh hsl2 ⊢
          have hg1 : decide ((1 : Int) < (u : Int)) = false := decide_eq_false (by omega)
          have hg2 : ((1 : Int) < (u : Int)) = False := eq_false (by omega)
          clear ho2 hslN hu
          go_wp2_with fail
          refine wp_region_quiet_grown (by kernel_rfl) (by kernel_rfl) ?_
          repeat (go_big_quiet_step ((fail)))
          refine wpQuiet_nil ?_
          intro _ hw'
          obtain ⟨⟨nq, osq⟩, hw''⟩ := hw'
          subst hw''
          have HYG := Lib.hid (show Gr wq (grow (wq.drewN nq) osq) from ⟨_, _, rfl⟩)
          generalize grow (wq.drewN nq) osq = Y at HYG ⊢
          have hrow := FS.below HO.out HYG.out.below
          have hbY := bel2 hb2 HYG.out.below
          obtain ⟨p0, p1⟩ := P2.below hP2 HYG.out.below
          clear t0 t1
          rw [List.length_reverse, ← HU.out] at hrow
          have hrow' : PtS (Y.alloc (.cells #[.int .i64 k.1, .int .i64 k.2] 55)) w.heap.size (.slice A u cap) s.reverse := by
            unfold PtS; rw [List.length_reverse, ← HU.out]; exact FS.alloc hrow _
          have hbY' := hbY.size
          have HBY := Lib.hid hbY
          have HLT := Lib.hid (fun g hg => (World.ownsRow.lt hrow g hg).1)
          clear hrow
          go_wp2_with (at_builtin; refine wpList_append_pt _ rfl _ _ rfl w.heap.size _ s.reverse rfl hrow' Y.heap.size k rfl (P2.new Y k _) (by rw [List.length_reverse, ← HU.out]; omega) (by simp; omega) ?_; intro v' w1 hown' hgrow)
          go_roundw
          case rel => exact ⟨n + 1, by omega, by go_num, by rw [HR.out, List.reverse_cons]; exact hown', (HBY.out.alloc hbY' _).grown hgrow (by simp; omega) HLT.out⟩
          case measure => simp [intOf]; omega
        · have hsi := hsm2.out i (by simp)
          have hsj := hsm2.out j (by simp)
          have htl : t.length ≤ 100000 := by simp at hsl2; omega
          obtain ⟨u, hu⟩ : ∃ u, u = (j :: i :: t).length := ⟨_, rfl⟩
          have HU := Lib.hid hu
          obtain ⟨A, cap, rfl, -, hp⟩ := PtS.parts ho2
          rw [List.length_reverse, ← hu]
          rw [← hu] at hslN hsl2
          simp only [List.length_cons] at hu
          obtain ⟨g, rfl, cj⟩ := hp (u - 1) (by simp; omega)
          obtain ⟨g', hg', ci⟩ := hp (u - 2) (by simp; omega)
          cases hg'
          obtain ⟨rv1, rv2⟩ := rev_twoP (j := j) (i := i) (t := t)
          rw [show u - 1 = t.length + 1 by omega, rv1, show t.length + 1 = u - 1 by omega] at cj
          rw [show u - 2 = t.length by omega, rv2, show t.length = u - 2 by omega] at ci
          have hu2 : 2 ≤ u := by omega
          have hu3 : u ≤ 200000 := by omega
          have hcap : u ≤ cap := by
            rcases HO.out.2 with ⟨hx, -⟩ | ⟨g', cap', cur, hv, hB, hh, hn, hc, hs, ht⟩
            · cases hx
            · simp only [Value.slice.injEq, true_and] at hv
              obtain ⟨-, -, rfl⟩ := hv
              rw [List.length_reverse, ← HU.out] at hn; exact hn
          obtain ⟨a0, a1⟩ := X2.grown ci
          obtain ⟨e0, e1⟩ := X2.grown cj
          have q7 : IntKind.i64.wrap ((u : Int) - 2) = ((u - 2 : Nat) : Int) := by rw [IntWalk.i64_in _ (by omega)]; omega
          have q8 : IntKind.i64.wrap ((u : Int) - 1) = ((u - 1 : Nat) : Int) := by rw [IntWalk.i64_in _ (by omega)]; omega
          have l1 : u - 2 < u := by omega
          have l2 : u - 1 < u := by omega
          have l3 : (1 : Int) < (u : Int) := by omega
          have z1 : (0 : Int) ≤ ((u - 2 : Nat) : Int) := by omega
          have z2 : (0 : Int) ≤ ((u - 1 : Nat) : Int) := by omega
          have z3 : ((u - 2 : Nat) : Int) < (u : Int) := by omega
          have z4 : ((u - 1 : Nat) : Int) < (u : Int) := by omega
          clear hu rv1 rv2 hp ho2
          cases hd : decide (0 < trn i j k)
          · have HPS := Lib.hid (popH_more (T := trn) (t := t) hd)
            have hle : trn i j k ≤ 0 := by have := of_decide_eq_false hd; omega
            clear hd
            go_wp2_with fail
            refine wp_region_quiet_grown (by kernel_rfl) (by kernel_rfl) ?_
            repeat (go_big_quiet_step ((first | (go_at_call 49; refine Calls.grown_of (HQ.out _ _ _ _ (by assumption) (by assumption) (by assumption))))))
            refine wpQuiet_nil ?_
            intro _ hw'
            obtain ⟨⟨nq, osq⟩, hw''⟩ := hw'
            subst hw''
            have HYG := Lib.hid (show Gr wq (grow (wq.drewN nq) osq) from ⟨_, _, rfl⟩)
            generalize grow (wq.drewN nq) osq = Y at HYG ⊢
            clear q7 t0 t1 a0 a1 e0 e1
            have hl1 : u - 1 ≤ cap := by omega
            go_wp2
            go_roundw
            case rel =>
              refine ⟨_, rfl, i :: t, ?_, P2.below hP2 HYG.out.below, by have := HU.out; simp only [List.length_cons] at this ⊢; omega, Lib.hid (fun q hq => hsm2.out q (List.mem_cons_of_mem _ hq)), Lib.hid (HPS.out.symm.trans hpop.out), bel2 hb2 HYG.out.below⟩
              have hr := FS.below HO.out HYG.out.below
              rw [List.length_reverse] at hr
              have hc := PtS.cut (m := u - 1) (n := (j :: i :: t).length) (l := (j :: i :: t).reverse) (by rw [List.length_reverse]) (by unfold PtS; rw [List.length_reverse]; exact hr) (by rw [← HU.out]; omega)
              have e : (j :: i :: t).reverse.take (u - 1) = (i :: t).reverse := by
                rw [List.reverse_cons, List.take_append_of_le_length (by rw [List.length_reverse]; have := HU.out; simp only [List.length_cons] at this ⊢; omega)]
                exact List.take_of_length_le (by rw [List.length_reverse]; have := HU.out; simp only [List.length_cons] at this ⊢; omega)
              rw [e] at hc
              exact hc
            case measure => simp [slNP]; omega
          · have HPS := Lib.hid (popH_stop (T := trn) (t := t) hd)
            have HR := Lib.hid (show stkH trn (l.take (n + 1)) = k :: j :: i :: t by rw [HNX.out, ← hpop.out, HPS.out])
            have hle : ¬ trn i j k ≤ 0 := by have := of_decide_eq_true hd; omega
            clear hd
            go_wp2_with fail
            refine wp_region_quiet_grown (by kernel_rfl) (by kernel_rfl) ?_
            repeat (go_big_quiet_step ((first | (go_at_call 49; refine Calls.grown_of (HQ.out _ _ _ _ (by assumption) (by assumption) (by assumption))))))
            refine wpQuiet_nil ?_
            intro _ hw'
            obtain ⟨⟨nq, osq⟩, hw''⟩ := hw'
            subst hw''
            have HYG := Lib.hid (show Gr wq (grow (wq.drewN nq) osq) from ⟨_, _, rfl⟩)
            generalize grow (wq.drewN nq) osq = Y at HYG ⊢
            have hrow := FS.below HO.out HYG.out.below
            have hbY := bel2 hb2 HYG.out.below
            obtain ⟨p0, p1⟩ := P2.below hP2 HYG.out.below
            clear q7 q8 t0 t1 a0 a1 e0 e1
            rw [List.length_reverse, ← HU.out] at hrow
            have hrow' : PtS (Y.alloc (.cells #[.int .i64 k.1, .int .i64 k.2] 55)) w.heap.size (.slice (some ⟨g, 0, none⟩) u cap) (j :: i :: t).reverse := by
              unfold PtS; rw [List.length_reverse, ← HU.out]; exact FS.alloc hrow _
            have hbY' := hbY.size
            have HBY := Lib.hid hbY
            have HLT := Lib.hid (fun g hg => (World.ownsRow.lt hrow g hg).1)
            clear hrow
            go_wp2_with (at_builtin; refine wpList_append_pt _ rfl _ _ rfl w.heap.size _ (j :: i :: t).reverse rfl hrow' Y.heap.size k rfl (P2.new Y k _) (by rw [List.length_reverse, ← HU.out]; omega) (by simp; omega) ?_; intro v' w1 hown' hgrow)
            go_roundw
            case rel => exact ⟨n + 1, by omega, by go_num, by rw [HR.out, List.reverse_cons]; exact hown', (HBY.out.alloc hbY' _).grown hgrow (by simp; omega) HLT.out⟩
            case measure => simp [intOf]; omega
    · obtain rfl : n = N := by omega
      rw [show l.take n = l by rw [HN.out, List.take_length]] at ho
      go_wp2
      go_ret
      exact ⟨_, rfl, ho, hb⟩
end Go.Proofs.YtoecjdpeldcajaaGreat

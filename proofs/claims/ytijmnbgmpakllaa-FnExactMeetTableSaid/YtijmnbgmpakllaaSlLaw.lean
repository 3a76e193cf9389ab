/-
  Slices of slices of integers in the laws: equal ones, marked ones, held ones: what each call returns.
  Conditions: the slices read as the lists that are named; not too many elements.
-/
import Derived.Test.YtijmnbgmpakllaaSl
import Derived.Test.YtijmnbgmpakllaaCeM
namespace Go.Proofs.Ytijmnbgmpakllaa
set_option linter.unusedSimpArgs false
set_option linter.unusedVariables false
open Go.ChangeShapes Go.WideShapes Go.ChangeAt Go.RowKit
open Go.Sort (grow)

/-- Where the slices of a list lie; what marking them all may turn. -/
def InL (P : VL) (lo hi : Nat) : Prop := ∀ p ∈ P, In p.1 lo hi
def InS (v : Value) (P : VL) (lo hi : Nat) : Prop := In v lo hi ∧ InL P lo hi
structure GrL (w w' : World) (P : VL) : Prop where
  os : w'.os = w.os
  tape : w'.tape = w.tape
  output : w'.output = w.output
  size : w'.heap.size = w.heap.size
  block : ∀ g, g < w.heap.size → (∀ p ∈ P, p.1.ownBlock ≠ some g) → w'.heap[g]? = w.heap[g]?
theorem GrL.refl (w : World) (P : VL) : GrL w w P := ⟨rfl, rfl, rfl, rfl, fun _ _ _ => rfl⟩
theorem LS.in_ {w : World} {B : Nat} {v : Value} {P : VL} (h : LS w B v P) : InS v P B w.heap.size := ⟨World.ownsRow.lt h.1, fun p hp => (h.2.1 p hp).lt⟩
theorem LS.drewN {w : World} {B : Nat} {v : Value} {P : VL} (h : LS w B v P) (n : Nat) : LS (w.drewN n) B v P := h
theorem LS.marked {w w' : World} {B a b c d : Nat} {v x : Value} {P : VL} (h : LS w B v P) (hv : InS v P a b) (hx : In x c d) (hd : b ≤ c ∨ d ≤ a) (hg : w.grownBy w' x.ownBlock) : LS w' B v P := by
  have key : ∀ g, (∃ u, u.ownBlock = some g ∧ In u a b) → some g ≠ x.ownBlock := fun g ⟨u, hu, hin⟩ he => by
    have h1 := hin g hu
    have h2 := hx g he.symm
    omega
  refine ⟨⟨h.1.1, ?_⟩, fun p hp => (h.2.1 p hp).other hg fun g hg' => key g ⟨p.1, hg', hv.2 p hp⟩, h.2.2⟩
  rcases h.1.2 with h0 | ⟨g, cap, cur, h1, h2, h3, h4⟩
  · exact .inl h0
  · exact .inr ⟨g, cap, cur, h1, h2, (hg.block g (Array.getElem?_eq_some_iff.1 h3).1 (key g ⟨v, by rw [h1]; rfl, hv.1⟩)).trans h3, h4⟩
theorem IS.markedL {w w' : World} {B a b c d : Nat} {v x : Value} {P : VL} {zs : List Int} (h : IS w B v zs) (hv : In v a b) (hx : InS x P c d) (hd : b ≤ c ∨ d ≤ a) (hg : GrL w w' P) : IS w' B v zs :=
  h.keep fun g hgv => hg.block g (h.lt g hgv).2 fun p hp e => by
    have h1 := hv g hgv
    have h2 := hx.2 p hp g e
    omega
theorem FS.markedL {T : TypeId} {k n : Nat} {w w' : World} {B a b c d : Nat} {v x : Value} {P : VL} {zs : List Int} (h : FS T k w B v n zs) (hv : In v a b) (hx : InS x P c d) (hd : b ≤ c ∨ d ≤ a) (hg : GrL w w' P) : FS T k w' B v n zs :=
  h.keep fun g hgv => hg.block g (h.lt g hgv).2 fun p hp e => by
    have h1 := hv g hgv
    have h2 := hx.2 p hp g e
    omega
theorem LS.markedL {w w' : World} {B a b c d : Nat} {v x : Value} {P Q : VL} (h : LS w B v P) (hv : InS v P a b) (hx : InS x Q c d) (hd : b ≤ c ∨ d ≤ a) (hg : GrL w w' Q) : LS w' B v P := by
  refine ⟨⟨h.1.1, ?_⟩, fun p hp => (h.2.1 p hp).markedL (hv.2 p hp) hx hd hg, h.2.2⟩
  rcases h.1.2 with h0 | ⟨g, cap, cur, h1, h2, h3, h4⟩
  · exact .inl h0
  · exact .inr ⟨g, cap, cur, h1, h2, (hg.block g (Array.getElem?_eq_some_iff.1 h3).1 fun p hp e => by
      have a1 := hv.1 g (by rw [h1]; rfl)
      have a2 := hx.2 p hp g e
      omega).trans h3, h4⟩
theorem belML {w w1 w2 : World} {x : Value} {P : VL} {c d : Nat} (h : Below w.heap.size w w1) (hx : InS x P c d) (hc : w.heap.size ≤ c) (hg : GrL w1 w2 P) : Below w.heap.size w w2 where
  os := hg.os.trans h.os
  tape := hg.tape.trans h.tape
  output := hg.output.trans h.output
  size := by rw [hg.size]; exact h.size
  block := fun k hk => (hg.block k (Nat.lt_of_lt_of_le hk h.size) fun p hp e => by
    have := hx.2 p hp k e
    omega).trans (h.block k hk)
/-! ### Equal -/
theorem lls_eq_bad {P Q : VL} {k : Nat} (hk : k < P.length) (hk' : k < Q.length) (h : pll P k ≠ pll Q k) : lls P ≠ lls Q := fun e => h (by
  have h1 := lls_at hk
  rw [e, lls_at hk'] at h1
  exact (Option.some.inj h1).symm)
theorem lls_next {P Q : VL} {k : Nat} (hk : k < P.length) (hk' : k < Q.length) (h0 : (lls P).take k = (lls Q).take k) (h : pll P k = pll Q k) : (lls P).take (k + 1) = (lls Q).take (k + 1) := by
  rw [List.take_succ_eq_append_getElem (by rw [lls_len]; exact hk), List.take_succ_eq_append_getElem (by rw [lls_len]; exact hk'), h0, lls_get hk, lls_get hk', h]
theorem lls_end {P Q : VL} (hl : P.length = Q.length) (h : (lls P).take P.length = (lls Q).take P.length) : lls P = lls Q := by
  rwa [List.take_of_length_le (by rw [lls_len]; omega), List.take_of_length_le (by rw [lls_len]; omega)] at h
set_option maxHeartbeats 1000000 in
set_option maxRecDepth 100000 in
theorem eqIntSS_any (w : World) (B B' : Nat) (v v' : Value) (P Q : VL) (h : LS w B v P) (h' : LS w B' v' Q) : Calls Try.prog 25 #[v, v'] w fun e w' => e = .returned (.bool (decide (lls P = lls Q))) ∧ Below w.heap.size w w' := by
  have H0 := Lib.hid h
  have H0' := Lib.hid h'
  obtain ⟨A, cap, rfl, hm, hp⟩ := LS.parts h
  obtain ⟨A', cap', rfl, hm', hp'⟩ := LS.parts h'
  have HP := Lib.hid hp
  have HP' := Lib.hid hp'
  obtain ⟨n, hn⟩ : ∃ n, n = P.length := ⟨_, rfl⟩
  obtain ⟨n', hn'⟩ : ∃ n', n' = Q.length := ⟨_, rfl⟩
  have HN := Lib.hid hn
  have HN' := Lib.hid hn'
  rw [← hn] at hm ⊢
  rw [← hn'] at hm' ⊢
  unfold maxLen at hm hm'
  clear hp h hp' h' hn hn'
  by_cases hl : n = n'
  · subst hl
    go_enter Try.func25, Try.ntmps25
    go_wp2
    go_loopw [5] (fun i wr => ∃ k : Nat, k ≤ n ∧ i = .int .i64 k ∧ Hid ((lls P).take k = (lls Q).take k) ∧ Hid (Gr w wr)) (fun i _ => n - (intOf i).toNat)
    case atStart => exact ⟨0, by omega, rfl, Lib.hid rfl, Lib.hid (gr0 _)⟩
    case round =>
      obtain ⟨k, hk, rfl, hall, hg⟩ := hrel
      by_cases hlt : k < n
      · have hkp : k < P.length := by rw [← HN.out]; exact hlt
        have hkq : k < Q.length := by rw [← HN'.out]; exact hlt
        obtain ⟨g, rfl, hc⟩ := HP.out k hkp
        obtain ⟨g', rfl, hc'⟩ := HP'.out k hkq
        have hc1 := cell_grown (cell_lt (box_o hc hg.out.below)) (box_o hc hg.out.below)
        have hc2 := cell_grown (cell_lt (box_o hc' hg.out.below)) (box_o hc' hg.out.below)
        have HQ := Lib.hid (fun W (hW : Gr w W) => show Calls Try.prog 63 #[pvl P k, pvl Q k] W fun e w' => e = .returned (.bool (decide (pll P k = pll Q k))) ∧ Gr W w' from
          (eqIntS_any W B B' _ _ _ _ ((H0.out.2.at hkp).below hW.below) ((H0'.out.2.at hkq).below hW.below)).mono fun e w' ⟨h1, q, h2⟩ => ⟨h1, q, #[], by rw [Sort.grow_empty]; exact h2⟩)
        have hI1 : (k : Int) < (n : Int) := by omega
        have hI2 : (0 : Int) ≤ (k : Int) := by omega
        have HW := Lib.hid (fun (q : Nat) (os : Array Obj) => hg.out.trans (show Gr wr (grow (wr.drewN q) os) from ⟨q, os, rfl⟩))
        by_cases he : pll P k = pll Q k
        · have HE := Lib.hid (lls_next hkp hkq hall.out he)
          have HQ2 := Lib.hid (fun W (hW : Gr w W) => show Calls Try.prog 63 #[pvl P k, pvl Q k] W fun e w' => e = .returned (.bool true) ∧ Gr W w' by have := HQ.out W hW; rwa [decide_eq_true he] at this)
          clear he HQ hc hc'
          go_wp2_with fail
          refine wp_region_quiet_grown (by kernel_rfl) (by kernel_rfl) ?_
          repeat (go_big_quiet_step ((first | (go_at_call 63; refine Calls.grown_of (HQ2.out _ (HW.out _ _))))))
          refine wpQuiet_nil ?_
          intro _ hw'
          obtain ⟨⟨nq, osq⟩, hw''⟩ := hw'
          subst hw''
          have HG := Lib.hid (hg.out.trans ⟨nq, osq, rfl⟩)
          go_wp2
          go_roundw
          case rel => exact ⟨k + 1, by omega, by go_num, HE, HG⟩
          case measure => simp [intOf]; omega
        · have HE := Lib.hid (lls_eq_bad hkp hkq he)
          have HQ2 := Lib.hid (fun W (hW : Gr w W) => show Calls Try.prog 63 #[pvl P k, pvl Q k] W fun e w' => e = .returned (.bool false) ∧ Gr W w' by have := HQ.out W hW; rwa [decide_eq_false he] at this)
          clear he HQ hc hc'
          go_wp2_with fail
          refine wp_region_quiet_grown (by kernel_rfl) (by kernel_rfl) ?_
          repeat (go_big_quiet_step ((first | (go_at_call 63; refine Calls.grown_of (HQ2.out _ (HW.out _ _))))))
          refine wpQuiet_nil ?_
          intro _ hw'
          obtain ⟨⟨nq, osq⟩, hw''⟩ := hw'
          subst hw''
          have HG := Lib.hid (hg.out.trans ⟨nq, osq, rfl⟩)
          go_wp2
          go_ret
          exact ⟨ret_bool (by rw [decide_eq_false HE.out]), HG.out.below⟩
      · obtain rfl : k = n := by omega
        go_wp2
        go_ret
        refine ⟨ret_bool ?_, hg.out.below⟩
        have := hall.out
        rw [HN.out] at this
        rw [decide_eq_true (lls_end (by rw [← HN.out, ← HN'.out]) this)]
  · have hne : ¬ (n : Int) = (n' : Int) := by omega
    have HE := Lib.hid (show lls P ≠ lls Q from fun e => hl (by
      have := congrArg List.length e
      rw [lls_len, lls_len, ← HN.out, ← HN'.out] at this
      exact this))
    go_enter Try.func25, Try.ntmps25
    go_wp2
    go_ret
    exact ⟨ret_bool (by rw [decide_eq_false HE.out]), Below.refl _ _⟩
/-! ### Marked, held -/
def mkL : VL → Int → VL
  | [], _ => []
  | (v, zs) :: P, k => (v, upFrom k zs.length) :: mkL P (k + zs.length)
def totL (P : VL) : Nat := (P.map fun p => p.2.length).sum
theorem mkL_len : ∀ (P : VL) (k : Int), (mkL P k).length = P.length
  | [], _ => rfl
  | (v, zs) :: P, k => by simp [mkL, mkL_len P]
theorem mkL_vls : ∀ (P : VL) (k : Int), vls (mkL P k) = vls P
  | [], _ => rfl
  | (v, zs) :: P, k => by
    have := mkL_vls P (k + zs.length)
    unfold vls at this ⊢
    simp only [mkL, List.map_cons, this]
theorem mkL_app : ∀ (P Q : VL) (k : Int), mkL (P ++ Q) k = mkL P k ++ mkL Q (k + (totL P : Nat))
  | [], Q, k => by simp [mkL, totL]
  | (v, zs) :: P, Q, k => by
    rw [List.cons_append, mkL, mkL, mkL_app P Q]
    have : (k + (zs.length : Int)) + ((totL P : Nat) : Int) = k + ((totL ((v, zs) :: P) : Nat) : Int) := by unfold totL; simp; omega
    rw [this]; rfl
theorem totL_app (P Q : VL) : totL (P ++ Q) = totL P + totL Q := by unfold totL; simp
theorem totL_le {P : VL} {c : Nat} (h : ∀ p ∈ P, p.2.length ≤ c) : totL P ≤ P.length * c := by
  induction P with
  | nil => simp [totL]
  | cons p P ih =>
    have h1 := h p (by simp)
    have h2 := ih fun q hq => h q (by simp [hq])
    unfold totL at h2 ⊢
    simp only [List.map_cons, List.sum_cons, List.length_cons, Nat.add_mul]
    omega
theorem LV.mark {w w' : World} {B : Nat} {Q R : VL} {v : Value} {zs ys : List Int} (h : LV w B (Q ++ (v, zs) :: R)) (hg : w.grownBy w' v.ownBlock) (hy : IS w' B v ys) : LV w' B (Q ++ (v, ys) :: R) := by
  obtain ⟨h1, h2⟩ := h
  obtain ⟨a1, a2, a3⟩ := List.pairwise_append.1 h2
  obtain ⟨b1, b2⟩ := List.pairwise_cons.1 a2
  refine ⟨fun p hp => ?_, List.pairwise_append.2 ⟨a1, List.pairwise_cons.2 ⟨b1, b2⟩, fun p hp q hq => ?_⟩⟩
  · rw [List.mem_append, List.mem_cons] at hp
    rcases hp with hp | rfl | hp
    · exact (h1 p (by simp [hp])).other hg fun g hgp e => a3 p hp (v, zs) (by simp) g hgp e.symm
    · exact hy
    · exact (h1 p (by simp [hp])).other hg fun g hgp e => b1 p hp g e.symm hgp
  · rcases List.mem_cons.1 hq with rfl | hq
    · exact a3 p hp (v, zs) (by simp)
    · exact a3 p hp q (by simp [hq])
theorem pl_split {P : VL} {k : Nat} (hk : k < P.length) : P.drop k = (pvl P k, pll P k) :: P.drop (k + 1) := by rw [List.drop_eq_getElem_cons hk, p_eq hk]
theorem pl_take {P : VL} {k : Nat} (hk : k < P.length) : P.take (k + 1) = P.take k ++ [(pvl P k, pll P k)] := by rw [List.take_succ_eq_append_getElem hk, p_eq hk]
/-- Not too much. -/
def FewL (P : VL) : Prop := P.length ≤ 10000 ∧ ∀ p ∈ P, p.2.length ≤ 12
theorem FewL.tot {P : VL} (h : FewL P) (k : Nat) : totL (P.take k) ≤ 120000 := by
  have h1 := totL_le (P := P.take k) fun p hp => h.2 p (List.mem_of_mem_take hp)
  have h2 : (P.take k).length ≤ 10000 := by rw [List.length_take]; have := h.1; omega
  have := Nat.mul_le_mul_right 12 h2
  omega
def MarksL (B : Nat) (v : Value) (k : Int) (P : VL) (w : World) (e : Ending) (w' : World) : Prop := e = .returned (.int .i64 (k + (totL P : Nat))) ∧ LS w' B v (mkL P k) ∧ GrL w w' P ∧ w'.heap.size = w.heap.size
set_option maxHeartbeats 1000000 in
set_option maxRecDepth 100000 in
theorem markIntSS_any (w : World) (B : Nat) (v : Value) (P : VL) (k0 : Int) (h : LS w B v P) (hk0 : 0 ≤ k0 ∧ k0 ≤ 1000000) (hf : FewL P) : Calls Try.prog 28 #[v, .int .i64 k0] w fun e w' => MarksL B v k0 P w e w' := by
  have H0 := Lib.hid h
  have HF := Lib.hid hf
  obtain ⟨A, cap, rfl, hm, hp⟩ := LS.parts h
  have HP := Lib.hid hp
  obtain ⟨n, hn⟩ : ∃ n, n = P.length := ⟨_, rfl⟩
  have HN := Lib.hid hn
  rw [← hn] at hm ⊢
  unfold maxLen at hm
  clear hp h hn hf
  go_enter Try.func28, Try.ntmps28
  go_wp2
  go_loopw [1, 5] (fun q i wr => ∃ k : Nat, k ≤ n ∧ i = .int .i64 k ∧ q = .int .i64 (k0 + (totL (P.take k) : Nat)) ∧ Hid (LV wr B (mkL (P.take k) k0 ++ P.drop k)) ∧ Hid (GrL w wr P)) (fun _ i _ => n - (intOf i).toNat)
  case atStart => exact ⟨0, by omega, rfl, by simp [totL], Lib.hid (by simpa [mkL] using H0.out.2), Lib.hid (GrL.refl _ _)⟩
  case round =>
    obtain ⟨k, hk, rfl, rfl, hV, hG⟩ := hrel
    by_cases hlt : k < n
    · have hkp : k < P.length := by rw [← HN.out]; exact hlt
      obtain ⟨g, rfl, hc⟩ := HP.out k hkp
      have hng : ∀ p ∈ P, p.1.ownBlock ≠ some g := fun p hp e => (H0.out.2.1 p hp).other_row H0.out.1 g e rfl
      have hc1 : wr.cell? ⟨g, k, none⟩ = some (pvl P k) := by
        have hb := hG.out.block g (cell_lt hc) hng
        simp only [World.cell?] at hc ⊢
        rw [hb]; exact hc
      have hV1 := hV.out
      rw [pl_split hkp] at hV1
      have hI := hV1.1 (pvl P k, pll P k) (by simp)
      have ht := HF.out.tot k
      have hlen : (pll P k).length ≤ 12 := HF.out.2 _ (p_mem hkp)
      have HM := Lib.hid (markIntS_any wr B (pvl P k) (pll P k) (k0 + (totL (P.take k) : Nat)) hI (by omega) (by omega))
      have HV1 := Lib.hid hV1
      have HT := Lib.hid (show k0 + ((totL (P.take k) : Nat) : Int) + ((pll P k).length : Int) = k0 + ((totL (P.take (k + 1)) : Nat) : Int) by rw [pl_take hkp, totL_app]; simp [totL]; omega)
      clear hc hI hV1 hng hlen
      go_wp2_with fail
      refine HM.out.mono ?_
      rintro e w1 ⟨rfl, hy, hg1, hs1⟩
      rw [HT.out]
      have HV2 := Lib.hid (show LV w1 B (mkL (P.take (k + 1)) k0 ++ P.drop (k + 1)) by
        have := HV1.out.mark hg1 hy
        rw [pl_take hkp, mkL_app]
        simpa [mkL] using this)
      have HG2 := Lib.hid (show GrL w w1 P from ⟨hg1.os.trans hG.out.os, hg1.tape.trans hG.out.tape, hg1.output.trans hG.out.output, hs1.trans hG.out.size, fun j hj hp => (hg1.block j (by rw [hG.out.size]; exact hj) (fun e => hp _ (p_mem hkp) e.symm)).trans (hG.out.block j hj hp)⟩)
      clear hy hg1 hs1 hc1 HM
      go_wp2
      go_roundw
      case rel => exact ⟨k + 1, by omega, by go_num, rfl, HV2, HG2⟩
      case measure => simp [intOf]; omega
    · obtain rfl : k = n := by omega
      go_wp2
      go_ret
      have hV1 := hV.out
      rw [HN.out, List.take_length, List.drop_length, List.append_nil] at hV1
      have e9 : P.take k = P := by rw [HN.out, List.take_length]
      refine ⟨by rw [e9]; rfl, ⟨?_, hV1⟩, hG.out, hG.out.size⟩
      rw [mkL_len, mkL_vls, HN.out]
      refine ⟨H0.out.1.1, ?_⟩
      rcases H0.out.1.2 with h0 | ⟨g, cap2, cur, h1, h2, h3, h4⟩
      · exact .inl h0
      · refine .inr ⟨g, cap2, cur, h1, h2, (hG.out.block g (Array.getElem?_eq_some_iff.1 h3).1 fun p hp e => ?_).trans h3, h4⟩
        have hr := H0.out.1
        rw [h1] at hr
        exact (H0.out.2.1 p hp).other_row hr g e rfl
set_option maxHeartbeats 1000000 in
set_option maxRecDepth 100000 in
theorem heldIntSS_any (w : World) (B : Nat) (v : Value) (P : VL) (k0 : Int) (h : LS w B v (mkL P k0)) (hk0 : 0 ≤ k0 ∧ k0 ≤ 1000000) (hf : FewL P) : Calls Try.prog 29 #[v, .int .i64 k0] w fun e w' => e = .returned (.int .i64 (k0 + (totL P : Nat))) ∧ w = w' := by
  have H0 := Lib.hid h
  have HF := Lib.hid hf
  obtain ⟨A, cap, rfl, hm, hp⟩ := LS.parts h
  have HP := Lib.hid hp
  obtain ⟨n, hn⟩ : ∃ n, n = P.length := ⟨_, rfl⟩
  have HN := Lib.hid hn
  rw [mkL_len, ← hn] at hm ⊢
  unfold maxLen at hm
  clear hp h hn hf
  go_enter Try.func29, Try.ntmps29
  go_wp2
  go_loopw [1, 5] (fun q i wr => ∃ k : Nat, k ≤ n ∧ i = .int .i64 k ∧ q = .int .i64 (k0 + (totL (P.take k) : Nat)) ∧ w = wr) (fun _ i _ => n - (intOf i).toNat)
  case atStart => exact ⟨0, by omega, rfl, by simp [totL], rfl⟩
  case round =>
    obtain ⟨k, hk, rfl, rfl, rfl⟩ := hrel
    by_cases hlt : k < n
    · have hkp : k < P.length := by rw [← HN.out]; exact hlt
      have hkm : k < (mkL P k0).length := by rw [mkL_len]; exact hkp
      obtain ⟨g, rfl, hc⟩ := HP.out k hkm
      have hI := H0.out.2.at hkm
      have ht := HF.out.tot k
      have hlen : (pll P k).length ≤ 12 := HF.out.2 _ (p_mem hkp)
      have hx : (mkL P k0)[k] = (pvl P k, upFrom (k0 + (totL (P.take k) : Nat)) (pll P k).length) := by
        have e : mkL P k0 = mkL (P.take k) k0 ++ ((pvl P k, upFrom (k0 + (totL (P.take k) : Nat)) (pll P k).length) :: mkL (P.drop (k + 1)) (k0 + (totL (P.take k) : Nat) + (pll P k).length)) := by
          conv => lhs; rw [← List.take_append_drop k P, mkL_app, pl_split hkp, mkL]
        have hl : (mkL (P.take k) k0).length = k := by rw [mkL_len, List.length_take]; omega
        have h2 : (mkL P k0)[k]? = some (pvl P k, upFrom (k0 + (totL (P.take k) : Nat)) (pll P k).length) := by
          rw [e, List.getElem?_append_right (by omega), hl, Nat.sub_self]; rfl
        rw [List.getElem?_eq_getElem hkm] at h2
        exact Option.some.inj h2
      have e1 := p_eq hkm
      rw [hx] at e1
      obtain ⟨e2, e3⟩ := Prod.mk.inj e1
      rw [e2] at hc
      rw [e2, e3] at hI
      have HM := Lib.hid (heldIntS_any w B (pvl P k) (pll P k).length (k0 + (totL (P.take k) : Nat)) hI (by omega) (by omega))
      have HT := Lib.hid (show k0 + ((totL (P.take k) : Nat) : Int) + ((pll P k).length : Int) = k0 + ((totL (P.take (k + 1)) : Nat) : Int) by rw [pl_take hkp, totL_app]; simp [totL]; omega)
      have hpos : ¬ k0 + ((totL (P.take (k + 1)) : Nat) : Int) < 0 := by omega
      clear hI hx e1 e2 e3 hlen
      go_wp2_with fail
      refine HM.out.mono ?_
      rintro e w' ⟨rfl, rfl⟩
      rw [HT.out]
      go_wp2
      go_roundw
      case rel => exact ⟨k + 1, by omega, by go_num, rfl, by first | rfl | trivial⟩
      case measure => simp [intOf]; omega
    · obtain rfl : k = n := by omega
      go_wp2
      go_ret
      have e9 : P.take k = P := by rw [HN.out, List.take_length]
      exact ⟨by rw [e9]; rfl, rfl⟩
end Go.Proofs.Ytijmnbgmpakllaa

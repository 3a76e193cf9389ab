/-
  Areas and points of the boundary and inside, of the program and of the model: what the calls return.
  Conditions: the slice reads as the list that is named; coordinates are small where a contract names them.
-/
import Derived.Test.YtoecjdpeldcajaaPgE
namespace Go.Proofs.Ytoecjdpeldcajaa
set_option linter.unusedSimpArgs false
set_option linter.unusedVariables false
open Go.ChangeShapes Go.WideShapes Go.ChangeAt Go.RowKit
open Go.Sort (grow)

set_option maxHeartbeats 2000000 in
set_option maxRecDepth 100000 in
theorem pyArea_any (w : World) (B : Nat) (v : Value) (l : List Pt) (h : PtS w B v l) (hz : l.length ≤ 100000) (hsm : ∀ q ∈ l, Sm 1000 q) : Calls Try.prog 57 #[v] w fun e w' => e = .returned (.int .i64 (arL l)) ∧ Below w.heap.size w w' := by
  have HSM := Lib.hid hsm
  have HBD := Lib.hid (fun k hk => arS_bd hsm k hk)
  obtain ⟨A, cap, rfl, hm, hp⟩ := PtS.parts h
  have HP := Lib.hid hp
  obtain ⟨n, hn⟩ : ∃ n, n = l.length := ⟨_, rfl⟩
  have HN := Lib.hid hn
  rw [← hn] at hz ⊢
  clear hp h hn hm hsm
  go_enter Try.func57, Try.ntmps57
  go_wp2
  go_loopw [3, 9] (fun o i wr => ∃ k : Nat, k ≤ n ∧ i = .int .i64 k ∧ o = .int .i64 (arS l k) ∧ Below w.heap.size w wr) (fun _ i _ => n - (intOf i).toNat)
  case atStart => exact ⟨0, by omega, rfl, rfl, Below.refl _ _⟩
  case round =>
    obtain ⟨k, hk, rfl, rfl, hb⟩ := hrel
    by_cases hlt : k < n
    · have hkl : k < l.length := by rw [← HN.out]; exact hlt
      obtain ⟨m, hm⟩ : ∃ m, m = (k + 1) % n := ⟨_, rfl⟩
      have HMM := Lib.hid (show ((k : Int) + 1).tmod (n : Int) = (m : Int) by rw [rem_nat, hm])
      have hmn : m < n := by rw [hm]; exact Nat.mod_lt _ (by omega)
      obtain ⟨p, hpe⟩ : ∃ p, p = pd l k := ⟨_, rfl⟩
      obtain ⟨q, hqe⟩ : ∃ q, q = pd l m := ⟨_, rfl⟩
      have hnx : nxP l k = q := by unfold nxP; rw [← HN.out, ← hm, hqe]
      have hp1 : Sm 1000 p := by rw [hpe]; exact HSM.out _ (pd_mem hkl)
      have hq1 : Sm 1000 q := by rw [hqe]; exact HSM.out _ (pd_mem (by rw [← HN.out]; exact hmn))
      have hcr := crP_bd hp1 hq1
      have hb1 := HBD.out k (by omega)
      obtain ⟨x, hx⟩ : ∃ x, x = arS l k := ⟨_, rfl⟩
      have HNX := Lib.hid (show arS l (k + 1) = x + (p.1 * q.2 - p.2 * q.1) by rw [arS, hnx, ← hpe, hx]; rfl)
      rw [← hx] at hb1 ⊢
      obtain ⟨g, rfl, hc0⟩ := HP.out k hkl
      obtain ⟨g', hg', hd0⟩ := HP.out m (by rw [← HN.out]; exact hmn)
      cases hg'
      rw [← hpe] at hc0
      rw [← hqe] at hd0
      obtain ⟨c0, c1⟩ := X2.below hc0 hb
      obtain ⟨d0, d1⟩ := X2.below hd0 hb
      have lg : g < wr.heap.size := cell_lt d0
      have HB2 := Lib.hid ((hb.alloc hb.size (.cells #[.int .i64 p.1, .int .i64 p.2] 57)).alloc (by have := hb.size; simp; omega) (.cells #[.int .i64 q.1, .int .i64 q.2] 57))
      have w1 : IntKind.i64.wrap (p.1 * q.2) = p.1 * q.2 := IntWalk.i64_in _ (by omega)
      have w2 : IntKind.i64.wrap (p.2 * q.1) = p.2 * q.1 := IntWalk.i64_in _ (by omega)
      have w3 : IntKind.i64.wrap (p.1 * q.2 - p.2 * q.1) = p.1 * q.2 - p.2 * q.1 := IntWalk.i64_in _ (by omega)
      have w4 : IntKind.i64.wrap (x + (p.1 * q.2 - p.2 * q.1)) = x + (p.1 * q.2 - p.2 * q.1) := IntWalk.i64_in _ (by omega)
      have q1 : IntKind.i64.wrap ((k : Int) + 1) = (k : Int) + 1 := IntWalk.i64_in _ (by omega)
      have q2 : ((k : Int) + 1).tmod (n : Int) = (m : Int) := HMM.out
      have q3 : ((n : Int) == 0) = false := by simp; omega
      have q4 : ¬ (n : Int) = 0 := by omega
      have q5 : IntKind.i64.wrap (m : Int) = (m : Int) := IntWalk.i64_in _ (by omega)
      have z1 : (0 : Int) ≤ (m : Int) := by omega
      clear hc0 hd0 hpe hqe hm hnx hb hp1 hq1 hcr hb1 hx
      go_wp2
      clear q1 q2 q5 w1 w2 w3 w4
      go_roundw
      case rel => exact ⟨k + 1, by omega, by go_num, by rw [HNX.out], HB2.out⟩
      case measure => simp [intOf]; omega
    · obtain rfl : k = n := by omega
      have HE := Lib.hid (show arL l = arS l k by unfold arL; rw [HN.out])
      go_wp2
      go_ret
      exact ⟨ret_i64 HE.out.symm, hb⟩
set_option maxHeartbeats 2000000 in
set_option maxRecDepth 100000 in
theorem doubleAreaOf_any (w : World) (B : Nat) (v : Value) (l : List Pt) (h : PtS w B v l) (h0 : 0 < l.length) (hz : l.length ≤ 100000) (hsm : ∀ q ∈ l, Sm 1000 q) : Calls Try.prog 58 #[v] w fun e w' => e = .returned (.int .i64 (arL l)) ∧ Below w.heap.size w w' := by
  have HSM := Lib.hid hsm
  have HBD := Lib.hid (fun k hk => arS_bd hsm k hk)
  have H0 := Lib.hid h
  have HEL := Lib.hid (edL_le l)
  have HES := Lib.hid (edL_sm hsm)
  have HL1 := Lib.hid h0
  obtain ⟨A, cap, rfl, hm, hp⟩ := PtS.parts h
  have HP := Lib.hid hp
  obtain ⟨n, hn⟩ : ∃ n, n = l.length := ⟨_, rfl⟩
  have HN := Lib.hid hn
  have HQ := Lib.hid (fun u v W (hu : Sm 2000 u) (hv : Sm 2000 v) => cross_any u v W hu hv)
  rw [← hn] at hz ⊢
  clear hp h hn hm
  go_enter Try.func58, Try.ntmps58
  go_wp2_with fail
  refine (edgesOf_any _ B _ l (by rw [HN.out]; exact H0.out) h0 (by rw [← HN.out]; exact hz) hsm).mono ?_
  rintro e w1 ⟨ve, rfl, he, b1⟩
  obtain ⟨E, hE⟩ : ∃ E, E = edL l := ⟨_, rfl⟩
  rw [← hE] at he HEL HES
  obtain ⟨A', cap', rfl, -, hp'⟩ := PtS.parts he
  have HP' := Lib.hid hp'
  obtain ⟨ne, hne⟩ : ∃ ne, ne = E.length := ⟨_, rfl⟩
  have HNE := Lib.hid hne
  have hle : ne ≤ n := by rw [hne, HN.out]; exact HEL.out
  have HED := Lib.hid (fun (k : Nat) (hk : k < ne) => show pd E k = edP l k by
    rw [hne] at hk
    rw [hE] at hk ⊢
    unfold edL at hk ⊢
    split at hk
    · simp at hk
    · next h1 => rw [if_neg h1]; rw [edT_len] at hk; exact edT_pd l hk)
  have HEND := Lib.hid (show arL l = arS l ne by
    unfold arL
    by_cases h1 : l.length = 1
    · rw [hne, hE]; unfold edL; rw [if_pos h1, h1]
      have : nxP l 0 = pd l 0 := by unfold nxP; rw [h1]
      simp [arS, this, crP_self]
    · rw [hne, hE]; unfold edL; rw [if_neg h1, edT_len])
  rw [← hne]
  clear hE hne hp' he hsm h0
  go_wp2
  go_loopw [3, 9] (fun o i wr => ∃ k : Nat, k ≤ ne ∧ i = .int .i64 k ∧ o = .int .i64 (arS l k) ∧ Below w1.heap.size w1 wr) (fun _ i _ => ne - (intOf i).toNat)
  case atStart => exact ⟨0, by omega, rfl, rfl, Below.refl _ _⟩
  case round =>
    obtain ⟨k, hk, rfl, rfl, hb⟩ := hrel
    by_cases hlt : k < ne
    · have hkl : k < l.length := by rw [← HN.out]; omega
      have hkn : k < n := by omega
      obtain ⟨p, hpe⟩ : ∃ p, p = pd l k := ⟨_, rfl⟩
      obtain ⟨q, hqe⟩ : ∃ q, q = pd E k := ⟨_, rfl⟩
      have hp1 : Sm 2000 p := by rw [hpe]; exact (HSM.out _ (pd_mem hkl)).mono (by omega)
      have hq1 : Sm 2000 q := by rw [hqe]; exact HES.out _ (pd_mem (by rw [← HNE.out]; exact hlt))
      have hcr : crP p q = crP (pd l k) (nxP l k) := by rw [hpe, hqe, HED.out k hlt, crP_ed]
      have hcb := cr_sm (HSM.out _ (pd_mem hkl)) (nx_sm HSM.out HL1.out k)
      rw [← hcr] at hcb
      have hb1 := HBD.out k (by omega)
      obtain ⟨x, hx⟩ : ∃ x, x = arS l k := ⟨_, rfl⟩
      have HNX := Lib.hid (show arS l (k + 1) = x + crP p q by rw [arS, hcr, hx])
      rw [← hx] at hb1 ⊢
      obtain ⟨g, rfl, hc0⟩ := HP.out k hkl
      obtain ⟨g', rfl, hd0⟩ := HP'.out k (by rw [← HNE.out]; exact hlt)
      rw [← hpe] at hc0
      rw [← hqe] at hd0
      have hc1 := X2.below (X2.below (X2.below hc0 b1) hb) ((Below.refl _ _).alloc (Nat.le_refl _) (.cells #[.int .i64 q.1, .int .i64 q.2] 57))
      obtain ⟨d0, d1⟩ := X2.below hd0 hb
      have hb2 := hb.alloc hb.size (.cells #[.int .i64 q.1, .int .i64 q.2] 57)
      have hx2 := P2.new wr q 57
      have w4 : IntKind.i64.wrap (x + crP p q) = x + crP p q := IntWalk.i64_in _ (by omega)
      have q1 : IntKind.i64.wrap ((k : Int) + 1) = (k : Int) + 1 := IntWalk.i64_in _ (by omega)
      clear hc0 hd0 hpe hqe hb hcr hcb hb1 hx
      go_wp2
      generalize wr.alloc (.cells #[.int .i64 q.1, .int .i64 q.2] 57) = W at hc1 hb2 hx2 ⊢
      obtain ⟨a0, a1⟩ := X2.grown hc1
      obtain ⟨e0, e1⟩ := P2.grown hx2
      have HB2 := Lib.hid hb2
      refine wp_region_quiet_grown (by kernel_rfl) (by kernel_rfl) ?_
      repeat (go_big_quiet_step ((first | (go_at_call 93; refine Calls.grown_of (HQ.out _ _ _ (by assumption) (by assumption))))))
      refine wpQuiet_nil ?_
      intro _ hw'
      obtain ⟨⟨nq, osq⟩, hw''⟩ := hw'
      subst hw''
      clear a0 a1 e0 e1 w4
      go_wp2
      clear q1
      go_roundw
      case rel => exact ⟨k + 1, by omega, by go_num, by rw [HNX.out], bel2 HB2.out (grB _ _)⟩
      case measure => simp [intOf]; omega
    · obtain rfl : k = ne := by omega
      go_wp2
      go_ret
      exact ⟨ret_i64 HEND.out.symm, bel2 b1 hb⟩
end Go.Proofs.Ytoecjdpeldcajaa

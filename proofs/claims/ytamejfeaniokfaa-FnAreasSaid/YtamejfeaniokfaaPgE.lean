/-
  Edges, areas and points of the boundary, of the program and of the model: what the calls return.
  Conditions: the slice reads as the list that is named; coordinates are small where a contract names them.
-/
import Derived.Test.YtamejfeaniokfaaPgI
import Derived.Test.YtamejfeaniokfaaGcd
namespace Go.Proofs.Ytamejfeaniokfaa
set_option linter.unusedSimpArgs false
set_option linter.unusedVariables false
open Go.ChangeShapes Go.WideShapes Go.ChangeAt Go.RowKit
open Go.Sort (grow)

/-- Edges as the model makes them, without those that lead nowhere. -/
def edM (l : List Pt) : Nat → List Pt
  | 0 => []
  | k + 1 => if eqB (pd l k) (nxP l k) = true then edM l k else edM l k ++ [edP l k]
theorem edM_len (l : List Pt) : ∀ k, (edM l k).length ≤ k
  | 0 => by simp [edM]
  | k + 1 => by
    have := edM_len l k
    unfold edM
    split
    · omega
    · simp; omega
theorem edM_eq {l : List Pt} (h : pgB l = true) : edM l l.length = edL l := by
  obtain ⟨h1, h2⟩ := (pgB_iff l).1 h
  have hl := ((ptsB_iff l).1 h1).1
  unfold edL
  split
  · next h0 =>
    rw [h0]
    have : nxP l 0 = pd l 0 := by unfold nxP; rw [h0]
    simp [edM, this, eqB]
  · next h0 =>
    have key : ∀ k, k ≤ l.length → edM l k = edT l k := by
      intro k
      induction k with
      | zero => intro _; simp [edM, edT]
      | succ k ih =>
        intro hk
        have hne := nx_ne h2 (by omega) k (by omega)
        rw [edM, if_neg (by rw [eqB_iff]; exact hne), ih (by omega), edT_next]
    exact key _ (Nat.le_refl _)
def arS (l : List Pt) : Nat → Int
  | 0 => 0
  | k + 1 => arS l k + crP (pd l k) (nxP l k)
def arL (l : List Pt) : Int := arS l l.length
theorem cr_sm {u v : Pt} (hu : Sm 1000 u) (hv : Sm 1000 v) : -2000000 ≤ crP u v ∧ crP u v ≤ 2000000 := by
  have := crP_bd hu hv
  unfold crP; omega
theorem arS_bd {l : List Pt} (h : ∀ q ∈ l, Sm 1000 q) : ∀ k, k ≤ l.length → -(2000000 * (k : Int)) ≤ arS l k ∧ arS l k ≤ 2000000 * (k : Int)
  | 0, _ => by simp [arS]
  | k + 1, hk => by
    have ih := arS_bd h k (by omega)
    have := cr_sm (h _ (pd_mem (show k < l.length by omega))) (nx_sm h (by omega) k)
    rw [arS]; omega
theorem crP_ed (l : List Pt) (k : Nat) : crP (pd l k) (edP l k) = crP (pd l k) (nxP l k) := by unfold edP crP dfP; grind
theorem gI_bd (a b : Int) : 0 ≤ gI a b ∧ gI a b ≤ (a.natAbs : Int) + b.natAbs := by
  unfold gI
  refine ⟨by omega, ?_⟩
  by_cases h : b = 0
  · subst h; simp [Int.gcd]
  · have := gI_le (n := a) h
    unfold gI at this; omega
def bnS (E : List Pt) : Nat → Int
  | 0 => 0
  | k + 1 => bnS E k + gI (pd E k).1 (pd E k).2
theorem bnS_bd {E : List Pt} (h : ∀ q ∈ E, Sm 2000 q) : ∀ k, k ≤ E.length → 0 ≤ bnS E k ∧ bnS E k ≤ 4000 * (k : Int)
  | 0, _ => by simp [bnS]
  | k + 1, hk => by
    have ih := bnS_bd h k (by omega)
    have h1 := gI_bd (pd E k).1 (pd E k).2
    have h2 := h _ (pd_mem (show k < E.length by omega))
    unfold Sm at h2
    rw [bnS]; omega
def bnT (l : List Pt) : Int := bnS (edL l) (edL l).length
def bnL (l : List Pt) : Int := if l.length ≤ 2 then (bnT l).tdiv 2 + 1 else bnT l
theorem edL_le (l : List Pt) : (edL l).length ≤ l.length := by
  unfold edL
  split
  · simp
  · rw [edT_len]; exact Nat.le_refl _
theorem bnT_bd {l : List Pt} (h : ∀ q ∈ l, Sm 1000 q) : 0 ≤ bnT l ∧ bnT l ≤ 4000 * (l.length : Int) := by
  have h1 := bnS_bd (edL_sm h) (edL l).length (Nat.le_refl _)
  have h2 := edL_le l
  unfold bnT; omega
theorem bnT_one {l : List Pt} (h : l.length = 1) : bnT l = 0 := by
  unfold bnT edL; rw [if_pos h]; rfl
theorem pg_sm {l : List Pt} (h : pgB l = true) : (∀ q ∈ l, Sm 1000 q) ∧ 1 ≤ l.length ∧ l.length ≤ 40 := by
  obtain ⟨h1, -⟩ := (pgB_iff l).1 h
  have h2 := (ptsB_iff l).1 h1
  exact ⟨fun q hq => (pts_sm h1 q hq).mono (by omega), h2.1, h2.2.1⟩
def daR (l : List Pt) : Int := if pgB l = true then arL l else 0
def bnR (l : List Pt) : Int := if pgB l = true then bnL l else 0
def inL (l : List Pt) : Int := if l.length ≤ 2 then 0 else (arL l - bnL l + 2).tdiv 2
def inR (l : List Pt) : Int := if pgB l = true then inL l else 0
def edR (l : List Pt) : List Pt := if pgB l = true then edL l else []
theorem daR_yes {l : List Pt} (h : pgB l = true) : daR l = arL l := if_pos h
theorem daR_no {l : List Pt} (h : pgB l = false) : daR l = 0 := if_neg (by simp [h])
theorem bnR_yes {l : List Pt} (h : pgB l = true) : bnR l = bnL l := if_pos h
theorem bnR_no {l : List Pt} (h : pgB l = false) : bnR l = 0 := if_neg (by simp [h])
theorem inR_yes {l : List Pt} (h : pgB l = true) : inR l = inL l := if_pos h
theorem inR_no {l : List Pt} (h : pgB l = false) : inR l = 0 := if_neg (by simp [h])
theorem edR_yes {l : List Pt} (h : pgB l = true) : edR l = edL l := if_pos h
theorem edR_no {l : List Pt} (h : pgB l = false) : edR l = [] := if_neg (by simp [h])
def GivesZB (x : Int) (b : Bool) (w : World) (e : Ending) (w' : World) : Prop := e = .returned (.tuple #[.int .i64 x, .bool b]) ∧ Below w.heap.size w w'
theorem givesZB_no {x : Int} {b : Bool} {w w' : World} (h1 : x = 0) (h2 : b = false) (hb : Below w.heap.size w w') : GivesZB x b w (.returned (.tuple #[.int .i64 0, .bool false])) w' := by
  subst h1; subst h2; exact ⟨rfl, hb⟩
theorem givesZB_yes {x y : Int} {b : Bool} {w w' : World} (h1 : x = y) (h2 : b = true) (hb : Below w.heap.size w w') : GivesZB x b w (.returned (.tuple #[.int .i64 y, .bool true])) w' := by
  subst h1; subst h2; exact ⟨rfl, hb⟩
set_option maxHeartbeats 2000000 in
set_option maxRecDepth 100000 in
theorem pyEdges_any (w : World) (B : Nat) (v : Value) (l : List Pt) (h : PtS w B v l) (hg : pgB l = true) : Calls Try.prog 54 #[v] w fun e w' => GivesPt (edL l) w e w' := by
  obtain ⟨hsm, h0, hz⟩ := pg_sm hg
  have HSM := Lib.hid hsm
  have HE := Lib.hid (edM_eq hg)
  obtain ⟨A, cap, rfl, hm, hp⟩ := PtS.parts h
  have HP := Lib.hid hp
  obtain ⟨n, hn⟩ : ∃ n, n = l.length := ⟨_, rfl⟩
  have HN := Lib.hid hn
  rw [← hn] at h0 hz ⊢
  clear hp h hn hm hsm hg
  go_enter Try.func54, Try.ntmps54
  go_wp2
  go_loopw [3, 9] (fun o i wr => ∃ k : Nat, k ≤ n ∧ i = .int .i64 k ∧ PtS wr w.heap.size o (edM l k) ∧ Below w.heap.size w wr) (fun _ i _ => n - (intOf i).toNat)
  case atStart => exact ⟨0, by omega, rfl, FS.nil_ _ _ _ _, Below.refl _ _⟩
  case round =>
    obtain ⟨k, hk, rfl, ho, hb⟩ := hrel
    by_cases hlt : k < n
    · have hkl : k < l.length := by rw [← HN.out]; exact hlt
      obtain ⟨m, hm⟩ : ∃ m, m = (k + 1) % n := ⟨_, rfl⟩
      have HMM := Lib.hid (show ((k : Int) + 1).tmod (n : Int) = (m : Int) by rw [rem_nat, hm])
      have hmn : m < n := by rw [hm]; exact Nat.mod_lt _ (by omega)
      obtain ⟨p, hpe⟩ : ∃ p, p = pd l k := ⟨_, rfl⟩
      obtain ⟨q, hqe⟩ : ∃ q, q = pd l m := ⟨_, rfl⟩
      have hnx : nxP l k = q := by unfold nxP; rw [← HN.out, ← hm, hqe]
      have HED := Lib.hid (show edP l k = dfP p q by unfold edP; rw [hnx, hpe])
      have hp1 : Sm 1000 p := by rw [hpe]; exact HSM.out _ (pd_mem hkl)
      have hq1 : Sm 1000 q := by rw [hqe]; exact HSM.out _ (pd_mem (by rw [← HN.out]; exact hmn))
      unfold Sm at hp1 hq1
      obtain ⟨g, rfl, hc0⟩ := HP.out k hkl
      obtain ⟨g', hg', hd0⟩ := HP.out m (by rw [← HN.out]; exact hmn)
      cases hg'
      rw [← hpe] at hc0
      rw [← hqe] at hd0
      obtain ⟨c0, c1⟩ := X2.below hc0 hb
      obtain ⟨d0, d1⟩ := X2.below hd0 hb
      have lg : g < wr.heap.size := cell_lt d0
      have w1 : IntKind.i64.wrap (q.1 - p.1) = q.1 - p.1 := IntWalk.i64_in _ (by omega)
      have w2 : IntKind.i64.wrap (q.2 - p.2) = q.2 - p.2 := IntWalk.i64_in _ (by omega)
      have q1 : IntKind.i64.wrap ((k : Int) + 1) = (k : Int) + 1 := IntWalk.i64_in _ (by omega)
      have q2 : ((k : Int) + 1).tmod (n : Int) = (m : Int) := HMM.out
      have q3 : ((n : Int) == 0) = false := by simp; omega
      have q4 : ¬ (n : Int) = 0 := by omega
      have q5 : IntKind.i64.wrap (m : Int) = (m : Int) := IntWalk.i64_in _ (by omega)
      have z1 : (0 : Int) ≤ (m : Int) := by omega
      have HB2 := Lib.hid ((hb.alloc hb.size (.cells #[.int .i64 p.1, .int .i64 p.2] 35)).alloc (by have := hb.size; simp; omega) (.cells #[.int .i64 q.1, .int .i64 q.2] 35))
      have HOA := Lib.hid (FS.alloc (FS.alloc ho (.cells #[.int .i64 p.1, .int .i64 p.2] 35)) (.cells #[.int .i64 q.1, .int .i64 q.2] 35))
      have hwr := hb.size
      have hel := edM_len l k
      have HLT := Lib.hid (fun g hg => (World.ownsRow.lt ho g hg).1)
      cases hsm : eqB p q
      · have hne : ∀ W, Sem.run Try.prog (binOp .neq 35 (ptV p) (ptV q)) W = .ok (.bool true) W := fun W => by rw [nePt, hsm]; rfl
        have HNX := Lib.hid (show edM l (k + 1) = edM l k ++ [dfP p q] by rw [edM, if_neg (by rw [hnx, ← hpe, hsm]; simp), HED.out])
        have hrow := FS.alloc HOA.out (.cells #[.int .i64 (q.1 - p.1), .int .i64 (q.2 - p.2)] 35)
        have hlit := P2.new ((wr.alloc (.cells #[.int .i64 p.1, .int .i64 p.2] 35)).alloc (.cells #[.int .i64 q.1, .int .i64 q.2] 35)) (dfP p q) 35
        rw [World.size_alloc, World.size_alloc] at hlit
        clear hsm hc0 hd0 hpe hqe hm hnx ho hb hp1 hq1
        go_wp2_with (at_builtin; refine wpList_append_pt _ rfl _ _ rfl w.heap.size _ (edM l k) rfl hrow (wr.heap.size + 1 + 1) (dfP p q) rfl hlit (by omega) (by simp; omega) ?_; intro v' w3 hown' hgrow)
        clear q1 q2 q5
        go_roundw
        case rel => exact ⟨k + 1, by omega, by go_num, by rw [HNX.out]; exact hown', (HB2.out.alloc (by simp; omega) _).grown hgrow (by simp; omega) HLT.out⟩
        case measure => simp [intOf]; omega
      · have hne : ∀ W, Sem.run Try.prog (binOp .neq 35 (ptV p) (ptV q)) W = .ok (.bool false) W := fun W => by rw [nePt, hsm]; rfl
        have HNX := Lib.hid (show edM l (k + 1) = edM l k by rw [edM, if_pos (by rw [hnx, ← hpe, hsm])])
        clear hsm hc0 hd0 hpe hqe hm hnx ho hb hp1 hq1
        go_wp2
        clear q1 q2 q5
        go_roundw
        case rel => exact ⟨k + 1, by omega, by go_num, by rw [HNX.out]; exact HOA.out, HB2.out⟩
        case measure => simp [intOf]; omega
    · obtain rfl : k = n := by omega
      have he := HE.out
      rw [← HN.out] at he
      rw [he] at ho
      clear he
      go_wp2
      go_ret
      exact ⟨_, rfl, ho, hb⟩
end Go.Proofs.Ytamejfeaniokfaa
/-
  Areas and points of the boundary and inside, of the program and of the model: what the calls return.
  Conditions: the slice reads as the list that is named; coordinates are small where a contract names them.
-/
namespace Go.Proofs.Ytamejfeaniokfaa
set_option linter.unusedSimpArgs false
set_option linter.unusedVariables false
open Go.ChangeShapes Go.WideShapes Go.ChangeAt Go.RowKit
open Go.Sort (grow)

set_option maxHeartbeats 2000000 in
set_option maxRecDepth 100000 in
theorem pyArea_any (w : World) (B : Nat) (v : Value) (l : List Pt) (h : PtS w B v l) (hz : l.length ≤ 100000) (hsm : ∀ q ∈ l, Sm 1000 q) : Calls Try.prog 27 #[v] w fun e w' => e = .returned (.int .i64 (arL l)) ∧ Below w.heap.size w w' := by
  have HSM := Lib.hid hsm
  have HBD := Lib.hid (fun k hk => arS_bd hsm k hk)
  obtain ⟨A, cap, rfl, hm, hp⟩ := PtS.parts h
  have HP := Lib.hid hp
  obtain ⟨n, hn⟩ : ∃ n, n = l.length := ⟨_, rfl⟩
  have HN := Lib.hid hn
  rw [← hn] at hz ⊢
  clear hp h hn hm hsm
  go_enter Try.func27, Try.ntmps27
  go_wp2
  go_loopw [3, 9] (fun o i wr => ∃ k : Nat, k ≤ n ∧ i = .int .i64 k ∧ o = .int .i64 (arS l k) ∧ Below w.heap.size w wr) (fun _ i _ => n - (intOf i).toNat)
  case atStart => exact ⟨0, by omega, rfl, rfl, Below.refl _ _⟩
  case round =>
    obtain ⟨k, hk, rfl, rfl, hb⟩ := hrel
    by_cases hlt : k < n
    · have hkl : k < l.length := by rw [← HN.out]; exact hlt
      obtain ⟨m, hm⟩ : ∃ m, m = (k + 1) % n := ⟨_, rfl⟩
      have HMM := Lib.hid (show ((k : Int) + 1).tmod (n : Int) = (m : Int) by rw [rem_nat, hm])
      have hmn : m < n := by rw [hm]; exact Nat.mod_lt _ (by omega)
      obtain ⟨p, hpe⟩ : ∃ p, p = pd l k := ⟨_, rfl⟩
      obtain ⟨q, hqe⟩ : ∃ q, q = pd l m := ⟨_, rfl⟩
      have hnx : nxP l k = q := by unfold nxP; rw [← HN.out, ← hm, hqe]
      have hp1 : Sm 1000 p := by rw [hpe]; exact HSM.out _ (pd_mem hkl)
      have hq1 : Sm 1000 q := by rw [hqe]; exact HSM.out _ (pd_mem (by rw [← HN.out]; exact hmn))
      have hcr := crP_bd hp1 hq1
      have hb1 := HBD.out k (by omega)
      obtain ⟨x, hx⟩ : ∃ x, x = arS l k := ⟨_, rfl⟩
      have HNX := Lib.hid (show arS l (k + 1) = x + (p.1 * q.2 - p.2 * q.1) by rw [arS, hnx, ← hpe, hx]; rfl)
      rw [← hx] at hb1 ⊢
      obtain ⟨g, rfl, hc0⟩ := HP.out k hkl
      obtain ⟨g', hg', hd0⟩ := HP.out m (by rw [← HN.out]; exact hmn)
      cases hg'
      rw [← hpe] at hc0
      rw [← hqe] at hd0
      obtain ⟨c0, c1⟩ := X2.below hc0 hb
      obtain ⟨d0, d1⟩ := X2.below hd0 hb
      have lg : g < wr.heap.size := cell_lt d0
      have HB2 := Lib.hid ((hb.alloc hb.size (.cells #[.int .i64 p.1, .int .i64 p.2] 35)).alloc (by have := hb.size; simp; omega) (.cells #[.int .i64 q.1, .int .i64 q.2] 35))
      have w1 : IntKind.i64.wrap (p.1 * q.2) = p.1 * q.2 := IntWalk.i64_in _ (by omega)
      have w2 : IntKind.i64.wrap (p.2 * q.1) = p.2 * q.1 := IntWalk.i64_in _ (by omega)
      have w3 : IntKind.i64.wrap (p.1 * q.2 - p.2 * q.1) = p.1 * q.2 - p.2 * q.1 := IntWalk.i64_in _ (by omega)
      have w4 : IntKind.i64.wrap (x + (p.1 * q.2 - p.2 * q.1)) = x + (p.1 * q.2 - p.2 * q.1) := IntWalk.i64_in _ (by omega)
      have q1 : IntKind.i64.wrap ((k : Int) + 1) = (k : Int) + 1 := IntWalk.i64_in _ (by omega)
      have q2 : ((k : Int) + 1).tmod (n : Int) = (m : Int) := HMM.out
      have q3 : ((n : Int) == 0) = false := by simp; omega
      have q4 : ¬ (n : Int) = 0 := by omega
      have q5 : IntKind.i64.wrap (m : Int) = (m : Int) := IntWalk.i64_in _ (by omega)
      have z1 : (0 : Int) ≤ (m : Int) := by omega
      clear hc0 hd0 hpe hqe hm hnx hb hp1 hq1 hcr hb1 hx
      go_wp2
      clear q1 q2 q5 w1 w2 w3 w4
      go_roundw
      case rel => exact ⟨k + 1, by omega, by go_num, by rw [HNX.out], HB2.out⟩
      case measure => simp [intOf]; omega
    · obtain rfl : k = n := by omega
      have HE := Lib.hid (show arL l = arS l k by unfold arL; rw [HN.out])
      go_wp2
      go_ret
      exact ⟨ret_i64 HE.out.symm, hb⟩
set_option maxHeartbeats 2000000 in
set_option maxRecDepth 100000 in
theorem doubleAreaOf_any (w : World) (B : Nat) (v : Value) (l : List Pt) (h : PtS w B v l) (h0 : 0 < l.length) (hz : l.length ≤ 100000) (hsm : ∀ q ∈ l, Sm 1000 q) : Calls Try.prog 22 #[v] w fun e w' => e = .returned (.int .i64 (arL l)) ∧ Below w.heap.size w w' := by
  have HSM := Lib.hid hsm
  have HBD := Lib.hid (fun k hk => arS_bd hsm k hk)
  have H0 := Lib.hid h
  have HEL := Lib.hid (edL_le l)
  have HES := Lib.hid (edL_sm hsm)
  have HL1 := Lib.hid h0
  obtain ⟨A, cap, rfl, hm, hp⟩ := PtS.parts h
  have HP := Lib.hid hp
  obtain ⟨n, hn⟩ : ∃ n, n = l.length := ⟨_, rfl⟩
  have HN := Lib.hid hn
  have HQ := Lib.hid (fun u v W (hu : Sm 2000 u) (hv : Sm 2000 v) => cross_any u v W hu hv)
  rw [← hn] at hz ⊢
  clear hp h hn hm
  go_enter Try.func22, Try.ntmps22
  go_wp2_with fail
  refine (edgesOf_any _ B _ l (by rw [HN.out]; exact H0.out) h0 (by rw [← HN.out]; exact hz) hsm).mono ?_
  rintro e w1 ⟨ve, rfl, he, b1⟩
  obtain ⟨E, hE⟩ : ∃ E, E = edL l := ⟨_, rfl⟩
  rw [← hE] at he HEL HES
  obtain ⟨A', cap', rfl, -, hp'⟩ := PtS.parts he
  have HP' := Lib.hid hp'
  obtain ⟨ne, hne⟩ : ∃ ne, ne = E.length := ⟨_, rfl⟩
  have HNE := Lib.hid hne
  have hle : ne ≤ n := by rw [hne, HN.out]; exact HEL.out
  have HED := Lib.hid (fun (k : Nat) (hk : k < ne) => show pd E k = edP l k by
    rw [hne] at hk
    rw [hE] at hk ⊢
    unfold edL at hk ⊢
    split at hk
    · simp at hk
    · next h1 => rw [if_neg h1]; rw [edT_len] at hk; exact edT_pd l hk)
  have HEND := Lib.hid (show arL l = arS l ne by
    unfold arL
    by_cases h1 : l.length = 1
    · rw [hne, hE]; unfold edL; rw [if_pos h1, h1]
      have : nxP l 0 = pd l 0 := by unfold nxP; rw [h1]
      simp [arS, this, crP_self]
    · rw [hne, hE]; unfold edL; rw [if_neg h1, edT_len])
  rw [← hne]
  clear hE hne hp' he hsm h0
  go_wp2
  go_loopw [3, 9] (fun o i wr => ∃ k : Nat, k ≤ ne ∧ i = .int .i64 k ∧ o = .int .i64 (arS l k) ∧ Below w1.heap.size w1 wr) (fun _ i _ => ne - (intOf i).toNat)
  case atStart => exact ⟨0, by omega, rfl, rfl, Below.refl _ _⟩
  case round =>
    obtain ⟨k, hk, rfl, rfl, hb⟩ := hrel
    by_cases hlt : k < ne
    · have hkl : k < l.length := by rw [← HN.out]; omega
      have hkn : k < n := by omega
      obtain ⟨p, hpe⟩ : ∃ p, p = pd l k := ⟨_, rfl⟩
      obtain ⟨q, hqe⟩ : ∃ q, q = pd E k := ⟨_, rfl⟩
      have hp1 : Sm 2000 p := by rw [hpe]; exact (HSM.out _ (pd_mem hkl)).mono (by omega)
      have hq1 : Sm 2000 q := by rw [hqe]; exact HES.out _ (pd_mem (by rw [← HNE.out]; exact hlt))
      have hcr : crP p q = crP (pd l k) (nxP l k) := by rw [hpe, hqe, HED.out k hlt, crP_ed]
      have hcb := cr_sm (HSM.out _ (pd_mem hkl)) (nx_sm HSM.out HL1.out k)
      rw [← hcr] at hcb
      have hb1 := HBD.out k (by omega)
      obtain ⟨x, hx⟩ : ∃ x, x = arS l k := ⟨_, rfl⟩
      have HNX := Lib.hid (show arS l (k + 1) = x + crP p q by rw [arS, hcr, hx])
      rw [← hx] at hb1 ⊢
      obtain ⟨g, rfl, hc0⟩ := HP.out k hkl
      obtain ⟨g', rfl, hd0⟩ := HP'.out k (by rw [← HNE.out]; exact hlt)
      rw [← hpe] at hc0
      rw [← hqe] at hd0
      have hc1 := X2.below (X2.below (X2.below hc0 b1) hb) ((Below.refl _ _).alloc (Nat.le_refl _) (.cells #[.int .i64 q.1, .int .i64 q.2] 35))
      obtain ⟨d0, d1⟩ := X2.below hd0 hb
      have hb2 := hb.alloc hb.size (.cells #[.int .i64 q.1, .int .i64 q.2] 35)
      have hx2 := P2.new wr q 35
      have w4 : IntKind.i64.wrap (x + crP p q) = x + crP p q := IntWalk.i64_in _ (by omega)
      have q1 : IntKind.i64.wrap ((k : Int) + 1) = (k : Int) + 1 := IntWalk.i64_in _ (by omega)
      clear hc0 hd0 hpe hqe hb hcr hcb hb1 hx
      go_wp2
      generalize wr.alloc (.cells #[.int .i64 q.1, .int .i64 q.2] 35) = W at hc1 hb2 hx2 ⊢
      obtain ⟨a0, a1⟩ := X2.grown hc1
      obtain ⟨e0, e1⟩ := P2.grown hx2
      have HB2 := Lib.hid hb2
      refine wp_region_quiet_grown (by kernel_rfl) (by kernel_rfl) ?_
      repeat (go_big_quiet_step ((first | (go_at_call 44; refine Calls.grown_of (HQ.out _ _ _ (by assumption) (by assumption))))))
      refine wpQuiet_nil ?_
      intro _ hw'
      obtain ⟨⟨nq, osq⟩, hw''⟩ := hw'
      subst hw''
      clear a0 a1 e0 e1 w4
      go_wp2
      clear q1
      go_roundw
      case rel => exact ⟨k + 1, by omega, by go_num, by rw [HNX.out], bel2 HB2.out (grB _ _)⟩
      case measure => simp [intOf]; omega
    · obtain rfl : k = ne := by omega
      go_wp2
      go_ret
      exact ⟨ret_i64 HEND.out.symm, bel2 b1 hb⟩
theorem specDoubleArea_any (w : World) (B : Nat) (v : Value) (l : List Pt) (h : PtS w B v l) : Calls Try.prog 11 #[v] w fun e w' => GivesZB (daR l) (pgB l) w e w' := by
  have H := Lib.hid h
  clear h
  cases hq : pgB l
  · have HQ := Lib.hid hq
    clear hq
    go_enter Try.func11, Try.ntmps11
    go_wp2_with fail
    refine (pyGood_any _ B _ l H.out).mono ?_
    rintro e w1 ⟨rfl, b1⟩
    rw [HQ.out]
    go_wp2
    go_ret2
    exact givesZB_no (daR_no HQ.out) rfl b1
  · have HQ := Lib.hid hq
    obtain ⟨hsm, h0, hz⟩ := pg_sm hq
    clear hq
    go_enter Try.func11, Try.ntmps11
    go_wp2_with fail
    refine (pyGood_any _ B _ l H.out).mono ?_
    rintro e w1 ⟨rfl, b1⟩
    rw [HQ.out]
    have h1 := Lib.hid (FS.below H.out b1)
    go_wp2_with fail
    refine (pyArea_any _ B _ l h1.out (by omega) hsm).mono ?_
    rintro e w2 ⟨rfl, b2⟩
    go_wp2
    go_ret2
    exact givesZB_yes (daR_yes HQ.out) rfl (bel2 b1 b2)
theorem implDoubleArea_any (w : World) (B : Nat) (v : Value) (l : List Pt) (h : PtS w B v l) : Calls Try.prog 10 #[v] w fun e w' => GivesZB (daR l) (pgB l) w e w' := by
  have H := Lib.hid h
  clear h
  cases hq : pgB l
  · have HQ := Lib.hid hq
    clear hq
    go_enter Try.func10, Try.ntmps10
    go_wp2_with fail
    refine (implIsPolygon_any _ B _ l H.out).mono ?_
    rintro e w1 ⟨rfl, b1⟩
    rw [HQ.out]
    go_wp2
    go_ret2
    exact givesZB_no (daR_no HQ.out) rfl b1
  · have HQ := Lib.hid hq
    obtain ⟨hsm, h0, hz⟩ := pg_sm hq
    clear hq
    go_enter Try.func10, Try.ntmps10
    go_wp2_with fail
    refine (implIsPolygon_any _ B _ l H.out).mono ?_
    rintro e w1 ⟨rfl, b1⟩
    rw [HQ.out]
    have h1 := Lib.hid (FS.below H.out b1)
    go_wp2_with fail
    refine (doubleAreaOf_any _ B _ l h1.out (by omega) (by omega) hsm).mono ?_
    rintro e w2 ⟨rfl, b2⟩
    go_wp2
    go_ret2
    exact givesZB_yes (daR_yes HQ.out) rfl (bel2 b1 b2)
end Go.Proofs.Ytamejfeaniokfaa

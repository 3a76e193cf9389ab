/-
  EdgeLength of both.
-/
import Derived.Test.YtbapepflfgcioaaGreatEdP
namespace Go.Proofs.YtbapepflfgcioaaGreat
set_option linter.unusedSimpArgs false
set_option linter.unusedVariables false
open Go.ChangeShapes Go.WideShapes Go.ChangeAt Go.RowKit Go.Maps
open Go.Sort (grow)

def elB (l : List Tm) (i k : Int) : Bool := plB l && decide ([i, k] ∈ edM2 l 1)
def elR (l : List Tm) (i k : Int) : Int := if elB l i k = true then gI ((td l i.toNat).1 - (td l k.toNat).1) ((td l i.toNat).2.1 - (td l k.toNat).2.1) else 0
theorem elB_no {l : List Tm} (h : plB l = false) (i k : Int) : elB l i k = false := by unfold elB; rw [h]; rfl
theorem elB_yes {l : List Tm} (h : plB l = true) (i k : Int) : elB l i k = decide ([i, k] ∈ edM2 l 1) := by unfold elB; rw [h]; rfl
theorem elR_no {l : List Tm} {i k : Int} (h : elB l i k = false) : elR l i k = 0 := if_neg (by simp [h])
theorem el_at {l : List Tm} {i k : Int} (h : elB l i k = true) : ∃ a b : Nat, i = a ∧ k = b ∧ a < l.length ∧ b < l.length ∧ plT (td l a) = true ∧ plT (td l b) = true ∧ elR l i k = gI ((td l a).1 - (td l b).1) ((td l a).2.1 - (td l b).2.1) := by
  have h0 := h
  unfold elB at h0
  simp only [Bool.and_eq_true, decide_eq_true_eq] at h0
  obtain ⟨h1, h2⟩ := h0
  obtain ⟨a, b, q1, q2, e⟩ := ea_pair (List.mem_filter.1 h2).1
  simp only [List.cons.injEq, and_true] at e
  obtain ⟨rfl, rfl⟩ := e
  exact ⟨a, b, rfl, rfl, by omega, q2, plB_at h1 (by omega), plB_at h1 q2, if_pos h⟩
theorem plT_bd {t : Tm} (h : plT t = true) : (0 ≤ t.1 ∧ t.1 ≤ 6) ∧ (0 ≤ t.2.1 ∧ t.2.1 ≤ 6) := by
  have := plT_parts h
  omega
def GivesIL (x : Int) (b : Bool) (w : World) (e : Ending) (w' : World) : Prop := e = .returned (.tuple #[.int .i64 x, .bool b]) ∧ Below w.heap.size w w'
theorem ret_il {a b : Int} {c d : Bool} (h : a = b) (h' : c = d) : Ending.returned (.tuple #[.int .i64 a, .bool c]) = .returned (.tuple #[.int .i64 b, .bool d]) := by rw [h, h']
theorem stCommon_any (a b : Nat) (ha : a ≤ 1000000) (hb : b ≤ 1000000) (w : World) : Calls Tryz.prog 63 #[.int .i64 (a : Int), .int .i64 (b : Int)] w fun e w' => e = .returned (.int .i64 ((Nat.gcd a b : Nat) : Int)) ∧ w = w' := by
  obtain ⟨g, hg⟩ : ∃ g, g = Nat.gcd a b := ⟨_, rfl⟩
  rw [← hg]
  go_enter Tryz.func63, Tryz.ntmps63
  go_wp2
  go_loopw [0, 1] (fun x y wr => ∃ p q : Nat, x = .int .i64 p ∧ y = .int .i64 q ∧ p ≤ 1000000 ∧ q ≤ 1000000 ∧ Hid (Nat.gcd p q = g) ∧ w = wr) (fun _ y _ => (intOf y).toNat)
  case atStart => exact ⟨a, b, rfl, rfl, ha, hb, Lib.hid hg.symm, rfl⟩
  case round =>
    obtain ⟨p, q, rfl, rfl, hp, hq, hgc, rfl⟩ := hrel
    by_cases hz : q = 0
    · subst hz
      have HE := Lib.hid (show (p : Int) = (g : Int) by have := hgc.out; rw [Nat.gcd_zero_right] at this; omega)
      go_wp2
      go_ret
      exact ⟨ret_i64 HE.out, rfl⟩
    · obtain ⟨r, hr⟩ : ∃ r, r = p % q := ⟨_, rfl⟩
      have hrq : r < q := by rw [hr]; exact Nat.mod_lt _ (by omega)
      have HG := Lib.hid (show Nat.gcd q r = g by rw [hr, Nat.gcd_comm, ← Nat.gcd_rec, Nat.gcd_comm]; exact hgc.out)
      have q2 : (p : Int).tmod (q : Int) = (r : Int) := by rw [hr]; rfl
      have q3 : ((q : Int) == 0) = false := by simp; omega
      have q4 : ¬ (q : Int) = 0 := by omega
      have q5 : IntKind.i64.wrap (r : Int) = (r : Int) := IntWalk.i64_in _ (by omega)
      have q6 : ¬ q = 0 := hz
      have z1 : (0 : Int) < (q : Int) := by omega
      clear hr hgc
      go_wp2
      go_roundw
      case rel => exact ⟨q, r, rfl, rfl, by omega, by omega, HG, by first | rfl | trivial⟩
      case measure => simp [intOf]; omega
set_option maxHeartbeats 2000000 in
set_option maxRecDepth 100000 in
theorem specEdgeLength_any (w : World) (B : Nat) (v : Value) (l : List Tm) (i k : Int) (h : TmS w B v l) : Calls Tryz.prog 30 #[v, .int .i64 i, .int .i64 k] w fun e w' => GivesIL (elR l i k) (elB l i k) w e w' := by
  cases hl : plB l
  · have HL := Lib.hid hl
    have HN := Lib.hid (elB_no hl i k)
    clear hl
    go_enter Tryz.func30, Tryz.ntmps30
    go_wp2_with fail
    refine (plGood_any _ B _ l h).mono ?_
    rintro e w1 ⟨rfl, b1⟩
    rw [HL.out]
    go_wp2
    go_ret2
    exact ⟨ret_il (elR_no HN.out).symm HN.out.symm, b1⟩
  · have HL := Lib.hid hl
    have HY := Lib.hid (elB_yes hl i k)
    have HH := Lib.hid h
    clear hl
    go_enter Tryz.func30, Tryz.ntmps30
    go_wp2_with fail
    refine (plGood_any _ B _ l h).mono ?_
    rintro e w1 ⟨rfl, b1⟩
    rw [HL.out]
    go_wp2_with fail
    refine (ceEdges_any w1 B _ l false (FS.below h b1) HL.out).mono ?_
    rintro e w2 ⟨r, P, rfl, hLS, hP, b2⟩
    have hP' : lls P = edM2 l 1 := hP
    have H2 := Lib.hid (FS.below (FS.below h b1) b2)
    have HB := Lib.hid (bel2 b1 b2)
    have HEQ := Lib.hid (fun (j : Nat) (hj : j < P.length) => show pll P j ∈ edM2 l 1 by
      rw [← hP', ← lls_get hj (by rw [lls_len]; exact hj)]; exact List.getElem_mem _)
    have HIN := Lib.hid (fun (hm : [i, k] ∈ edM2 l 1) => show ∃ j, j < P.length ∧ pll P j = [i, k] by
      rw [← hP'] at hm
      obtain ⟨j, hj, e⟩ := List.getElem_of_mem hm
      have hj' : j < P.length := by rw [← lls_len]; exact hj
      exact ⟨j, hj', by rw [← e, lls_get hj' hj]⟩)
    obtain ⟨A, cap, rfl, -, hp⟩ := hLS.parts
    have HP := Lib.hid hp
    have HV := Lib.hid hLS.2
    have hle : P.length ≤ 144 := by rw [← lls_len, hP']; exact ed_few (plB_le HL.out).2 1
    obtain ⟨n, hn⟩ : ∃ n, n = P.length := ⟨_, rfl⟩
    have HN := Lib.hid hn
    rw [← hn] at hle ⊢
    obtain ⟨At, capt, rfl, -, -⟩ := TmS.parts h
    obtain ⟨nt, hnt⟩ : ∃ nt, nt = l.length := ⟨_, rfl⟩
    have HNT := Lib.hid hnt
    rw [← hnt]
    clear h b1 b2 hLS hP hP' hp hn hnt
    go_wp2
    go_loopw [16] (fun q wr => ∃ j : Nat, j ≤ n ∧ q = .int .i64 j ∧ Hid (∀ m, m < j → pll P m ≠ [i, k]) ∧ w2 = wr) (fun q _ => n - (intOf q).toNat)
    case atStart => exact ⟨0, by omega, rfl, Lib.hid (fun m hm => absurd hm (Nat.not_lt_zero m)), rfl⟩
    case round =>
      obtain ⟨j, hj, rfl, hno, rfl⟩ := hrel
      by_cases hlt : j < n
      · have hjp : j < P.length := by rw [← HN.out]; exact hlt
        obtain ⟨g, rfl, hc⟩ := HP.out j hjp
        have his := HV.out.at hjp
        have hmem := HEQ.out j hjp
        obtain ⟨a, c, q1, q2, hac⟩ := ea_pair (List.mem_filter.1 hmem).1
        rw [hac] at his
        obtain ⟨A3, cap3, hv, -, hp3⟩ := his.parts
        obtain ⟨g3, hA3, hc3⟩ := hp3 0 (by simp)
        obtain ⟨g4, hA4, hc4⟩ := hp3 1 (by simp)
        rw [hA3] at hA4
        cases hA4
        rw [hv, hA3] at hc
        have hc0 : w2.cell? ⟨g3, 0, none⟩ = some (.int .i64 (a : Int)) := hc3
        have hc1 : w2.cell? ⟨g3, 1, none⟩ = some (.int .i64 (c : Int)) := hc4
        have HAC := Lib.hid hac
        have HMEM := Lib.hid hmem
        have hcl : (Value.slice (some ⟨g3, 0, none⟩) [(a : Int), (c : Int)].length cap3) = .slice (some ⟨g3, 0, none⟩) 2 cap3 := rfl
        rw [hcl] at hc
        clear his hv hA3 hc3 hc4 hp3 hac hmem hcl
        by_cases he : i = a ∧ k = c
        · obtain ⟨rfl, rfl⟩ := he
          have HT := Lib.hid (show elB l a c = true from HY.out.trans (decide_eq_true (by have := HMEM.out; rw [HAC.out] at this; exact this)))
          obtain ⟨a', c', e1, e2, ha, hcq, pa, pc, hel⟩ := el_at HT.out
          obtain rfl : a = a' := by omega
          obtain rfl : c = c' := by omega
          obtain ⟨At', capt', ht1, -, htp⟩ := TmS.parts H2.out
          obtain ⟨gt, hg1, ht0⟩ := htp a ha
          obtain ⟨gt', hg2, hu0⟩ := htp c hcq
          simp only [Value.slice.injEq] at ht1
          obtain ⟨hat, -, -⟩ := ht1
          rw [hg1] at hg2
          cases hg2
          rw [hg1] at hat
          subst hat
          obtain ⟨x0, x1, x2⟩ := ht0
          obtain ⟨y0, y1, y2⟩ := hu0
          have ba := plT_bd pa
          have bc := plT_bd pc
          have HEL := Lib.hid hel
          obtain ⟨s, hs⟩ : ∃ s, s = td l a := ⟨_, rfl⟩
          obtain ⟨t, ht⟩ : ∃ t, t = td l c := ⟨_, rfl⟩
          rw [← hs] at x0 x1 ba HEL
          rw [← ht] at y0 y1 bc HEL
          have w1' : IntKind.i64.wrap (s.1 - t.1) = s.1 - t.1 := IntWalk.i64_in _ (by omega)
          have w2' : IntKind.i64.wrap (s.2.1 - t.2.1) = s.2.1 - t.2.1 := IntWalk.i64_in _ (by omega)
          have l1 : (a : Int) < (nt : Int) := by rw [HNT.out]; omega
          have l2 : (c : Int) < (nt : Int) := by rw [HNT.out]; omega
          have l3 : a < nt := by omega
          have l4 : c < nt := by omega
          have HQ1 := Lib.hid (fun k' => show Calls Tryz.prog 64 #[.int .i64 (s.1 - t.1)] (w2.drewN k') fun e w' => e = .returned (.int .i64 ((s.1 - t.1).natAbs : Int)) ∧ w' = w2.drewN k' from (l1Abs_any (s.1 - t.1) (w2.drewN k') (by unfold wide; omega)).mono fun e w' h => ⟨h.1, h.2.symm⟩)
          have HQ2 := Lib.hid (fun k' => show Calls Tryz.prog 64 #[.int .i64 (s.2.1 - t.2.1)] (w2.drewN k') fun e w' => e = .returned (.int .i64 ((s.2.1 - t.2.1).natAbs : Int)) ∧ w' = w2.drewN k' from (l1Abs_any (s.2.1 - t.2.1) (w2.drewN k') (by unfold wide; omega)).mono fun e w' h => ⟨h.1, h.2.symm⟩)
          have HQ3 := Lib.hid (fun k' => show Calls Tryz.prog 63 #[.int .i64 ((s.1 - t.1).natAbs : Int), .int .i64 ((s.2.1 - t.2.1).natAbs : Int)] (w2.drewN k') fun e w' => e = .returned (.int .i64 ((Nat.gcd (s.1 - t.1).natAbs (s.2.1 - t.2.1).natAbs : Nat) : Int)) ∧ w' = w2.drewN k' from (stCommon_any (s.1 - t.1).natAbs (s.2.1 - t.2.1).natAbs (by omega) (by omega) (w2.drewN k')).mono fun e w' h => ⟨h.1, h.2.symm⟩)
          have HG := Lib.hid (show ((Nat.gcd (s.1 - t.1).natAbs (s.2.1 - t.2.1).natAbs : Nat) : Int) = elR l a c from HEL.out.symm)
          clear hs ht x2 y2 pa pc hel ha hcq htp hno ba bc e1 e2
          go_wp2
          go_quiet (first | (with_reducible exact Calls.quiet_of_same (HQ1.out _)) | (with_reducible exact Calls.quiet_of_same (HQ2.out _)) | (with_reducible exact Calls.quiet_of_same (HQ3.out _)))
          go_wp2
          go_ret2
          exact ⟨ret_il HG.out HT.out.symm, belN HB.out _⟩
        · have HNX := Lib.hid (show ∀ m, m < j + 1 → pll P m ≠ [i, k] from fun m hm => by
            rcases Nat.lt_succ_iff_lt_or_eq.1 hm with h | rfl
            · exact hno.out m h
            · rw [HAC.out]; intro e; simp only [List.cons.injEq, and_true] at e; exact he ⟨e.1.symm, e.2.symm⟩)
          clear hno
          by_cases h1 : (a : Int) = i
          · have h2 : ¬ (c : Int) = k := fun h => he ⟨h1.symm, h.symm⟩
            go_wp2
            go_roundw
            case rel => exact ⟨j + 1, by omega, by go_num, HNX, by first | rfl | trivial⟩
            case measure => simp [intOf]; omega
          · go_wp2
            go_roundw
            case rel => exact ⟨j + 1, by omega, by go_num, HNX, by first | rfl | trivial⟩
            case measure => simp [intOf]; omega
      · obtain rfl : j = n := by omega
        have HF := Lib.hid (show elB l i k = false from HY.out.trans (decide_eq_false (fun hm => by
          obtain ⟨m, hm1, hm2⟩ := HIN.out hm
          exact hno.out m (by rw [HN.out]; exact hm1) hm2)))
        go_wp2
        go_ret2
        exact ⟨ret_il (elR_no HF.out).symm HF.out.symm, HB.out⟩
set_option maxRecDepth 100000 in
theorem pr_keyW {a b : Int} (wa : (Lit.int .i64 a).wf = true) (wb : (Lit.int .i64 b).wf = true) : keyOf Tryz.prog 59 (.agg #[.int .i64 a, .int .i64 b]) = some (prK [a, b]) := by
  have hs := Tryz.underlying59
  have hk : Tryz.prog.keyType 59 = true := by kernel_rfl
  have hc : Tryz.prog.cellsOf 59 = 2 := by kernel_rfl
  have hu := Tryz.underlying3
  have hci : Tryz.prog.cellsOf 3 = 1 := by kernel_rfl
  have hz : ∃ m, Tryz.prog.types.size = m + 1 := ⟨Tryz.prog.types.size - 1, by kernel_rfl⟩
  obtain ⟨m, hm⟩ := hz
  unfold keyOf
  simp only [hs]
  rw [if_pos (by simp [hk, Value.formed, hs, hc]), hm]
  unfold Program.keyLits
  simp only [hs, Value.cells]
  rw [if_pos (by rw [hc]; rfl)]
  rw [show List.range 2 = [0, 1] from rfl]
  simp only [List.mapM_cons, List.mapM_nil, hci]
  simp [Program.keyLits, hu, wa, wb, prK, gd]
theorem pr_injW {a b c d : Int} (wa : (Lit.int .i64 a).wf = true) (wb : (Lit.int .i64 b).wf = true) (wc : (Lit.int .i64 c).wf = true) (wd : (Lit.int .i64 d).wf = true) (h : prK [a, b] = prK [c, d]) : a = c ∧ b = d := by
  have := prKeyed.inj (pr_keyW wa wb) (by rw [h]; exact pr_keyW wc wd)
  simp only [Value.agg.injEq] at this
  have h1 : (#[Value.int .i64 a, Value.int .i64 b]).toList = (#[Value.int .i64 c, Value.int .i64 d]).toList := by rw [this]
  simpa using h1
theorem ed_look {l : List Tm} (h12 : l.length ≤ 12) {B b nn lo hi : Nat} {w : World} (h : EdI l B b (ceL l).length [] nn lo hi w) {i k : Int} (wi : (Lit.int .i64 i).wf = true) (wk : (Lit.int .i64 k).wf = true) :
    ∃ vv, (Instr.lookup 56 (.map (some b)) (.agg #[.int .i64 i, .int .i64 k]) true).run Tryz.prog w = .ok (.tuple #[vv, .bool (decide ([i, k] ∈ edM2 l 1))]) w := by
  obtain ⟨D, vf, hD1, hD2, hD3, -⟩ := h
  obtain ⟨es, clock, hb, F, hs, hD⟩ := hD1
  have hm : ∀ e, e ∈ edM2 l 1 ↔ clM l (ceL l).length [] e ≠ [] := fun e => by rw [edM2_mem (Nat.le_refl 1), clM_nil, clL_ne (Nat.le_refl _)]
  rcases Maps.fit_look true prKeyed Tryz.underlying56 (zeroS w) hb F (pr_keyW wi wk) with ⟨hrun, _, hat⟩ | ⟨e0, y, _, _, hrun, _, hat, _⟩
  · refine ⟨.slice none 0 0, hrun.trans ?_⟩
    rw [decide_eq_false (fun hin => by
      have h1 := (hD3 _ ((hm _).1 hin)).1 (.lit (.bool false))
      rw [hD, hat] at h1
      cases h1)]
    rfl
  · refine ⟨e0.val, hrun.trans ?_⟩
    have hh : has D (prK [i, k]) = true := by rw [hD]; exact has_true_of_atKey hat
    obtain ⟨e, he, hp⟩ := (hD2 _).1 hh
    have hea := clM_ea (Nat.le_refl _) (fun e he => absurd he (by simp)) he
    obtain ⟨a, c, q1, q2, rfl⟩ := ea_pair hea
    obtain ⟨rfl, rfl⟩ := pr_injW wi wk (wf_i64 (by omega)) (wf_i64 (by omega)) hp
    rw [decide_eq_true ((hm _).2 he)]
    rfl
end Go.Proofs.YtbapepflfgcioaaGreat
/-
  The program's EdgeLength.
  Condition: the slice reads as the terms that are named.
-/
namespace Go.Proofs.YtbapepflfgcioaaGreat
set_option linter.unusedSimpArgs false
set_option linter.unusedVariables false
open Go.ChangeShapes Go.WideShapes Go.ChangeAt Go.RowKit Go.Maps
open Go.Sort (grow)

/-- A new block of 2 integers: from block N on, it holds p. -/
def Bq (N : Nat) (w : World) (v : Value) (p : Pt) : Prop := ∃ g, v = .pointer (some ⟨g, 0, none⟩) ∧ N ≤ g ∧ w.heap[g]? = some (.cells #[.int .i64 p.1, .int .i64 p.2] 86 (0, 0))
theorem Bq.gr {N : Nat} {w w' : World} {v : Value} {p : Pt} (h : Bq N w v p) (hg : Below w.heap.size w w') : Bq N w' v p := by
  obtain ⟨g, h1, h2, h3⟩ := h
  exact ⟨g, h1, h2, (hg.block g (Array.getElem?_eq_some_iff.1 h3).1).trans h3⟩
theorem Bq.new {N : Nat} {w : World} (h : N ≤ w.heap.size) : Bq N (w.alloc (.cells #[.int .i64 0, .int .i64 0] 86)) (.pointer (some ⟨w.heap.size, 0, none⟩)) (0, 0) :=
  ⟨_, rfl, h, heap_alloc_new w _⟩
theorem Bq.ne_new {N : Nat} {w : World} {v : Value} {p : Pt} (h : Bq N w v p) : v ≠ .pointer (some ⟨w.heap.size, 0, none⟩) := by
  obtain ⟨g, rfl, h2, h3⟩ := h
  intro e
  have h4 := (Array.getElem?_eq_some_iff.1 h3).1
  simp only [Value.pointer.injEq, Option.some.injEq, Addr.mk.injEq] at e
  omega
theorem Bq.at {N g : Nat} {w : World} {p : Pt} (h : Bq N w (.pointer (some ⟨g, 0, none⟩)) p) : N ≤ g ∧ w.heap[g]? = some (.cells #[.int .i64 p.1, .int .i64 p.2] 86 (0, 0)) := by
  obtain ⟨g', h1, h2, h3⟩ := h
  simp only [Value.pointer.injEq, Option.some.injEq, Addr.mk.injEq] at h1
  obtain ⟨rfl, -⟩ := h1
  exact ⟨h2, h3⟩
theorem Bq.cells {N g : Nat} {w : World} {p : Pt} (h : Bq N w (.pointer (some ⟨g, 0, none⟩)) p) : (w.cell? ⟨g, 0, none⟩ = some (.int .i64 p.1) ∧ w.cell? ⟨g, 1, none⟩ = some (.int .i64 p.2)) ∧ w.frozen? ⟨g, 0, none⟩ = false ∧ w.frozen? ⟨g, 1, none⟩ = false := by
  have h3 := h.at.2
  refine ⟨⟨?_, ?_⟩, ?_, ?_⟩ <;> simp [World.cell?, World.frozen?, h3]
theorem Bq.put {N g : Nat} {w : World} {p : Pt} (h : Bq N w (.pointer (some ⟨g, 0, none⟩)) p) (q : Pt) : Bq N ((w.setCell ⟨g, 0, none⟩ (.int .i64 q.1)).setCell ⟨g, 1, none⟩ (.int .i64 q.2)) (.pointer (some ⟨g, 0, none⟩)) q := by
  obtain ⟨h1, h2⟩ := h.at
  exact ⟨g, rfl, h1, heap_set_at _ (heap_set_at _ h2)⟩
theorem Bq.off {N g : Nat} {w : World} {v : Value} {p : Pt} (h : Bq N w v p) (hne : v ≠ .pointer (some ⟨g, 0, none⟩)) {u0 u1 : Value} : Bq N ((w.setCell ⟨g, 0, none⟩ u0).setCell ⟨g, 1, none⟩ u1) v p := by
  obtain ⟨g', rfl, h2, h3⟩ := h
  have hn : g' ≠ g := fun e => hne (by rw [e])
  refine ⟨g', rfl, h2, ?_⟩
  iterate 2 rw [Below.heap_setCell _ _ _ g' hn]
  exact h3
abbrev actEl (q0 q1 q2 q3 q4 q5 q6 q7 q8 q9 q11 q12 q13 q14 q15 q16 q17 q18 q19 q20 q21 q22 q23 q24 q36 q37 q38 q39 q40 : Value) (s10 s25 s26 s27 s28 s29 s30 s31 s32 s33 s34 s35 : Value) : Act := { tmps := #[q0, q1, q2, q3, q4, q5, q6, q7, q8, q9, s10, q11, q12, q13, q14, q15, q16, q17, q18, q19, q20, q21, q22, q23, q24, s25, s26, s27, s28, s29, s30, s31, s32, s33, s34, s35, q36, q37, q38, q39, q40], defers := [] }
/-- What is known when some operations are done. -/
structure IvEl (x : World) (l : List Tm) (gt nt capt a c : Nat) (L : Array Bool) (s10 s25 s26 s27 s28 s29 s30 s31 s32 s33 s34 s35 : Value) (w : World) : Prop where
  z : L.size = 13
  bel : Below x.heap.size x w
  c0 : (L.getD 0 false = true) → s25 = .slice (some ⟨gt, 0, none⟩) nt capt
  c1 : (L.getD 1 false = true) → s26 = .int .i64 (a : Int)
  c2 : (L.getD 2 false = true) → s27 = .pointer (some ⟨gt, a * 3, none⟩)
  c3 : (L.getD 3 false = true) → s28 = tmV (td l a)
  c4 : (L.getD 4 false = true) → s29 = ptV (ptO (td l a))
  c5 : (L.getD 5 false = true) → s30 = .slice (some ⟨gt, 0, none⟩) nt capt
  c6 : (L.getD 6 false = true) → s31 = .int .i64 (c : Int)
  c7 : (L.getD 7 false = true) → s32 = .pointer (some ⟨gt, c * 3, none⟩)
  c8 : (L.getD 8 false = true) → s33 = tmV (td l c)
  c9 : (L.getD 9 false = true) → s34 = ptV (ptO (td l c))
  c10 : (L.getD 10 false = true) → s35 = ptV (dfP (ptO (td l a)) (ptO (td l c)))
  b11 : (L.getD 11 false = true) → ∃ p, Bq x.heap.size w s10 p
  f12 : (L.getD 12 false = true) → (L.getD 11 false = true)
  e12 : (L.getD 12 false = true) → Bq x.heap.size w s10 (dfP (ptO (td l a)) (ptO (td l c)))
theorem IvEl.start (x : World) (l : List Tm) (gt nt capt a c : Nat) (s10 s25 s26 s27 s28 s29 s30 s31 s32 s33 s34 s35 : Value) : IvEl x l gt nt capt a c (Array.replicate 13 false) s10 s25 s26 s27 s28 s29 s30 s31 s32 s33 s34 s35 x.drew where
  z := rfl
  bel := belD (Below.refl _ _)
  c0 := fun h => by simp at h
  c1 := fun h => by simp at h
  c2 := fun h => by simp at h
  c3 := fun h => by simp at h
  c4 := fun h => by simp at h
  c5 := fun h => by simp at h
  c6 := fun h => by simp at h
  c7 := fun h => by simp at h
  c8 := fun h => by simp at h
  c9 := fun h => by simp at h
  c10 := fun h => by simp at h
  b11 := fun h => by simp at h
  f12 := fun h => by simp at h
  e12 := fun h => by simp at h
theorem IvEl.o0 {x : World} {l : List Tm} {gt nt capt a c : Nat} {L : Array Bool} {s10 s25 s26 s27 s28 s29 s30 s31 s32 s33 s34 s35 : Value} {w : World} (H : IvEl x l gt nt capt a c L s10 s25 s26 s27 s28 s29 s30 s31 s32 s33 s34 s35 w)  : IvEl x l gt nt capt a c (L.setIfInBounds 0 true) s10 (.slice (some ⟨gt, 0, none⟩) nt capt) s26 s27 s28 s29 s30 s31 s32 s33 s34 s35 w where
  z := by rw [Array.size_setIfInBounds]; exact H.z
  bel := H.bel
  c0 := fun _ => rfl
  c1 := fun h => H.c1 (by rwa [getD_set_ne _ (by decide)] at h)
  c2 := fun h => H.c2 (by rwa [getD_set_ne _ (by decide)] at h)
  c3 := fun h => H.c3 (by rwa [getD_set_ne _ (by decide)] at h)
  c4 := fun h => H.c4 (by rwa [getD_set_ne _ (by decide)] at h)
  c5 := fun h => H.c5 (by rwa [getD_set_ne _ (by decide)] at h)
  c6 := fun h => H.c6 (by rwa [getD_set_ne _ (by decide)] at h)
  c7 := fun h => H.c7 (by rwa [getD_set_ne _ (by decide)] at h)
  c8 := fun h => H.c8 (by rwa [getD_set_ne _ (by decide)] at h)
  c9 := fun h => H.c9 (by rwa [getD_set_ne _ (by decide)] at h)
  c10 := fun h => H.c10 (by rwa [getD_set_ne _ (by decide)] at h)
  b11 := fun h => (H.b11 (by rwa [getD_set_ne _ (by decide)] at h))
  f12 := fun h => by rw [getD_set_ne _ (by decide)]; exact H.f12 (by rwa [getD_set_ne _ (by decide)] at h)
  e12 := fun h => (H.e12 (by rwa [getD_set_ne _ (by decide)] at h))
theorem IvEl.o1 {x : World} {l : List Tm} {gt nt capt a c : Nat} {L : Array Bool} {s10 s25 s26 s27 s28 s29 s30 s31 s32 s33 s34 s35 : Value} {w : World} (H : IvEl x l gt nt capt a c L s10 s25 s26 s27 s28 s29 s30 s31 s32 s33 s34 s35 w)  : IvEl x l gt nt capt a c (L.setIfInBounds 1 true) s10 s25 (.int .i64 (a : Int)) s27 s28 s29 s30 s31 s32 s33 s34 s35 w where
  z := by rw [Array.size_setIfInBounds]; exact H.z
  bel := H.bel
  c0 := fun h => H.c0 (by rwa [getD_set_ne _ (by decide)] at h)
  c1 := fun _ => rfl
  c2 := fun h => H.c2 (by rwa [getD_set_ne _ (by decide)] at h)
  c3 := fun h => H.c3 (by rwa [getD_set_ne _ (by decide)] at h)
  c4 := fun h => H.c4 (by rwa [getD_set_ne _ (by decide)] at h)
  c5 := fun h => H.c5 (by rwa [getD_set_ne _ (by decide)] at h)
  c6 := fun h => H.c6 (by rwa [getD_set_ne _ (by decide)] at h)
  c7 := fun h => H.c7 (by rwa [getD_set_ne _ (by decide)] at h)
  c8 := fun h => H.c8 (by rwa [getD_set_ne _ (by decide)] at h)
  c9 := fun h => H.c9 (by rwa [getD_set_ne _ (by decide)] at h)
  c10 := fun h => H.c10 (by rwa [getD_set_ne _ (by decide)] at h)
  b11 := fun h => (H.b11 (by rwa [getD_set_ne _ (by decide)] at h))
  f12 := fun h => by rw [getD_set_ne _ (by decide)]; exact H.f12 (by rwa [getD_set_ne _ (by decide)] at h)
  e12 := fun h => (H.e12 (by rwa [getD_set_ne _ (by decide)] at h))
theorem IvEl.o2 {x : World} {l : List Tm} {gt nt capt a c : Nat} {L : Array Bool} {s10 s25 s26 s27 s28 s29 s30 s31 s32 s33 s34 s35 : Value} {w : World} (H : IvEl x l gt nt capt a c L s10 s25 s26 s27 s28 s29 s30 s31 s32 s33 s34 s35 w)  : IvEl x l gt nt capt a c (L.setIfInBounds 2 true) s10 s25 s26 (.pointer (some ⟨gt, a * 3, none⟩)) s28 s29 s30 s31 s32 s33 s34 s35 w where
  z := by rw [Array.size_setIfInBounds]; exact H.z
  bel := H.bel
  c0 := fun h => H.c0 (by rwa [getD_set_ne _ (by decide)] at h)
  c1 := fun h => H.c1 (by rwa [getD_set_ne _ (by decide)] at h)
  c2 := fun _ => rfl
  c3 := fun h => H.c3 (by rwa [getD_set_ne _ (by decide)] at h)
  c4 := fun h => H.c4 (by rwa [getD_set_ne _ (by decide)] at h)
  c5 := fun h => H.c5 (by rwa [getD_set_ne _ (by decide)] at h)
  c6 := fun h => H.c6 (by rwa [getD_set_ne _ (by decide)] at h)
  c7 := fun h => H.c7 (by rwa [getD_set_ne _ (by decide)] at h)
  c8 := fun h => H.c8 (by rwa [getD_set_ne _ (by decide)] at h)
  c9 := fun h => H.c9 (by rwa [getD_set_ne _ (by decide)] at h)
  c10 := fun h => H.c10 (by rwa [getD_set_ne _ (by decide)] at h)
  b11 := fun h => (H.b11 (by rwa [getD_set_ne _ (by decide)] at h))
  f12 := fun h => by rw [getD_set_ne _ (by decide)]; exact H.f12 (by rwa [getD_set_ne _ (by decide)] at h)
  e12 := fun h => (H.e12 (by rwa [getD_set_ne _ (by decide)] at h))
theorem IvEl.o3 {x : World} {l : List Tm} {gt nt capt a c : Nat} {L : Array Bool} {s10 s25 s26 s27 s28 s29 s30 s31 s32 s33 s34 s35 : Value} {w : World} (H : IvEl x l gt nt capt a c L s10 s25 s26 s27 s28 s29 s30 s31 s32 s33 s34 s35 w)  : IvEl x l gt nt capt a c (L.setIfInBounds 3 true) s10 s25 s26 s27 (tmV (td l a)) s29 s30 s31 s32 s33 s34 s35 w where
  z := by rw [Array.size_setIfInBounds]; exact H.z
  bel := H.bel
  c0 := fun h => H.c0 (by rwa [getD_set_ne _ (by decide)] at h)
  c1 := fun h => H.c1 (by rwa [getD_set_ne _ (by decide)] at h)
  c2 := fun h => H.c2 (by rwa [getD_set_ne _ (by decide)] at h)
  c3 := fun _ => rfl
  c4 := fun h => H.c4 (by rwa [getD_set_ne _ (by decide)] at h)
  c5 := fun h => H.c5 (by rwa [getD_set_ne _ (by decide)] at h)
  c6 := fun h => H.c6 (by rwa [getD_set_ne _ (by decide)] at h)
  c7 := fun h => H.c7 (by rwa [getD_set_ne _ (by decide)] at h)
  c8 := fun h => H.c8 (by rwa [getD_set_ne _ (by decide)] at h)
  c9 := fun h => H.c9 (by rwa [getD_set_ne _ (by decide)] at h)
  c10 := fun h => H.c10 (by rwa [getD_set_ne _ (by decide)] at h)
  b11 := fun h => (H.b11 (by rwa [getD_set_ne _ (by decide)] at h))
  f12 := fun h => by rw [getD_set_ne _ (by decide)]; exact H.f12 (by rwa [getD_set_ne _ (by decide)] at h)
  e12 := fun h => (H.e12 (by rwa [getD_set_ne _ (by decide)] at h))
theorem IvEl.o4 {x : World} {l : List Tm} {gt nt capt a c : Nat} {L : Array Bool} {s10 s25 s26 s27 s28 s29 s30 s31 s32 s33 s34 s35 : Value} {w : World} (H : IvEl x l gt nt capt a c L s10 s25 s26 s27 s28 s29 s30 s31 s32 s33 s34 s35 w) {w' : World} (hg : Below w.heap.size w w') : IvEl x l gt nt capt a c (L.setIfInBounds 4 true) s10 s25 s26 s27 s28 (ptV (ptO (td l a))) s30 s31 s32 s33 s34 s35 w' where
  z := by rw [Array.size_setIfInBounds]; exact H.z
  bel := bel2 H.bel hg
  c0 := fun h => H.c0 (by rwa [getD_set_ne _ (by decide)] at h)
  c1 := fun h => H.c1 (by rwa [getD_set_ne _ (by decide)] at h)
  c2 := fun h => H.c2 (by rwa [getD_set_ne _ (by decide)] at h)
  c3 := fun h => H.c3 (by rwa [getD_set_ne _ (by decide)] at h)
  c4 := fun _ => rfl
  c5 := fun h => H.c5 (by rwa [getD_set_ne _ (by decide)] at h)
  c6 := fun h => H.c6 (by rwa [getD_set_ne _ (by decide)] at h)
  c7 := fun h => H.c7 (by rwa [getD_set_ne _ (by decide)] at h)
  c8 := fun h => H.c8 (by rwa [getD_set_ne _ (by decide)] at h)
  c9 := fun h => H.c9 (by rwa [getD_set_ne _ (by decide)] at h)
  c10 := fun h => H.c10 (by rwa [getD_set_ne _ (by decide)] at h)
  b11 := fun h => (H.b11 (by rwa [getD_set_ne _ (by decide)] at h)).imp fun _ k => k.gr hg
  f12 := fun h => by rw [getD_set_ne _ (by decide)]; exact H.f12 (by rwa [getD_set_ne _ (by decide)] at h)
  e12 := fun h => (H.e12 (by rwa [getD_set_ne _ (by decide)] at h)).gr hg
theorem IvEl.o5 {x : World} {l : List Tm} {gt nt capt a c : Nat} {L : Array Bool} {s10 s25 s26 s27 s28 s29 s30 s31 s32 s33 s34 s35 : Value} {w : World} (H : IvEl x l gt nt capt a c L s10 s25 s26 s27 s28 s29 s30 s31 s32 s33 s34 s35 w)  : IvEl x l gt nt capt a c (L.setIfInBounds 5 true) s10 s25 s26 s27 s28 s29 (.slice (some ⟨gt, 0, none⟩) nt capt) s31 s32 s33 s34 s35 w where
  z := by rw [Array.size_setIfInBounds]; exact H.z
  bel := H.bel
  c0 := fun h => H.c0 (by rwa [getD_set_ne _ (by decide)] at h)
  c1 := fun h => H.c1 (by rwa [getD_set_ne _ (by decide)] at h)
  c2 := fun h => H.c2 (by rwa [getD_set_ne _ (by decide)] at h)
  c3 := fun h => H.c3 (by rwa [getD_set_ne _ (by decide)] at h)
  c4 := fun h => H.c4 (by rwa [getD_set_ne _ (by decide)] at h)
  c5 := fun _ => rfl
  c6 := fun h => H.c6 (by rwa [getD_set_ne _ (by decide)] at h)
  c7 := fun h => H.c7 (by rwa [getD_set_ne _ (by decide)] at h)
  c8 := fun h => H.c8 (by rwa [getD_set_ne _ (by decide)] at h)
  c9 := fun h => H.c9 (by rwa [getD_set_ne _ (by decide)] at h)
  c10 := fun h => H.c10 (by rwa [getD_set_ne _ (by decide)] at h)
  b11 := fun h => (H.b11 (by rwa [getD_set_ne _ (by decide)] at h))
  f12 := fun h => by rw [getD_set_ne _ (by decide)]; exact H.f12 (by rwa [getD_set_ne _ (by decide)] at h)
  e12 := fun h => (H.e12 (by rwa [getD_set_ne _ (by decide)] at h))
theorem IvEl.o6 {x : World} {l : List Tm} {gt nt capt a c : Nat} {L : Array Bool} {s10 s25 s26 s27 s28 s29 s30 s31 s32 s33 s34 s35 : Value} {w : World} (H : IvEl x l gt nt capt a c L s10 s25 s26 s27 s28 s29 s30 s31 s32 s33 s34 s35 w)  : IvEl x l gt nt capt a c (L.setIfInBounds 6 true) s10 s25 s26 s27 s28 s29 s30 (.int .i64 (c : Int)) s32 s33 s34 s35 w where
  z := by rw [Array.size_setIfInBounds]; exact H.z
  bel := H.bel
  c0 := fun h => H.c0 (by rwa [getD_set_ne _ (by decide)] at h)
  c1 := fun h => H.c1 (by rwa [getD_set_ne _ (by decide)] at h)
  c2 := fun h => H.c2 (by rwa [getD_set_ne _ (by decide)] at h)
  c3 := fun h => H.c3 (by rwa [getD_set_ne _ (by decide)] at h)
  c4 := fun h => H.c4 (by rwa [getD_set_ne _ (by decide)] at h)
  c5 := fun h => H.c5 (by rwa [getD_set_ne _ (by decide)] at h)
  c6 := fun _ => rfl
  c7 := fun h => H.c7 (by rwa [getD_set_ne _ (by decide)] at h)
  c8 := fun h => H.c8 (by rwa [getD_set_ne _ (by decide)] at h)
  c9 := fun h => H.c9 (by rwa [getD_set_ne _ (by decide)] at h)
  c10 := fun h => H.c10 (by rwa [getD_set_ne _ (by decide)] at h)
  b11 := fun h => (H.b11 (by rwa [getD_set_ne _ (by decide)] at h))
  f12 := fun h => by rw [getD_set_ne _ (by decide)]; exact H.f12 (by rwa [getD_set_ne _ (by decide)] at h)
  e12 := fun h => (H.e12 (by rwa [getD_set_ne _ (by decide)] at h))
theorem IvEl.o7 {x : World} {l : List Tm} {gt nt capt a c : Nat} {L : Array Bool} {s10 s25 s26 s27 s28 s29 s30 s31 s32 s33 s34 s35 : Value} {w : World} (H : IvEl x l gt nt capt a c L s10 s25 s26 s27 s28 s29 s30 s31 s32 s33 s34 s35 w)  : IvEl x l gt nt capt a c (L.setIfInBounds 7 true) s10 s25 s26 s27 s28 s29 s30 s31 (.pointer (some ⟨gt, c * 3, none⟩)) s33 s34 s35 w where
  z := by rw [Array.size_setIfInBounds]; exact H.z
  bel := H.bel
  c0 := fun h => H.c0 (by rwa [getD_set_ne _ (by decide)] at h)
  c1 := fun h => H.c1 (by rwa [getD_set_ne _ (by decide)] at h)
  c2 := fun h => H.c2 (by rwa [getD_set_ne _ (by decide)] at h)
  c3 := fun h => H.c3 (by rwa [getD_set_ne _ (by decide)] at h)
  c4 := fun h => H.c4 (by rwa [getD_set_ne _ (by decide)] at h)
  c5 := fun h => H.c5 (by rwa [getD_set_ne _ (by decide)] at h)
  c6 := fun h => H.c6 (by rwa [getD_set_ne _ (by decide)] at h)
  c7 := fun _ => rfl
  c8 := fun h => H.c8 (by rwa [getD_set_ne _ (by decide)] at h)
  c9 := fun h => H.c9 (by rwa [getD_set_ne _ (by decide)] at h)
  c10 := fun h => H.c10 (by rwa [getD_set_ne _ (by decide)] at h)
  b11 := fun h => (H.b11 (by rwa [getD_set_ne _ (by decide)] at h))
  f12 := fun h => by rw [getD_set_ne _ (by decide)]; exact H.f12 (by rwa [getD_set_ne _ (by decide)] at h)
  e12 := fun h => (H.e12 (by rwa [getD_set_ne _ (by decide)] at h))
theorem IvEl.o8 {x : World} {l : List Tm} {gt nt capt a c : Nat} {L : Array Bool} {s10 s25 s26 s27 s28 s29 s30 s31 s32 s33 s34 s35 : Value} {w : World} (H : IvEl x l gt nt capt a c L s10 s25 s26 s27 s28 s29 s30 s31 s32 s33 s34 s35 w)  : IvEl x l gt nt capt a c (L.setIfInBounds 8 true) s10 s25 s26 s27 s28 s29 s30 s31 s32 (tmV (td l c)) s34 s35 w where
  z := by rw [Array.size_setIfInBounds]; exact H.z
  bel := H.bel
  c0 := fun h => H.c0 (by rwa [getD_set_ne _ (by decide)] at h)
  c1 := fun h => H.c1 (by rwa [getD_set_ne _ (by decide)] at h)
  c2 := fun h => H.c2 (by rwa [getD_set_ne _ (by decide)] at h)
  c3 := fun h => H.c3 (by rwa [getD_set_ne _ (by decide)] at h)
  c4 := fun h => H.c4 (by rwa [getD_set_ne _ (by decide)] at h)
  c5 := fun h => H.c5 (by rwa [getD_set_ne _ (by decide)] at h)
  c6 := fun h => H.c6 (by rwa [getD_set_ne _ (by decide)] at h)
  c7 := fun h => H.c7 (by rwa [getD_set_ne _ (by decide)] at h)
  c8 := fun _ => rfl
  c9 := fun h => H.c9 (by rwa [getD_set_ne _ (by decide)] at h)
  c10 := fun h => H.c10 (by rwa [getD_set_ne _ (by decide)] at h)
  b11 := fun h => (H.b11 (by rwa [getD_set_ne _ (by decide)] at h))
  f12 := fun h => by rw [getD_set_ne _ (by decide)]; exact H.f12 (by rwa [getD_set_ne _ (by decide)] at h)
  e12 := fun h => (H.e12 (by rwa [getD_set_ne _ (by decide)] at h))
theorem IvEl.o9 {x : World} {l : List Tm} {gt nt capt a c : Nat} {L : Array Bool} {s10 s25 s26 s27 s28 s29 s30 s31 s32 s33 s34 s35 : Value} {w : World} (H : IvEl x l gt nt capt a c L s10 s25 s26 s27 s28 s29 s30 s31 s32 s33 s34 s35 w) {w' : World} (hg : Below w.heap.size w w') : IvEl x l gt nt capt a c (L.setIfInBounds 9 true) s10 s25 s26 s27 s28 s29 s30 s31 s32 s33 (ptV (ptO (td l c))) s35 w' where
  z := by rw [Array.size_setIfInBounds]; exact H.z
  bel := bel2 H.bel hg
  c0 := fun h => H.c0 (by rwa [getD_set_ne _ (by decide)] at h)
  c1 := fun h => H.c1 (by rwa [getD_set_ne _ (by decide)] at h)
  c2 := fun h => H.c2 (by rwa [getD_set_ne _ (by decide)] at h)
  c3 := fun h => H.c3 (by rwa [getD_set_ne _ (by decide)] at h)
  c4 := fun h => H.c4 (by rwa [getD_set_ne _ (by decide)] at h)
  c5 := fun h => H.c5 (by rwa [getD_set_ne _ (by decide)] at h)
  c6 := fun h => H.c6 (by rwa [getD_set_ne _ (by decide)] at h)
  c7 := fun h => H.c7 (by rwa [getD_set_ne _ (by decide)] at h)
  c8 := fun h => H.c8 (by rwa [getD_set_ne _ (by decide)] at h)
  c9 := fun _ => rfl
  c10 := fun h => H.c10 (by rwa [getD_set_ne _ (by decide)] at h)
  b11 := fun h => (H.b11 (by rwa [getD_set_ne _ (by decide)] at h)).imp fun _ k => k.gr hg
  f12 := fun h => by rw [getD_set_ne _ (by decide)]; exact H.f12 (by rwa [getD_set_ne _ (by decide)] at h)
  e12 := fun h => (H.e12 (by rwa [getD_set_ne _ (by decide)] at h)).gr hg
theorem IvEl.o10 {x : World} {l : List Tm} {gt nt capt a c : Nat} {L : Array Bool} {s10 s25 s26 s27 s28 s29 s30 s31 s32 s33 s34 s35 : Value} {w : World} (H : IvEl x l gt nt capt a c L s10 s25 s26 s27 s28 s29 s30 s31 s32 s33 s34 s35 w) {w' : World} (hg : Below w.heap.size w w') : IvEl x l gt nt capt a c (L.setIfInBounds 10 true) s10 s25 s26 s27 s28 s29 s30 s31 s32 s33 s34 (ptV (dfP (ptO (td l a)) (ptO (td l c)))) w' where
  z := by rw [Array.size_setIfInBounds]; exact H.z
  bel := bel2 H.bel hg
  c0 := fun h => H.c0 (by rwa [getD_set_ne _ (by decide)] at h)
  c1 := fun h => H.c1 (by rwa [getD_set_ne _ (by decide)] at h)
  c2 := fun h => H.c2 (by rwa [getD_set_ne _ (by decide)] at h)
  c3 := fun h => H.c3 (by rwa [getD_set_ne _ (by decide)] at h)
  c4 := fun h => H.c4 (by rwa [getD_set_ne _ (by decide)] at h)
  c5 := fun h => H.c5 (by rwa [getD_set_ne _ (by decide)] at h)
  c6 := fun h => H.c6 (by rwa [getD_set_ne _ (by decide)] at h)
  c7 := fun h => H.c7 (by rwa [getD_set_ne _ (by decide)] at h)
  c8 := fun h => H.c8 (by rwa [getD_set_ne _ (by decide)] at h)
  c9 := fun h => H.c9 (by rwa [getD_set_ne _ (by decide)] at h)
  c10 := fun _ => rfl
  b11 := fun h => (H.b11 (by rwa [getD_set_ne _ (by decide)] at h)).imp fun _ k => k.gr hg
  f12 := fun h => by rw [getD_set_ne _ (by decide)]; exact H.f12 (by rwa [getD_set_ne _ (by decide)] at h)
  e12 := fun h => (H.e12 (by rwa [getD_set_ne _ (by decide)] at h)).gr hg
theorem IvEl.o11 {x : World} {l : List Tm} {gt nt capt a c : Nat} {L : Array Bool} {s10 s25 s26 s27 s28 s29 s30 s31 s32 s33 s34 s35 : Value} {w : World} (H : IvEl x l gt nt capt a c L s10 s25 s26 s27 s28 s29 s30 s31 s32 s33 s34 s35 w) (hN : L.getD 11 true = false) : IvEl x l gt nt capt a c (L.setIfInBounds 11 true) (.pointer (some ⟨w.heap.size, 0, none⟩)) s25 s26 s27 s28 s29 s30 s31 s32 s33 s34 s35 (w.alloc (.cells #[.int .i64 0, .int .i64 0] 86)) where
  z := by rw [Array.size_setIfInBounds]; exact H.z
  bel := belA1 H.bel _
  c0 := fun h => H.c0 (by rwa [getD_set_ne _ (by decide)] at h)
  c1 := fun h => H.c1 (by rwa [getD_set_ne _ (by decide)] at h)
  c2 := fun h => H.c2 (by rwa [getD_set_ne _ (by decide)] at h)
  c3 := fun h => H.c3 (by rwa [getD_set_ne _ (by decide)] at h)
  c4 := fun h => H.c4 (by rwa [getD_set_ne _ (by decide)] at h)
  c5 := fun h => H.c5 (by rwa [getD_set_ne _ (by decide)] at h)
  c6 := fun h => H.c6 (by rwa [getD_set_ne _ (by decide)] at h)
  c7 := fun h => H.c7 (by rwa [getD_set_ne _ (by decide)] at h)
  c8 := fun h => H.c8 (by rwa [getD_set_ne _ (by decide)] at h)
  c9 := fun h => H.c9 (by rwa [getD_set_ne _ (by decide)] at h)
  c10 := fun h => H.c10 (by rwa [getD_set_ne _ (by decide)] at h)
  b11 := fun _ => ⟨_, Bq.new H.bel.size⟩
  f12 := fun _ => getD_set_same H.z (by decide)
  e12 := fun h => (notl hN (H.f12 (by rwa [getD_set_ne _ (by decide)] at h))).elim
theorem IvEl.o12 {x : World} {l : List Tm} {gt nt capt a c : Nat} {L : Array Bool} {s10 s25 s26 s27 s28 s29 s30 s31 s32 s33 s34 s35 : Value} {w : World} (H : IvEl x l gt nt capt a c L s10 s25 s26 s27 s28 s29 s30 s31 s32 s33 s34 s35 w) (l11 : L.getD 11 false = true) {g : Nat} (hs : s10 = .pointer (some ⟨g, 0, none⟩)) {p : _} (hb : Bq x.heap.size w s10 p) (hge : x.heap.size ≤ g) : IvEl x l gt nt capt a c (L.setIfInBounds 12 true) s10 s25 s26 s27 s28 s29 s30 s31 s32 s33 s34 s35 ((w.setCell ⟨g, 0, none⟩ (.int .i64 (dfP (ptO (td l a)) (ptO (td l c))).1)).setCell ⟨g, 1, none⟩ (.int .i64 (dfP (ptO (td l a)) (ptO (td l c))).2)) where
  z := by rw [Array.size_setIfInBounds]; exact H.z
  bel := belS (belS (H.bel) hge _ _) hge _ _
  c0 := fun h => H.c0 (by rwa [getD_set_ne _ (by decide)] at h)
  c1 := fun h => H.c1 (by rwa [getD_set_ne _ (by decide)] at h)
  c2 := fun h => H.c2 (by rwa [getD_set_ne _ (by decide)] at h)
  c3 := fun h => H.c3 (by rwa [getD_set_ne _ (by decide)] at h)
  c4 := fun h => H.c4 (by rwa [getD_set_ne _ (by decide)] at h)
  c5 := fun h => H.c5 (by rwa [getD_set_ne _ (by decide)] at h)
  c6 := fun h => H.c6 (by rwa [getD_set_ne _ (by decide)] at h)
  c7 := fun h => H.c7 (by rwa [getD_set_ne _ (by decide)] at h)
  c8 := fun h => H.c8 (by rwa [getD_set_ne _ (by decide)] at h)
  c9 := fun h => H.c9 (by rwa [getD_set_ne _ (by decide)] at h)
  c10 := fun h => H.c10 (by rwa [getD_set_ne _ (by decide)] at h)
  b11 := fun _ => ⟨_, by rw [hs]; exact Bq.put (hs ▸ hb) (dfP (ptO (td l a)) (ptO (td l c)))⟩
  f12 := fun _ => by rw [getD_set_ne _ (by decide)]; exact l11
  e12 := fun _ => by rw [hs]; exact Bq.put (hs ▸ hb) _
set_option maxHeartbeats 2000000 in
set_option maxRecDepth 100000 in
theorem implEdgeLength_any (w : World) (B : Nat) (v : Value) (l : List Tm) (i k : Int) (h : TmS w B v l) (wi : (Lit.int .i64 i).wf = true) (wk : (Lit.int .i64 k).wf = true) : Calls Tryz.prog 31 #[v, .int .i64 i, .int .i64 k] w fun e w' => GivesIL (elR l i k) (elB l i k) w e w' := by
  cases hl : plB l
  · have HL := Lib.hid hl
    have HN := Lib.hid (elB_no hl i k)
    clear hl
    go_enter Tryz.func31, Tryz.ntmps31
    go_wp2_with fail
    refine (isPlane_any _ B _ l h).mono ?_
    rintro e w1 ⟨rfl, b1⟩
    rw [HL.out]
    go_wp2
    go_ret2
    exact ⟨ret_il (elR_no HN.out).symm HN.out.symm, b1⟩
  · have HL := Lib.hid hl
    have HY := Lib.hid (elB_yes hl i k)
    have HW := Lib.hid (And.intro wi wk)
    clear hl wi wk
    go_enter Tryz.func31, Tryz.ntmps31
    go_wp2_with fail
    refine (isPlane_any _ B _ l h).mono ?_
    rintro e w1 ⟨rfl, b1⟩
    rw [HL.out]
    go_wp2_with fail
    refine (cellsAtEdges_any w1 B _ l (FS.below h b1) HL.out).mono ?_
    rintro e w2 ⟨b, nn, lo, hi, rfl, -, -, hE, b2⟩
    have H2 := Lib.hid (FS.below (FS.below h b1) b2)
    have HB := Lib.hid (bel2 b1 b2)
    obtain ⟨vv, hlook⟩ := ed_look (plB_le HL.out).2 hE HW.out.1 HW.out.2
    rw [← HY.out] at hlook
    obtain ⟨At, capt, rfl, -, -⟩ := TmS.parts h
    obtain ⟨nt, hnt⟩ : ∃ nt, nt = l.length := ⟨_, rfl⟩
    have HNT := Lib.hid hnt
    rw [← hnt]
    clear h b1 b2 hE hnt
    cases hq : elB l i k
    · have HF := Lib.hid hq
      rw [hq] at hlook
      clear hq
      go_wp2
      go_ret2
      exact ⟨ret_il (elR_no HF.out).symm HF.out.symm, HB.out⟩
    · rw [hq] at hlook
      have HF := Lib.hid hq
      obtain ⟨a, c, rfl, rfl, ha, hc, pa, pc, hel⟩ := el_at hq
      obtain ⟨At', capt', ht1, -, htp⟩ := TmS.parts H2.out
      obtain ⟨gt, hg1, ht0⟩ := htp a ha
      obtain ⟨gt', hg2, hu0⟩ := htp c hc
      simp only [Value.slice.injEq] at ht1
      obtain ⟨hat, -, -⟩ := ht1
      rw [hg1] at hg2
      cases hg2
      rw [hg1] at hat
      subst hat
      have HEL := Lib.hid hel
      have HA := Lib.hid (ptO_sm pa)
      have HC := Lib.hid (ptO_sm pc)
      have ba := plT_bd pa
      have bc := plT_bd pc
      have HQ1 := Lib.hid (fun W => show Calls Tryz.prog 67 #[tmV (td l a)] W fun e w' => e = .returned (ptV (ptO (td l a))) ∧ Gr W w' from pointOf_any (td l a) W)
      have HQ2 := Lib.hid (fun W => show Calls Tryz.prog 67 #[tmV (td l c)] W fun e w' => e = .returned (ptV (ptO (td l c))) ∧ Gr W w' from pointOf_any (td l c) W)
      have HQ3 := Lib.hid (fun W => stepTo_any (ptO (td l a)) (ptO (td l c)) W (ptO_sm pa) (ptO_sm pc))
      have HX := Lib.hid (And.intro ht0 hu0)
      have l1 : (a : Int) < (nt : Int) := by rw [HNT.out]; omega
      have l2 : (c : Int) < (nt : Int) := by rw [HNT.out]; omega
      have l3 : a < nt := by rw [HNT.out]; omega
      have l4 : c < nt := by rw [HNT.out]; omega
      clear hq ha hc pa pc hel htp ht0 hu0
      go_wp2
      refine wp_region_inv (by kernel_rfl) (fun L a' w' => ∃ s10 s25 s26 s27 s28 s29 s30 s31 s32 s33 s34 s35, a' = actEl (Value.slice (some { block := gt, off := 0 }) nt capt) (Value.int IntKind.i64 ↑a) (Value.int IntKind.i64 ↑c) undef undef undef (Value.int IntKind.i64 0) (Value.bool false) vv (Value.bool true) (Value.slice (some { block := gt, off := 0 }) nt capt) (Value.bool true) (Value.bool false) (Value.tuple #[vv, Value.bool true]) (Value.slice (some { block := gt, off := 0 }) nt capt) (Value.map (some b)) (Value.int IntKind.i64 ↑a) (Value.int IntKind.i64 ↑c) (Value.agg #[Value.int IntKind.i64 ↑a, Value.int IntKind.i64 ↑c]) (Value.tuple #[vv, Value.bool true]) vv (Value.bool true) (Value.bool true) (Value.bool false) undef undef undef undef undef s10 s25 s26 s27 s28 s29 s30 s31 s32 s33 s34 s35 ∧ IvEl w2 l gt nt capt a c L s10 s25 s26 s27 s28 s29 s30 s31 s32 s33 s34 s35 w') ?_ ?_ ?_
      · exact ⟨_, _, _, _, _, _, _, _, _, _, _, _, rfl, IvEl.start w2 l gt nt capt a c _ _ _ _ _ _ _ _ _ _ _ _ ⟩
      · rintro L a' w' i ⟨s10, s25, s26, s27, s28, s29, s30, s31, s32, s33, s34, s35, rfl, H⟩ hi
        obtain ⟨hL, o, ho, haf⟩ := mem_ready.1 hi
        have hiN : i < 13 := (Array.getElem?_eq_some_iff.1 ho).1
        clear hi
        obtain ⟨⟨a0, a1, a2⟩, c0, c1, c2⟩ := And.intro (X3.below HX.out.1 H.bel) (X3.below HX.out.2 H.bel)
        have hcs : i = 0 ∨ i = 1 ∨ i = 2 ∨ i = 3 ∨ i = 4 ∨ i = 5 ∨ i = 6 ∨ i = 7 ∨ i = 8 ∨ i = 9 ∨ i = 10 ∨ i = 11 ∨ i = 12 := by omega
        rcases hcs with rfl | rfl | rfl | rfl | rfl | rfl | rfl | rfl | rfl | rfl | rfl | rfl | rfl
        · cases ho
          refine wpOp_step rfl fun K' hK => ?_
          rw [if_pos (by rfl)]
          go_simp
          exact hK _ _ ⟨_, _, _, _, _, _, _, _, _, _, _, _, rfl, H.o0⟩
        · cases ho
          refine wpOp_step rfl fun K' hK => ?_
          rw [if_pos (by rfl)]
          go_simp
          exact hK _ _ ⟨_, _, _, _, _, _, _, _, _, _, _, _, rfl, H.o1⟩
        · cases ho
          have e0 := H.c0 (haf_of haf 0 (by kernel_rfl))
          subst e0
          have e1 := H.c1 (haf_of haf 1 (by kernel_rfl))
          subst e1
          refine wpOp_step rfl fun K' hK => ?_
          rw [if_pos (by rfl)]
          go_simp
          exact hK _ _ ⟨_, _, _, _, _, _, _, _, _, _, _, _, rfl, H.o2⟩
        · cases ho
          have e2 := H.c2 (haf_of haf 2 (by kernel_rfl))
          subst e2
          refine wpOp_step rfl fun K' hK => ?_
          rw [if_pos (by rfl)]
          go_simp
          exact hK _ _ ⟨_, _, _, _, _, _, _, _, _, _, _, _, rfl, H.o3⟩
        · cases ho
          have e3 := H.c3 (haf_of haf 3 (by kernel_rfl))
          subst e3
          refine wpOp_step rfl fun K' hK => ?_
          rw [if_pos (by rfl)]
          go_simp
          refine (HQ1.out _).mono ?_
          rintro e w1 ⟨rfl, hg⟩
          exact hK _ _ ⟨_, _, _, _, _, _, _, _, _, _, _, _, rfl, H.o4 hg.below⟩
        · cases ho
          refine wpOp_step rfl fun K' hK => ?_
          rw [if_pos (by rfl)]
          go_simp
          exact hK _ _ ⟨_, _, _, _, _, _, _, _, _, _, _, _, rfl, H.o5⟩
        · cases ho
          refine wpOp_step rfl fun K' hK => ?_
          rw [if_pos (by rfl)]
          go_simp
          exact hK _ _ ⟨_, _, _, _, _, _, _, _, _, _, _, _, rfl, H.o6⟩
        · cases ho
          have e5 := H.c5 (haf_of haf 5 (by kernel_rfl))
          subst e5
          have e6 := H.c6 (haf_of haf 6 (by kernel_rfl))
          subst e6
          refine wpOp_step rfl fun K' hK => ?_
          rw [if_pos (by rfl)]
          go_simp
          exact hK _ _ ⟨_, _, _, _, _, _, _, _, _, _, _, _, rfl, H.o7⟩
        · cases ho
          have e7 := H.c7 (haf_of haf 7 (by kernel_rfl))
          subst e7
          refine wpOp_step rfl fun K' hK => ?_
          rw [if_pos (by rfl)]
          go_simp
          exact hK _ _ ⟨_, _, _, _, _, _, _, _, _, _, _, _, rfl, H.o8⟩
        · cases ho
          have e8 := H.c8 (haf_of haf 8 (by kernel_rfl))
          subst e8
          refine wpOp_step rfl fun K' hK => ?_
          rw [if_pos (by rfl)]
          go_simp
          refine (HQ2.out _).mono ?_
          rintro e w1 ⟨rfl, hg⟩
          exact hK _ _ ⟨_, _, _, _, _, _, _, _, _, _, _, _, rfl, H.o9 hg.below⟩
        · cases ho
          have e4 := H.c4 (haf_of haf 4 (by kernel_rfl))
          subst e4
          have e9 := H.c9 (haf_of haf 9 (by kernel_rfl))
          subst e9
          refine wpOp_step rfl fun K' hK => ?_
          rw [if_pos (by rfl)]
          go_simp
          refine (HQ3.out _).mono ?_
          rintro e w1 ⟨rfl, hg⟩
          exact hK _ _ ⟨_, _, _, _, _, _, _, _, _, _, _, _, rfl, H.o10 hg.below⟩
        · refine wpOp_step rfl fun K' hK => ?_
          rw [if_pos (by rfl)]
          go_simp
          exact hK _ _ ⟨_, _, _, _, _, _, _, _, _, _, _, _, rfl, H.o11 hL⟩
        · cases ho
          have l11 : L.getD 11 false = true := (haf_of haf 11 (by kernel_rfl))
          have e0 := H.c10 (haf_of haf 10 (by kernel_rfl))
          obtain ⟨p, hb⟩ := H.b11 l11
          obtain ⟨g, hs, hge, -⟩ := id hb
          subst e0
          subst hs
          obtain ⟨⟨k0, k1⟩, f0, f1⟩ := hb.cells
          refine wpOp_step rfl fun K' hK => ?_
          rw [if_pos (by rfl)]
          go_simp
          exact hK _ _ ⟨_, _, _, _, _, _, _, _, _, _, _, _, rfl, H.o12 l11 rfl hb hge⟩
      · rintro L a' w' ⟨s10, s25, s26, s27, s28, s29, s30, s31, s32, s33, s34, s35, rfl, H⟩ hr
        have hall := ready_nil H.z (by kernel_rfl) hr
        have h12 := H.e12 (hall 12 (by decide))
        have hB := H.bel
        obtain ⟨g, hs, hge, -⟩ := id h12
        subst hs
        obtain ⟨⟨k0, k1⟩, f0, f1⟩ := h12.cells
        have HE := Lib.hid (show gI (dfP (ptO (td l a)) (ptO (td l c))).1 (dfP (ptO (td l a)) (ptO (td l c))).2 = elR l a c from by
          rw [HEL.out]
          unfold gI dfP ptO
          dsimp only
          rw [show (td l c).1 - (td l a).1 = -((td l a).1 - (td l c).1) by omega, show (td l c).2.1 - (td l a).2.1 = -((td l a).2.1 - (td l c).2.1) by omega, Int.neg_gcd, Int.gcd_neg])
        have bw : wide (dfP (ptO (td l a)) (ptO (td l c))).1 ∧ wide (dfP (ptO (td l a)) (ptO (td l c))).2 := by
          unfold wide dfP ptO; dsimp only; omega
        obtain ⟨d1, hd1⟩ : ∃ d, d = (dfP (ptO (td l a)) (ptO (td l c))).1 := ⟨_, rfl⟩
        obtain ⟨d2, hd2⟩ : ∃ d, d = (dfP (ptO (td l a)) (ptO (td l c))).2 := ⟨_, rfl⟩
        rw [← hd1] at k0 HE bw
        rw [← hd2] at k1 HE bw
        have HBW := Lib.hid bw
        have hB2 := bel2 HB.out hB
        clear H h12 hall hr hd1 hd2 hB bw ba bc
        go_wp2_with fail
        refine (greatestDivisor_any _ _ _ HBW.out.1 HBW.out.2).mono ?_
        rintro e w3 ⟨rfl, nq, rfl⟩
        go_wp2
        go_ret2
        exact ⟨ret_il HE.out (HY.out.symm.trans HF.out |> fun _ => HF.out.symm), belN hB2 nq⟩
end Go.Proofs.YtbapepflfgcioaaGreat

/-
  Sums of polygons and mixed areas, of the program and of the model: what the calls return.
  Conditions: the slices read as the lists that are named; polygons where a contract names them.
-/
import Derived.Test.YtamejfeaniokfaaPgB
namespace Go.Proofs.Ytamejfeaniokfaa
set_option linter.unusedSimpArgs false
set_option linter.unusedVariables false
open Go.ChangeShapes Go.WideShapes Go.ChangeAt Go.RowKit
open Go.Sort (grow)

/-- The sums of the first k points of a and all of b, and of the next one and the first m of b. -/
def sumT (a b : List Pt) (k m : Nat) : List Pt := (a.take k).flatMap (fun s => b.map (adP s)) ++ (b.take m).map (adP (pd a k))
theorem sumT_0 (a b : List Pt) : sumT a b 0 0 = [] := by simp [sumT]
theorem sumT_next (a b : List Pt) (k m : Nat) (hm : m < b.length) : sumT a b k (m + 1) = sumT a b k m ++ [adP (pd a k) (pd b m)] := by
  unfold sumT; rw [take_pd b m hm]; simp
theorem sumT_row (a b : List Pt) (k : Nat) (hk : k < a.length) : sumT a b (k + 1) 0 = sumT a b k b.length := by
  unfold sumT; rw [take_pd a k hk]; simp
theorem sumT_end (a b : List Pt) : sumT a b a.length 0 = sumLP a b := by unfold sumT sumLP; simp
theorem sumM_len (b : List Pt) : ∀ l : List Pt, (l.flatMap fun s => b.map (adP s)).length = l.length * b.length
  | [] => by simp
  | s :: l => by rw [List.flatMap_cons, List.length_append, List.length_map, sumM_len b l, List.length_cons, Nat.add_mul]; omega
theorem sumT_len (a b : List Pt) (k m : Nat) (hk : k ≤ a.length) (hm : m ≤ b.length) : (sumT a b k m).length = k * b.length + m := by
  unfold sumT
  rw [List.length_append, List.length_map, List.length_take, Nat.min_eq_left hm, sumM_len, List.length_take, Nat.min_eq_left hk]
theorem sumL_len (a b : List Pt) : (sumLP a b).length = a.length * b.length := sumM_len b a
theorem sumL_sm {a b : List Pt} (ha : ∀ q ∈ a, Sm 100 q) (hb : ∀ q ∈ b, Sm 100 q) : ∀ q ∈ sumLP a b, Sm 1000 q := fun q hq => by
  obtain ⟨x, hx, y, hy, rfl⟩ := (sumL_mem a b q).1 hq
  exact ((ha x hx).ad (hb y hy)).mono (by omega)
theorem sumL_ne {a b : List Pt} (ha : 0 < a.length) (hb : 0 < b.length) : sumLP a b ≠ [] := by
  intro h
  have := sumL_len a b
  rw [h] at this
  have := Nat.mul_pos ha hb
  simp at *; omega
def suL (a b : List Pt) : List Pt := hulL (sumLP a b)
def sgB (a b : List Pt) : Bool := pgB a && (pgB b && pgB (suL a b))
def sgR (a b : List Pt) : List Pt := if sgB a b = true then suL a b else []
def mxL (a b : List Pt) : Int := (arL (suL a b) - arL a - arL b).tdiv 2
def mxR (a b : List Pt) : Int := if sgB a b = true then mxL a b else 0
theorem sg_no1 {a b : List Pt} (h : pgB a = false) : sgB a b = false := by unfold sgB; rw [h]; rfl
theorem sg_no2 {a b : List Pt} (h : pgB b = false) : sgB a b = false := by unfold sgB; rw [h]; simp
theorem sg_yes {a b : List Pt} (h : pgB a = true) (h' : pgB b = true) : sgB a b = pgB (suL a b) := by unfold sgB; rw [h, h']; rfl
theorem sgR_no {a b : List Pt} (h : sgB a b = false) : sgR a b = [] := if_neg (by simp [h])
theorem sgR_yes {a b : List Pt} (h : sgB a b = true) : sgR a b = suL a b := if_pos h
theorem mxR_no {a b : List Pt} (h : sgB a b = false) : mxR a b = 0 := if_neg (by simp [h])
theorem mxR_yes {a b : List Pt} (h : sgB a b = true) : mxR a b = mxL a b := if_pos h
theorem sgB_parts {a b : List Pt} (h : sgB a b = true) : pgB a = true ∧ pgB b = true ∧ pgB (suL a b) = true := by
  unfold sgB at h; simpa using h
theorem pg_100 {l : List Pt} (h : pgB l = true) : ∀ q ∈ l, Sm 100 q := pts_sm ((pgB_iff l).1 h).1
theorem suL_le {a b : List Pt} (ha : pgB a = true) (hb : pgB b = true) : (suL a b).length ≤ 1600 ∧ 0 < (suL a b).length ∧ (∀ q ∈ suL a b, Sm 1000 q) := by
  obtain ⟨-, a0, a1⟩ := pg_sm ha
  obtain ⟨-, b0, b1⟩ := pg_sm hb
  have hne := sumL_ne (a := a) (b := b) (by omega) (by omega)
  have h1 := hul_le hne
  rw [sumL_len] at h1
  have h2 : a.length * b.length ≤ 40 * 40 := Nat.mul_le_mul a1 b1
  exact ⟨by unfold suL; omega, List.length_pos_iff.2 (hul_ne hne), fun q hq => sumL_sm (pg_100 ha) (pg_100 hb) q (hul_sub hne hq)⟩
theorem sumL_1600 {a b : List Pt} (ha : pgB a = true) (hb : pgB b = true) : (sumLP a b).length ≤ 100000 := by
  obtain ⟨-, a0, a1⟩ := pg_sm ha
  obtain ⟨-, b0, b1⟩ := pg_sm hb
  rw [sumL_len]
  have h2 : a.length * b.length ≤ 40 * 40 := Nat.mul_le_mul a1 b1
  omega
set_option maxHeartbeats 2000000 in
set_option maxRecDepth 100000 in
theorem pySum_any (w : World) (B B' : Nat) (va vb : Value) (a b : List Pt) (h : PtS w B va a) (h' : PtS w B' vb b) (ha : pgB a = true) (hb : pgB b = true) : Calls Try.prog 26 #[va, vb] w fun e w' => GivesPt (suL a b) w e w' := by
  have HSA := Lib.hid (pg_100 ha)
  have HSB := Lib.hid (pg_100 hb)
  have HLN := Lib.hid (sumL_1600 ha hb)
  have hla := (pg_sm ha).2
  have hlb := (pg_sm hb).2
  obtain ⟨A, cap, rfl, -, hp⟩ := PtS.parts h
  obtain ⟨A', cap', rfl, -, hp'⟩ := PtS.parts h'
  have HPA := Lib.hid hp
  have HPB := Lib.hid hp'
  obtain ⟨n, hna⟩ : ∃ n, n = a.length := ⟨_, rfl⟩
  obtain ⟨n', hnb⟩ : ∃ n', n' = b.length := ⟨_, rfl⟩
  have HN := Lib.hid hna
  have HN' := Lib.hid hnb
  rw [← hna] at hla ⊢
  rw [← hnb] at hlb ⊢
  clear hp hp' h h' hna hnb ha hb
  go_enter Try.func26, Try.ntmps26
  go_wp2
  go_loopw [5, 12] (fun o i wr => ∃ k : Nat, k ≤ n ∧ i = .int .i64 k ∧ PtS wr w.heap.size o (sumT a b k 0) ∧ Below w.heap.size w wr) (fun _ i _ => n - (intOf i).toNat)
  case atStart => exact ⟨0, by omega, rfl, by rw [sumT_0]; exact FS.nil_ _ _ _ _, Below.refl _ _⟩
  case round =>
    obtain ⟨k, hk, rfl, ho, hb⟩ := hrel
    by_cases hlt : k < n
    · have hka : k < a.length := by rw [← HN.out]; exact hlt
      obtain ⟨p, hpe⟩ : ∃ p, p = pd a k := ⟨_, rfl⟩
      have HPE := Lib.hid hpe
      have hp1 : Sm 100 p := by rw [hpe]; exact HSA.out _ (pd_mem hka)
      obtain ⟨g, rfl, hc0⟩ := HPA.out k hka
      rw [← hpe] at hc0
      obtain ⟨c0, c1⟩ := X2.below hc0 hb
      have hPA := P2.new wr p 35
      have hbA := hb.alloc hb.size (.cells #[.int .i64 p.1, .int .i64 p.2] 35)
      have hoA := FS.alloc ho (.cells #[.int .i64 p.1, .int .i64 p.2] 35)
      have hno := Lib.hid (fun g hg => show g ≠ wr.heap.size from by have := (World.ownsRow.lt ho g hg).2; omega)
      have hwr := hb.size
      clear hc0 hpe ho
      go_wp2
      generalize hW : wr.alloc (.cells #[.int .i64 p.1, .int .i64 p.2] 35) = W at hPA hbA hoA ⊢
      obtain ⟨gk, hgk⟩ : ∃ gk, gk = wr.heap.size := ⟨_, rfl⟩
      rw [← hgk] at hPA hno ⊢
      clear hb hW hgk c0 c1
      go_loopw [5, 18] (fun o i wq => ∃ W : World, W = wq ∧ ∃ m : Nat, m ≤ n' ∧ i = .int .i64 m ∧ PtS wq w.heap.size o (sumT a b k m) ∧ P2 wq gk p ∧ Hid (∀ g, o.ownBlock = some g → g ≠ gk) ∧ Below w.heap.size w wq) (fun _ i _ => n' - (intOf i).toNat)
      case atStart => exact ⟨_, rfl, 0, by omega, rfl, hoA, hPA, hno, hbA⟩
      case round =>
        obtain ⟨wq, rfl, m, hm, rfl, ho, hP2, hno2, hb⟩ := hrel
        clear hoA hPA hbA hno
        by_cases hlt2 : m < n'
        · have hmb : m < b.length := by rw [← HN'.out]; exact hlt2
          obtain ⟨q, hqe⟩ : ∃ q, q = pd b m := ⟨_, rfl⟩
          have hq1 : Sm 100 q := by rw [hqe]; exact HSB.out _ (pd_mem hmb)
          have HNX := Lib.hid (show sumT a b k (m + 1) = sumT a b k m ++ [adP p q] by rw [sumT_next a b k m hmb, HPE.out, hqe])
          have hll : (sumT a b k m).length ≤ 1000000 := by
            rw [sumT_len a b k m (by omega) (by omega)]
            have h1 : k * b.length ≤ 40 * 40 := Nat.mul_le_mul (by omega) (by rw [← HN'.out]; omega)
            have h2 := HN'.out
            omega
          obtain ⟨g', rfl, hd0⟩ := HPB.out m hmb
          rw [← hqe] at hd0
          obtain ⟨d0, d1⟩ := X2.below hd0 hb
          have hP2' := hP2
          obtain ⟨p0, p1⟩ := hP2'
          have lgk : gk < wq.heap.size := cell_lt p0
          unfold Sm at hp1 hq1
          have w1' : IntKind.i64.wrap (p.1 + q.1) = p.1 + q.1 := IntWalk.i64_in _ (by omega)
          have w2' : IntKind.i64.wrap (p.2 + q.2) = p.2 + q.2 := IntWalk.i64_in _ (by omega)
          have hrow := FS.alloc (FS.alloc ho (.cells #[.int .i64 q.1, .int .i64 q.2] 35)) (.cells #[.int .i64 (p.1 + q.1), .int .i64 (p.2 + q.2)] 35)
          have hlit := P2.new (wq.alloc (.cells #[.int .i64 q.1, .int .i64 q.2] 35)) (adP p q) 35
          rw [World.size_alloc] at hlit
          have HB2 := Lib.hid ((hb.alloc hb.size (.cells #[.int .i64 q.1, .int .i64 q.2] 35)).alloc (by have := hb.size; simp; omega) (.cells #[.int .i64 (p.1 + q.1), .int .i64 (p.2 + q.2)] 35))
          have HP3 := Lib.hid (P2.alloc (P2.alloc hP2 (.cells #[.int .i64 q.1, .int .i64 q.2] 35)) (.cells #[.int .i64 (p.1 + q.1), .int .i64 (p.2 + q.2)] 35))
          have hwq := hb.size
          have HLT := Lib.hid (fun g hg => (World.ownsRow.lt ho g hg).1)
          clear hd0 hqe hb hP2 hp1 hq1 ho
          go_wp2_with (at_builtin; refine wpList_append_ptl _ rfl _ _ rfl w.heap.size _ (sumT a b k m) rfl hrow (wq.heap.size + 1) (adP p q) rfl hlit hll (by simp; omega) _ rfl ?_; intro v' w3 hown' hgrow hat)
          go_roundw
          case rel =>
            refine ⟨_, rfl, m + 1, by omega, by go_num, by rw [HNX.out]; exact hown', ⟨hgrow.cell (a := ⟨gk, 0, none⟩) HP3.out.1 (fun h => hno2.out gk h.symm rfl), hgrow.cell (a := ⟨gk, 1, none⟩) HP3.out.2 (fun h => hno2.out gk h.symm rfl)⟩, Lib.hid (fun g hg => ?_), HB2.out.grown hgrow (by simp; omega) HLT.out⟩
            rcases hat g hg with h | h
            · exact hno2.out g h
            · rw [World.size_alloc, World.size_alloc] at h; omega
          case measure => simp [intOf]; omega
        · obtain rfl : m = n' := by omega
          have HRW := Lib.hid (show sumT a b (k + 1) 0 = sumT a b k m by rw [HN'.out]; exact sumT_row a b k hka)
          go_wp2
          go_roundw
          case rel => exact ⟨k + 1, by omega, by go_num, by rw [HRW.out]; exact ho, hb⟩
          case measure => simp [intOf]; omega
    · obtain rfl : k = n := by omega
      have hse : sumT a b k 0 = sumLP a b := by rw [HN.out]; exact sumT_end a b
      rw [hse] at ho
      clear hse
      go_wp2_with fail
      refine (pyHull_any _ _ _ (sumLP a b) ho HLN.out (sumL_sm HSA.out HSB.out)).mono ?_
      rintro e w1 ⟨r, rfl, hr, b1⟩
      go_wp2
      go_ret
      exact ⟨_, rfl, FS.base hr hb.size, bel2 hb b1⟩
theorem specSumOfPolygons_any (w : World) (B B' : Nat) (va vb : Value) (a b : List Pt) (h : PtS w B va a) (h' : PtS w B' vb b) : Calls Try.prog 8 #[va, vb] w fun e w' => GivesPtB (sgB a b) (sgR a b) w e w' := by
  have H := Lib.hid h
  have H' := Lib.hid h'
  clear h h'
  cases ha : pgB a
  · have HA := Lib.hid ha
    have HG := Lib.hid (sg_no1 (b := b) ha)
    clear ha
    go_enter Try.func8, Try.ntmps8
    go_wp2_with fail
    refine (pyGood_any _ B _ a H.out).mono ?_
    rintro e w1 ⟨rfl, b1⟩
    rw [HA.out]
    go_wp2
    go_ret2
    exact givesPtB_nil HG.out (sgR_no HG.out) b1
  · cases hb : pgB b
    · have HA := Lib.hid ha
      have HB := Lib.hid hb
      have HG := Lib.hid (sg_no2 (a := a) hb)
      clear ha hb
      go_enter Try.func8, Try.ntmps8
      go_wp2_with fail
      refine (pyGood_any _ B _ a H.out).mono ?_
      rintro e w1 ⟨rfl, b1⟩
      rw [HA.out]
      have h1 := Lib.hid (FS.below H'.out b1)
      go_wp2_with fail
      refine (pyGood_any _ B' _ b h1.out).mono ?_
      rintro e w2 ⟨rfl, b2⟩
      rw [HB.out]
      go_wp2
      go_ret2
      exact givesPtB_nil HG.out (sgR_no HG.out) (bel2 b1 b2)
    · have HA := Lib.hid ha
      have HB := Lib.hid hb
      have HG := Lib.hid (sg_yes ha hb)
      clear ha hb
      go_enter Try.func8, Try.ntmps8
      go_wp2_with fail
      refine (pyGood_any _ B _ a H.out).mono ?_
      rintro e w1 ⟨rfl, b1⟩
      rw [HA.out]
      have h1 := Lib.hid (FS.below H'.out b1)
      go_wp2_with fail
      refine (pyGood_any _ B' _ b h1.out).mono ?_
      rintro e w2 ⟨rfl, b2⟩
      rw [HB.out]
      have h2 := Lib.hid (FS.below h1.out b2)
      have h3 := Lib.hid (FS.below (FS.below H.out b1) b2)
      have hb2 := Lib.hid (bel2 b1 b2)
      go_wp2_with fail
      refine (pySum_any _ B B' _ _ a b h3.out h2.out HA.out HB.out).mono ?_
      rintro e w3 ⟨r, rfl, hr, b3⟩
      have HR := Lib.hid hr
      have hb3 := Lib.hid (bel2 hb2.out b3)
      go_wp2_with fail
      refine (pyGood_any _ _ _ (suL a b) HR.out).mono ?_
      rintro e w4 ⟨rfl, b4⟩
      cases hg : pgB (suL a b)
      · have HG2 := Lib.hid (HG.out.trans hg)
        clear hg
        go_wp2
        go_ret2
        exact givesPtB_nil HG2.out (sgR_no HG2.out) (bel2 hb3.out b4)
      · have HG2 := Lib.hid (HG.out.trans hg)
        have HR4 := Lib.hid (FS.below HR.out b4)
        clear hg
        go_wp2
        go_ret2
        exact givesPtB_yes HG2.out (by rw [sgR_yes HG2.out]; exact FS.base HR4.out hb2.out.size) (bel2 hb3.out b4)
set_option maxHeartbeats 2000000 in
set_option maxRecDepth 100000 in
theorem implSumOfPolygons_any (w : World) (B B' : Nat) (va vb : Value) (a b : List Pt) (h : PtS w B va a) (h' : PtS w B' vb b) : Calls Try.prog 7 #[va, vb] w fun e w' => GivesPtB (sgB a b) (sgR a b) w e w' := by
  have H := Lib.hid h
  have H' := Lib.hid h'
  cases ha : pgB a
  · have HA := Lib.hid ha
    have HG := Lib.hid (sg_no1 (b := b) ha)
    clear ha h h'
    go_enter Try.func7, Try.ntmps7
    go_wp2_with fail
    refine (implIsPolygon_any _ B _ a H.out).mono ?_
    rintro e w1 ⟨rfl, b1⟩
    rw [HA.out]
    go_wp2
    go_ret2
    exact givesPtB_nil HG.out (sgR_no HG.out) b1
  · cases hb : pgB b
    · have HA := Lib.hid ha
      have HB := Lib.hid hb
      have HG := Lib.hid (sg_no2 (a := a) hb)
      clear ha hb h h'
      go_enter Try.func7, Try.ntmps7
      go_wp2_with fail
      refine (implIsPolygon_any _ B _ a H.out).mono ?_
      rintro e w1 ⟨rfl, b1⟩
      rw [HA.out]
      have h1 := Lib.hid (FS.below H'.out b1)
      go_wp2_with fail
      refine (implIsPolygon_any _ B' _ b h1.out).mono ?_
      rintro e w2 ⟨rfl, b2⟩
      rw [HB.out]
      go_wp2
      go_ret2
      exact givesPtB_nil HG.out (sgR_no HG.out) (bel2 b1 b2)
    · have HA := Lib.hid ha
      have HB := Lib.hid hb
      have HG := Lib.hid (sg_yes ha hb)
      have HSA := Lib.hid (pg_100 ha)
      have HSB := Lib.hid (pg_100 hb)
      have HLN := Lib.hid (sumL_1600 ha hb)
      have hla := (pg_sm ha).2
      have hlb := (pg_sm hb).2
      obtain ⟨A, cap, rfl, -, hp⟩ := PtS.parts h
      obtain ⟨A', cap', rfl, -, hp'⟩ := PtS.parts h'
      have HPA := Lib.hid hp
      have HPB := Lib.hid hp'
      obtain ⟨n, hna⟩ : ∃ n, n = a.length := ⟨_, rfl⟩
      obtain ⟨n', hnb⟩ : ∃ n', n' = b.length := ⟨_, rfl⟩
      have HN := Lib.hid hna
      have HN' := Lib.hid hnb
      have H2 := Lib.hid (show PtS w B (.slice A n cap) a from by rw [hna]; exact H.out)
      have H2' := Lib.hid (show PtS w B' (.slice A' n' cap') b from by rw [hnb]; exact H'.out)
      rw [← hna] at hla ⊢
      rw [← hnb] at hlb ⊢
      clear hp hp' h h' hna hnb ha hb H H'
      go_enter Try.func7, Try.ntmps7
      go_wp2_with fail
      refine (implIsPolygon_any _ B _ a H2.out).mono ?_
      rintro e w1 ⟨rfl, b1⟩
      rw [HA.out]
      have h1 := Lib.hid (FS.below H2'.out b1)
      go_wp2_with fail
      refine (implIsPolygon_any _ B' _ b h1.out).mono ?_
      rintro e w2 ⟨rfl, b2⟩
      rw [HB.out]
      have hb2 := bel2 b1 b2
      clear b1 b2
      go_wp2
      go_loopw [6, 22] (fun o i wr => ∃ k : Nat, k ≤ n ∧ i = .int .i64 k ∧ PtS wr w.heap.size o (sumT a b k 0) ∧ Below w.heap.size w wr) (fun _ i _ => n - (intOf i).toNat)
      case atStart => exact ⟨0, by omega, rfl, by rw [sumT_0]; exact FS.nil_ _ _ _ _, hb2⟩
      case round =>
        obtain ⟨k, hk, rfl, ho, hb⟩ := hrel
        by_cases hlt : k < n
        · have hka : k < a.length := by rw [← HN.out]; exact hlt
          obtain ⟨p, hpe⟩ : ∃ p, p = pd a k := ⟨_, rfl⟩
          have HPE := Lib.hid hpe
          have hp1 : Sm 100 p := by rw [hpe]; exact HSA.out _ (pd_mem hka)
          obtain ⟨g, rfl, hc0⟩ := HPA.out k hka
          rw [← hpe] at hc0
          obtain ⟨c0, c1⟩ := X2.below hc0 hb
          have hPA := P2.new wr p 35
          have hbA := hb.alloc hb.size (.cells #[.int .i64 p.1, .int .i64 p.2] 35)
          have hoA := FS.alloc ho (.cells #[.int .i64 p.1, .int .i64 p.2] 35)
          have hno := Lib.hid (fun g hg => show g ≠ wr.heap.size from by have := (World.ownsRow.lt ho g hg).2; omega)
          have hwr := hb.size
          clear hc0 hpe ho
          go_wp2
          generalize hW : wr.alloc (.cells #[.int .i64 p.1, .int .i64 p.2] 35) = W at hPA hbA hoA ⊢
          obtain ⟨gk, hgk⟩ : ∃ gk, gk = wr.heap.size := ⟨_, rfl⟩
          rw [← hgk] at hPA hno ⊢
          clear hb hW hgk c0 c1
          go_loopw [6, 28] (fun o i wq => ∃ W : World, W = wq ∧ ∃ m : Nat, m ≤ n' ∧ i = .int .i64 m ∧ PtS wq w.heap.size o (sumT a b k m) ∧ P2 wq gk p ∧ Hid (∀ g, o.ownBlock = some g → g ≠ gk) ∧ Below w.heap.size w wq) (fun _ i _ => n' - (intOf i).toNat)
          case atStart => exact ⟨_, rfl, 0, by omega, rfl, hoA, hPA, hno, hbA⟩
          case round =>
            obtain ⟨wq, rfl, m, hm, rfl, ho, hP2, hno2, hb⟩ := hrel
            clear hoA hPA hbA hno
            by_cases hlt2 : m < n'
            · have hmb : m < b.length := by rw [← HN'.out]; exact hlt2
              obtain ⟨q, hqe⟩ : ∃ q, q = pd b m := ⟨_, rfl⟩
              have hq1 : Sm 100 q := by rw [hqe]; exact HSB.out _ (pd_mem hmb)
              have HNX := Lib.hid (show sumT a b k (m + 1) = sumT a b k m ++ [adP p q] by rw [sumT_next a b k m hmb, HPE.out, hqe])
              have hll : (sumT a b k m).length ≤ 1000000 := by
                rw [sumT_len a b k m (by omega) (by omega)]
                have h1 : k * b.length ≤ 40 * 40 := Nat.mul_le_mul (by omega) (by rw [← HN'.out]; omega)
                have h2 := HN'.out
                omega
              obtain ⟨g', rfl, hd0⟩ := HPB.out m hmb
              rw [← hqe] at hd0
              obtain ⟨d0, d1⟩ := X2.below hd0 hb
              have hP2' := hP2
              obtain ⟨p0, p1⟩ := hP2'
              have lgk : gk < wq.heap.size := cell_lt p0
              unfold Sm at hp1 hq1
              have w1' : IntKind.i64.wrap (p.1 + q.1) = p.1 + q.1 := IntWalk.i64_in _ (by omega)
              have w2' : IntKind.i64.wrap (p.2 + q.2) = p.2 + q.2 := IntWalk.i64_in _ (by omega)
              have hrow := FS.alloc (FS.alloc ho (.cells #[.int .i64 q.1, .int .i64 q.2] 35)) (.cells #[.int .i64 (p.1 + q.1), .int .i64 (p.2 + q.2)] 35)
              have hlit := P2.new (wq.alloc (.cells #[.int .i64 q.1, .int .i64 q.2] 35)) (adP p q) 35
              rw [World.size_alloc] at hlit
              have HB2 := Lib.hid ((hb.alloc hb.size (.cells #[.int .i64 q.1, .int .i64 q.2] 35)).alloc (by have := hb.size; simp; omega) (.cells #[.int .i64 (p.1 + q.1), .int .i64 (p.2 + q.2)] 35))
              have HP3 := Lib.hid (P2.alloc (P2.alloc hP2 (.cells #[.int .i64 q.1, .int .i64 q.2] 35)) (.cells #[.int .i64 (p.1 + q.1), .int .i64 (p.2 + q.2)] 35))
              have hwq := hb.size
              have HLT := Lib.hid (fun g hg => (World.ownsRow.lt ho g hg).1)
              clear hd0 hqe hb hP2 hp1 hq1 ho
              go_wp2_with (at_builtin; refine wpList_append_ptl _ rfl _ _ rfl w.heap.size _ (sumT a b k m) rfl hrow (wq.heap.size + 1) (adP p q) rfl hlit hll (by simp; omega) _ rfl ?_; intro v' w3 hown' hgrow hat)
              go_roundw
              case rel =>
                refine ⟨_, rfl, m + 1, by omega, by go_num, by rw [HNX.out]; exact hown', ⟨hgrow.cell (a := ⟨gk, 0, none⟩) HP3.out.1 (fun h => hno2.out gk h.symm rfl), hgrow.cell (a := ⟨gk, 1, none⟩) HP3.out.2 (fun h => hno2.out gk h.symm rfl)⟩, Lib.hid (fun g hg => ?_), HB2.out.grown hgrow (by simp; omega) HLT.out⟩
                rcases hat g hg with h | h
                · exact hno2.out g h
                · rw [World.size_alloc, World.size_alloc] at h; omega
              case measure => simp [intOf]; omega
            · obtain rfl : m = n' := by omega
              have HRW := Lib.hid (show sumT a b (k + 1) 0 = sumT a b k m by rw [HN'.out]; exact sumT_row a b k hka)
              go_wp2
              go_roundw
              case rel => exact ⟨k + 1, by omega, by go_num, by rw [HRW.out]; exact ho, hb⟩
              case measure => simp [intOf]; omega
        · obtain rfl : k = n := by omega
          have hse : sumT a b k 0 = sumLP a b := by rw [HN.out]; exact sumT_end a b
          rw [hse] at ho
          clear hse
          go_wp2_with fail
          refine (hullOf_any w _ w.heap.size _ (sumLP a b) ho HLN.out (sumL_sm HSA.out HSB.out) hb (Nat.le_refl _)).mono ?_
          rintro e w3 ⟨r, rfl, hr, b3⟩
          have HR := Lib.hid hr
          have hb3 := Lib.hid b3
          go_wp2_with fail
          refine (implIsPolygon_any _ _ _ (suL a b) HR.out).mono ?_
          rintro e w4 ⟨rfl, b4⟩
          cases hg : pgB (suL a b)
          · have HG2 := Lib.hid (HG.out.trans hg)
            clear hg
            go_wp2
            go_ret2
            exact givesPtB_nil HG2.out (sgR_no HG2.out) (bel2 hb3.out b4)
          · have HG2 := Lib.hid (HG.out.trans hg)
            have HR4 := Lib.hid (FS.below HR.out b4)
            clear hg
            go_wp2
            go_ret2
            exact givesPtB_yes HG2.out (by rw [sgR_yes HG2.out]; exact HR4.out) (bel2 hb3.out b4)
theorem mx_wrap {s a b : Int} (hs : -200000000000 ≤ s ∧ s ≤ 200000000000) (ha : -200000000000 ≤ a ∧ a ≤ 200000000000) (hb : -200000000000 ≤ b ∧ b ≤ 200000000000) :
    IntKind.i64.wrap (s - a) = s - a ∧ IntKind.i64.wrap (s - a - b) = s - a - b ∧ IntKind.i64.wrap ((s - a - b).tdiv 2) = (s - a - b).tdiv 2 := by
  have ht := tdiv2_bd (x := s - a - b) (by omega)
  exact ⟨IntWalk.i64_in _ (by omega), IntWalk.i64_in _ (by omega), IntWalk.i64_in _ (by omega)⟩
theorem pyMixed_any (w : World) (B B' : Nat) (va vb : Value) (a b : List Pt) (h : PtS w B va a) (h' : PtS w B' vb b) (ha : pgB a = true) (hb : pgB b = true) : Calls Try.prog 23 #[va, vb] w fun e w' => e = .returned (.int .i64 (mxL a b)) ∧ Below w.heap.size w w' := by
  have H := Lib.hid h
  have H' := Lib.hid h'
  obtain ⟨sa, a0, a1⟩ := pg_sm ha
  obtain ⟨sb, b0, b1⟩ := pg_sm hb
  obtain ⟨s1, s0, ss⟩ := suL_le ha hb
  obtain ⟨w1', w2', w3'⟩ := mx_wrap (arL_bd ss (by omega)) (arL_bd sa (by omega)) (arL_bd sb (by omega))
  have HM := Lib.hid (show mxL a b = (arL (suL a b) - arL a - arL b).tdiv 2 from rfl)
  have HL := Lib.hid (show a.length ≤ 100000 ∧ b.length ≤ 100000 ∧ (suL a b).length ≤ 100000 by omega)
  have HS := Lib.hid (And.intro sa (And.intro sb ss))
  have HA := Lib.hid ha
  have HB := Lib.hid hb
  obtain ⟨x, hx⟩ : ∃ x, x = arL (suL a b) := ⟨_, rfl⟩
  obtain ⟨y, hy⟩ : ∃ y, y = arL a := ⟨_, rfl⟩
  obtain ⟨z, hz⟩ : ∃ z, z = arL b := ⟨_, rfl⟩
  have HX := Lib.hid hx
  have HY := Lib.hid hy
  have HZ := Lib.hid hz
  rw [← hx, ← hy] at w1'
  rw [← hx, ← hy, ← hz] at w2' w3'
  rw [HM.out, ← hx, ← hy, ← hz]
  clear hx hy hz ha hb h h' sa sb ss a0 a1 b0 b1 s0 s1 HM
  go_enter Try.func23, Try.ntmps23
  go_wp2_with fail
  refine (pySum_any _ B B' _ _ a b H.out H'.out HA.out HB.out).mono ?_
  rintro e w1 ⟨r, rfl, hr, b1⟩
  have h1 := Lib.hid (FS.below H.out b1)
  have h1' := Lib.hid (FS.below H'.out b1)
  go_wp2_with fail
  refine (pyArea_any _ _ _ (suL a b) hr HL.out.2.2 HS.out.2.2).mono ?_
  rintro e w2 ⟨rfl, b2⟩
  rw [← HX.out]
  have h2 := Lib.hid (FS.below h1.out b2)
  have h2' := Lib.hid (FS.below h1'.out b2)
  go_wp2_with fail
  refine (pyArea_any _ B _ a h2.out HL.out.1 HS.out.1).mono ?_
  rintro e w3 ⟨rfl, b3⟩
  rw [← HY.out]
  have h3' := Lib.hid (FS.below h2'.out b3)
  go_wp2_with fail
  refine (pyArea_any _ B' _ b h3'.out HL.out.2.1 HS.out.2.1).mono ?_
  rintro e w4 ⟨rfl, b4⟩
  rw [← HZ.out]
  go_wp2
  go_ret
  exact ⟨rfl, bel2 (bel2 (bel2 b1 b2) b3) b4⟩
theorem specMixedArea_any (w : World) (B B' : Nat) (va vb : Value) (a b : List Pt) (h : PtS w B va a) (h' : PtS w B' vb b) : Calls Try.prog 6 #[va, vb] w fun e w' => GivesZB (mxR a b) (sgB a b) w e w' := by
  have H := Lib.hid h
  have H' := Lib.hid h'
  clear h h'
  cases hg : sgB a b
  · have HG := Lib.hid hg
    clear hg
    go_enter Try.func6, Try.ntmps6
    go_wp2_with fail
    refine (specSumOfPolygons_any _ B B' _ _ a b H.out H'.out).mono ?_
    rintro e w1 ⟨r, rfl, hr, b1⟩
    rw [HG.out]
    go_wp2
    go_ret2
    exact givesZB_no (mxR_no HG.out) rfl b1
  · have HG := Lib.hid hg
    have HP := Lib.hid (sgB_parts hg)
    clear hg
    go_enter Try.func6, Try.ntmps6
    go_wp2_with fail
    refine (specSumOfPolygons_any _ B B' _ _ a b H.out H'.out).mono ?_
    rintro e w1 ⟨r, rfl, hr, b1⟩
    rw [HG.out]
    have h1 := Lib.hid (FS.below H.out b1)
    have h1' := Lib.hid (FS.below H'.out b1)
    go_wp2_with fail
    refine (pyMixed_any _ B B' _ _ a b h1.out h1'.out HP.out.1 HP.out.2.1).mono ?_
    rintro e w2 ⟨rfl, b2⟩
    go_wp2
    go_ret2
    exact givesZB_yes (mxR_yes HG.out) rfl (bel2 b1 b2)
theorem implMixedArea_any (w : World) (B B' : Nat) (va vb : Value) (a b : List Pt) (h : PtS w B va a) (h' : PtS w B' vb b) : Calls Try.prog 5 #[va, vb] w fun e w' => GivesZB (mxR a b) (sgB a b) w e w' := by
  have H := Lib.hid h
  have H' := Lib.hid h'
  cases hg : sgB a b
  · have HG := Lib.hid hg
    clear hg h h'
    go_enter Try.func5, Try.ntmps5
    go_wp2_with fail
    refine (implSumOfPolygons_any _ B B' _ _ a b H.out H'.out).mono ?_
    rintro e w1 ⟨r, rfl, hr, b1⟩
    rw [HG.out]
    go_wp2
    go_ret2
    exact givesZB_no (mxR_no HG.out) rfl b1
  · have HG := Lib.hid hg
    obtain ⟨ha, hb, -⟩ := sgB_parts hg
    obtain ⟨sa, a0, a1⟩ := pg_sm ha
    obtain ⟨sb, b0, b1⟩ := pg_sm hb
    obtain ⟨s1, s0, ss⟩ := suL_le ha hb
    obtain ⟨w1', w2', w3'⟩ := mx_wrap (arL_bd ss (by omega)) (arL_bd sa (by omega)) (arL_bd sb (by omega))
    have HM := Lib.hid (show mxL a b = (arL (suL a b) - arL a - arL b).tdiv 2 from rfl)
    have HL := Lib.hid (show (0 < a.length ∧ a.length ≤ 100000) ∧ (0 < b.length ∧ b.length ≤ 100000) ∧ (0 < (suL a b).length ∧ (suL a b).length ≤ 100000) by omega)
    have HS := Lib.hid (And.intro sa (And.intro sb ss))
    have HR := Lib.hid (sgR_yes hg)
    obtain ⟨x, hx⟩ : ∃ x, x = arL (suL a b) := ⟨_, rfl⟩
    obtain ⟨y, hy⟩ : ∃ y, y = arL a := ⟨_, rfl⟩
    obtain ⟨z, hz⟩ : ∃ z, z = arL b := ⟨_, rfl⟩
    have HX := Lib.hid hx
    have HY := Lib.hid hy
    have HZ := Lib.hid hz
    rw [← hx, ← hy] at w1'
    rw [← hx, ← hy, ← hz] at w2' w3'
    have HE := Lib.hid (show mxR a b = (x - y - z).tdiv 2 by rw [mxR_yes hg, HM.out, hx, hy, hz])
    clear hx hy hz ha hb h h' sa sb ss a0 a1 b0 b1 s0 s1 HM hg
    go_enter Try.func5, Try.ntmps5
    go_wp2_with fail
    refine (implSumOfPolygons_any _ B B' _ _ a b H.out H'.out).mono ?_
    rintro e w1 ⟨r, rfl, hr, b1⟩
    rw [HG.out]
    rw [HR.out] at hr
    have h1 := Lib.hid (FS.below H.out b1)
    have h1' := Lib.hid (FS.below H'.out b1)
    go_wp2_with fail
    refine (doubleAreaOf_any _ _ _ (suL a b) hr HL.out.2.2.1 HL.out.2.2.2 HS.out.2.2).mono ?_
    rintro e w2 ⟨rfl, b2⟩
    rw [← HX.out]
    have h2 := Lib.hid (FS.below h1.out b2)
    have h2' := Lib.hid (FS.below h1'.out b2)
    go_wp2_with fail
    refine (doubleAreaOf_any _ B _ a h2.out HL.out.1.1 HL.out.1.2 HS.out.1).mono ?_
    rintro e w3 ⟨rfl, b3⟩
    rw [← HY.out]
    have h3' := Lib.hid (FS.below h2'.out b3)
    go_wp2_with fail
    refine (doubleAreaOf_any _ B' _ b h3'.out HL.out.2.1.1 HL.out.2.1.2 HS.out.2.1).mono ?_
    rintro e w4 ⟨rfl, b4⟩
    rw [← HZ.out]
    go_wp2
    go_ret2
    exact givesZB_yes HE.out rfl (bel2 (bel2 (bel2 b1 b2) b3) b4)
end Go.Proofs.Ytamejfeaniokfaa

/-
  Polygons as the model draws them, and the draws of chapter 6: what each call returns.
  Condition: the cursor lies in a block of its own, over bytes; the bytes can be read.
-/
import Derived.Test.YtamejfeaniokfaaDrawQ
import Derived.Test.YtamejfeaniokfaaPgI
namespace Go.Proofs.Ytamejfeaniokfaa
set_option linter.unusedSimpArgs false
set_option linter.unusedVariables false
open Go.ChangeShapes Go.WideShapes Go.ChangeAt Go.RowKit

theorem grown_bel9 {a c d : World} {row : Option Nat} (h : a.grownBy c row) (hb : Below c.heap.size c d) : a.grownBy d row :=
  ⟨hb.os.trans h.os, hb.tape.trans h.tape, hb.output.trans h.output, Nat.le_trans h.size hb.size, fun k hk hne => (hb.block k (Nat.lt_of_lt_of_le hk h.size)).trans (h.block k hk hne)⟩
/-- A drawn polygon's points. -/
def PolyP (l : List Pt) : Prop := l ≠ [] ∧ l.length ≤ 41 ∧ ∀ q ∈ l, Sm 1000 q
set_option maxHeartbeats 1000000 in
theorem polygon_any (w : World) (b k : Nat) (h : Cur w b k) (hk : k ≤ 500000000) : Calls Try.prog 57 #[.pointer (some ⟨b, 0, none⟩)] w fun e w' => TakesPs PolyP b (k + 1000) w e w' := by
  have hbw := h.lt
  go_enter Try.func57, Try.ntmps57
  go_wp2_with fail
  refine (points_any _ b k h (by omega)).mono ?_
  rintro e v1 ⟨v, l, rfl, hv, hl, hc1, hg1⟩
  obtain ⟨A1, cap1, hv1, -, -⟩ := PtS.parts hv
  subst hv1
  have HV := Lib.hid hv
  have HC := Lib.hid hc1
  have HG := Lib.hid hg1
  have hsz := hg1.size
  clear hv hc1 hg1 h
  cases hq : ptsB l
  · have HQ := Lib.hid hq
    clear hq
    go_wp2_with fail
    refine (pyPoints_any _ _ _ l HV.out).mono ?_
    rintro e v2 ⟨rfl, b2⟩
    rw [HQ.out]
    have hN : PtS (v2.alloc (.cells #[.int .i64 0, .int .i64 0, .int .i64 2, .int .i64 0, .int .i64 0, .int .i64 2] 35)) v2.heap.size (.slice (some ⟨v2.heap.size, 0, none⟩) 3 3) [(0, 0), (2, 0), (0, 2)] :=
      World.ownsRow_lit v2 #[.int .i64 0, .int .i64 0, .int .i64 2, .int .i64 0, .int .i64 0, .int .i64 2] 3 (Nat.le_refl _) (by decide) rfl
    have HN := Lib.hid (FS.base hN (Nat.le_trans hsz b2.size))
    have C2 := Lib.hid (((HC.out.below b2).alloc (.cells #[.int .i64 0, .int .i64 0, .int .i64 2, .int .i64 0, .int .i64 0, .int .i64 2] 35)))
    have G2 := Lib.hid (grown_alloc (grown_bel9 HG.out b2) (.cells #[.int .i64 0, .int .i64 0, .int .i64 2, .int .i64 0, .int .i64 0, .int .i64 2] 35))
    clear hN b2
    go_wp2
    go_ret
    exact ⟨_, _, rfl, HN.out, ⟨by simp, by simp, fun q hq => by simp at hq; rcases hq with rfl | rfl | rfl <;> (unfold Sm; simp)⟩, C2.out, G2.out⟩
  · have HQ := Lib.hid hq
    clear hq
    go_wp2_with fail
    refine (pyPoints_any _ _ _ l HV.out).mono ?_
    rintro e v2 ⟨rfl, b2⟩
    rw [HQ.out]
    go_wp2_with fail
    refine (pyHull_any _ _ _ l (FS.below HV.out b2) (by omega) (fun q hq => (pts_sm HQ.out q hq).mono (by omega))).mono ?_
    rintro e v3 ⟨r, rfl, h3, b3⟩
    obtain ⟨A3, cap3, hv3, -, -⟩ := PtS.parts h3
    subst hv3
    have HN := Lib.hid (FS.base h3 (Nat.le_trans hsz b2.size))
    have hne : l ≠ [] := by intro e; have := ((ptsB_iff l).1 HQ.out).1; rw [e] at this; simp at this
    have HP := Lib.hid (show PolyP (hulL l) from ⟨hul_ne hne, Nat.le_trans (hul_le hne) hl, fun q hq => (pts_sm HQ.out q (hul_sub hne hq)).mono (by omega)⟩)
    have C2 := Lib.hid (HC.out.below (bel2 b2 b3))
    have G2 := Lib.hid (grown_bel9 HG.out (bel2 b2 b3))
    clear h3 b2 b3 hne
    go_wp2
    go_ret
    exact ⟨_, _, rfl, HN.out, HP.out, C2.out, G2.out⟩
set_option maxHeartbeats 4000000 in
set_option maxRecDepth 100000 in
theorem anyPolygon_any (w : World) (b k : Nat) (h : Cur w b k) (hk : k ≤ 400000000) : Calls Try.prog 35 #[.pointer (some ⟨b, 0, none⟩)] w fun e w' => TakesPs (fun l => l.length ≤ 41) b (k + 3000) w e w' := by
  have hbw := h.lt
  go_enter Try.func35, Try.ntmps35
  go_wp2_with fail
  refine (polygon_any _ b k h (by omega)).mono ?_
  rintro e v1 ⟨v, l, rfl, hv, ⟨hl1, hl2, -⟩, hc1, hg1⟩
  obtain ⟨A1, cap1, hv1, hmx, hpp⟩ := PtS.parts hv
  subst hv1
  have HV := Lib.hid hv
  have HG := Lib.hid hg1
  have HNE := Lib.hid hl1
  have hsz := hg1.size
  clear hv hg1 h hl1 hpp hmx
  obtain ⟨m, hm⟩ : ∃ m, m = l.length := ⟨_, rfl⟩
  have HM := Lib.hid hm
  have HL2 := Lib.hid hl2
  rw [← hm] at HV ⊢
  clear hm hl2
  go_wp2_with fail
  refine (pick_any 24 (by omega) _ b _ hc1 (by omega)).mono ?_
  rintro e v2 ⟨r, rfl, hr, hc2, hg2⟩
  have HC2 := Lib.hid hc2
  have G2 := Lib.hid (grown_trans HG.out hg2)
  have V2 := Lib.hid (show PtS v2 w.heap.size (.slice A1 m cap1) l from ptS_away HV.out hbw hg2)
  clear hr hc1 hc2 hg2
  cases h0 : r == 0
  · cases h1 : r == 1
    · cases h2 : r == 2
      · go_wp2
        go_ret
        exact ⟨_, l, rfl, V2.out, HL2.out, HC2.out.more (by omega), G2.out⟩
      · have hN : PtS (v2.alloc (.cells #[.int .i64 (-100), .int .i64 (-100), .int .i64 100, .int .i64 (-100), .int .i64 100, .int .i64 100] 35)) v2.heap.size (.slice (some ⟨v2.heap.size, 0, none⟩) 3 3) [(-100, -100), (100, -100), (100, 100)] :=
          World.ownsRow_lit v2 #[.int .i64 (-100), .int .i64 (-100), .int .i64 100, .int .i64 (-100), .int .i64 100, .int .i64 100] 3 (Nat.le_refl _) (by decide) rfl
        have HN := Lib.hid (FS.base hN G2.out.size)
        have C3 := Lib.hid (HC2.out.alloc (.cells #[.int .i64 (-100), .int .i64 (-100), .int .i64 100, .int .i64 (-100), .int .i64 100, .int .i64 100] 35))
        have G3 := Lib.hid (grown_alloc G2.out (.cells #[.int .i64 (-100), .int .i64 (-100), .int .i64 100, .int .i64 (-100), .int .i64 100, .int .i64 100] 35))
        clear hN
        go_wp2
        go_ret
        exact ⟨_, _, rfl, HN.out, by simp, C3.out.more (by omega), G3.out⟩
    · have hm1 : 1 ≤ m := by
        have := HNE.out
        rw [HM.out]
        exact List.length_pos_iff.2 this
      obtain ⟨A2, cap2, he2, hmx2, hp2⟩ := PtS.parts V2.out
      rw [← HM.out] at he2
      cases he2
      obtain ⟨g, rfl, a0, a1⟩ := hp2 0 (by rw [← HM.out]; omega)
      have HRX := Lib.hid (ptS_news HM.out V2.out)
      obtain ⟨p, hp⟩ : ∃ p, p = pd l 0 := ⟨_, rfl⟩
      rw [← hp] at a0 a1
      clear hp
      have HTX := Lib.hid (show P2 v2 g p from ⟨by simpa using a0, by simpa using a1⟩)
      have hmc : m ≤ cap1 := by
        rcases V2.out.2 with ⟨h9, -⟩ | ⟨g9, cap9, cur9, h9, h10, h11, h12, h13, h14, h15⟩
        · cases h9
        · simp at h9
          omega
      obtain ⟨t0, t1⟩ := HTX.out
      have hgl := cell_lt t0
      have hSX : S4P v2 g p v2 := S4P.of HTX.out (Below.refl _ _)
      by_cases hc : cap1 = 1
      · have hm0 : m = 1 := by omega
        have hc0 : ¬ cap1 = 0 := by omega
        clear hp2 a0 a1 hmc hm1
        subst hc
        subst hm0
        go_upto_region 6 with fail
        go_region_held3 (fun w' => S4P v2 g p w') (repeat' (first | with_reducible assumption | with_reducible refine S4P.drew ?_ | with_reducible refine S4P.drewN ?_ _ | with_reducible refine S4P.alloc ?_ _)) (first | (refine step_app_pt (by rfl) (.tmp 14) (.tmp 16) (by rfl) v2 g p HTX.out (.slice (some ⟨v2.heap.size, 0, none⟩) 0 0) (0) [] (by rfl) (twP_new _ _ (Nat.le_refl _)) _ 0 _ [] (by rfl) rfl (nilP_news rfl) (by omega) (by assumption) ?_; intro va wa hown1 hS1 hk1) | (refine step_app_pt (by rfl) (.tmp 14) (.tmp 16) (by rfl) v2 g p HTX.out (.slice (some ⟨v2.heap.size, 0, none⟩) 0 0) (0) [] (by rfl) (World.ownsRow.alloc (twP_new _ _ (Nat.le_refl _)) _) _ 0 _ [] (by rfl) rfl (nilP_news rfl) (by omega) (by assumption) ?_; intro va wa hown1 hS1 hk1; have c51 := P2.kept (litP_new2 _ _ p) hk1 (by intro q hq; simp [Value.ownBlock] at hq; omega)) | (refine step_app_pt (by rfl) (.tmp 14) (.tmp 16) (by rfl) v2 g p HTX.out (.slice (some ⟨v2.heap.size + 1, 0, none⟩) 0 0) (0) [] (by rfl) (twP_new' _ _ _ (Nat.le_refl _)) _ 0 _ [] (by rfl) rfl (nilP_news rfl) (by omega) (by assumption) ?_; intro va wa hown1 hS1 hk1; have c51 := P2.kept (litP_new3 _ _ p) hk1 (by intro q hq; simp [Value.ownBlock] at hq; omega)) | (refine step_app_pt (by rfl) (.tmp 17) (.tmp 21) (by rfl) v2 g p HTX.out va (0 + 0) ([] ++ []) (by rfl) (by first | exact hown1 | exact World.ownsRow.alloc hown1 _) _ 1 _ (encP p) (by rfl) rfl (by first | exact P2.news c51 | exact P2.news (P2.new _ p _)) (by omega) (by assumption) ?_; intro v3 w3 hown3 hS3 hk3) | (fail))
        all_goals
          have HN := Lib.hid (FS.base (show PtS w3 v2.heap.size v3 [p] from hown3) G2.out.size)
          have C3 := Lib.hid (HC2.out.below hS3.2.2)
          have G3 := Lib.hid (grown_bel9 G2.out hS3.2.2)
          go_wp2
          go_ret
          exact ⟨_, [p], rfl, HN.out, by simp, C3.out.more (by omega), G3.out⟩
      · have hc0 : ¬ cap1 = 0 := by omega
        have l1 : 1 ≤ cap1 := by omega
        have hm41 : m ≤ 41 := by rw [HM.out]; exact HL2.out
        have hm2 : (1 : Int) ≤ (m : Int) := by omega
        have hm3 : (0 : Int) < (m : Int) := by omega
        have hm4 : 0 < m := by omega
        have hm5 : ¬ m = 0 := by omega
        have hm6 : ¬ (m : Int) ≤ 0 := by omega
        clear hp2 a0 a1
        go_upto_region 6 with fail
        go_region_held3 (fun w' => S4P v2 g p w') (repeat' (first | with_reducible assumption | with_reducible refine S4P.drew ?_ | with_reducible refine S4P.drewN ?_ _ | with_reducible refine S4P.alloc ?_ _)) (first | (refine step_app_pt (by rfl) (.tmp 14) (.tmp 16) (by rfl) v2 g p HTX.out (.slice (some ⟨v2.heap.size, 0, none⟩) 0 0) (0) [] (by rfl) (twP_new _ _ (Nat.le_refl _)) ⟨g, 2, none⟩ (m - 1) _ ((flatP l).drop 2) (by rfl) (by rw [List.length_drop, flatP_len, ← HM.out]; omega) (postP_news HRX.out (S4P.bel (b := g) (r := p) (by assumption)) _) (by omega) (by assumption) ?_; intro va wa hown1 hS1 hk1) | (refine step_app_pt (by rfl) (.tmp 14) (.tmp 16) (by rfl) v2 g p HTX.out (.slice (some ⟨v2.heap.size, 0, none⟩) 0 0) (0) [] (by rfl) (World.ownsRow.alloc (twP_new _ _ (Nat.le_refl _)) _) ⟨g, 2, none⟩ (m - 1) _ ((flatP l).drop 2) (by rfl) (by rw [List.length_drop, flatP_len, ← HM.out]; omega) (postP_news HRX.out (S4P.bel (b := g) (r := p) (by assumption)) _) (by omega) (by assumption) ?_; intro va wa hown1 hS1 hk1; have c51 := P2.kept (litP_new2 _ _ p) hk1 (by intro q hq; simp [Value.ownBlock] at hq; omega)) | (refine step_app_pt (by rfl) (.tmp 14) (.tmp 16) (by rfl) v2 g p HTX.out (.slice (some ⟨v2.heap.size + 1, 0, none⟩) 0 0) (0) [] (by rfl) (twP_new' _ _ _ (Nat.le_refl _)) ⟨g, 2, none⟩ (m - 1) _ ((flatP l).drop 2) (by rfl) (by rw [List.length_drop, flatP_len, ← HM.out]; omega) (postP_news HRX.out (S4P.bel (b := g) (r := p) (by assumption)) _) (by omega) (by assumption) ?_; intro va wa hown1 hS1 hk1; have c51 := P2.kept (litP_new3 _ _ p) hk1 (by intro q hq; simp [Value.ownBlock] at hq; omega)) | (refine step_app_pt (by rfl) (.tmp 17) (.tmp 21) (by rfl) v2 g p HTX.out va (0 + (m - 1)) ([] ++ ((flatP l).drop 2)) (by rfl) (by first | exact hown1 | exact World.ownsRow.alloc hown1 _) _ 1 _ (encP p) (by rfl) rfl (by first | exact P2.news c51 | exact P2.news (P2.new _ p _)) (by omega) (by assumption) ?_; intro v3 w3 hown3 hS3 hk3) | (fail))
        all_goals
          obtain ⟨l9, hl9, hf9⟩ := flatP_of (0 + (m - 1) + 1) ([] ++ (flatP l).drop 2 ++ encP p) (by rw [List.length_append, List.length_append, List.length_drop, flatP_len, encP_len, ← HM.out]; simp; omega)
          have HN := Lib.hid (FS.base (show PtS w3 v2.heap.size v3 l9 by unfold PtS FS; rw [hl9, hf9]; exact hown3) G2.out.size)
          have HL9 := Lib.hid (show l9.length ≤ 41 by omega)
          have C3 := Lib.hid (HC2.out.below hS3.2.2)
          have G3 := Lib.hid (grown_bel9 G2.out hS3.2.2)
          go_wp2
          go_ret
          exact ⟨_, l9, rfl, HN.out, HL9.out, C3.out.more (by omega), G3.out⟩
  · go_wp2_with fail
    refine (points_any _ b _ HC2.out (by omega)).mono ?_
    rintro e v3 ⟨u, l3, rfl, hv3, hl3, hc3, hg3⟩
    obtain ⟨A3, cap3, hv4, -, -⟩ := PtS.parts hv3
    subst hv4
    have HN := Lib.hid (FS.base hv3 G2.out.size)
    have G3 := Lib.hid (grown_trans G2.out hg3)
    clear hv3 hg3
    go_wp2
    go_ret
    exact ⟨_, l3, rfl, HN.out, hl3, hc3.more (by omega), G3.out⟩
/-- A drawn list of points; a drawn point; both; a drawn text. -/
def DrawsPs (w : World) (e : Ending) (w' : World) : Prop := ∃ v l, e = .returned v ∧ PtS w' w.heap.size v l ∧ l.length ≤ 41 ∧ Below w.heap.size w w'
def DrawsPt (w : World) (e : Ending) (w' : World) : Prop := ∃ p : Pt, e = .returned (ptV p) ∧ Below w.heap.size w w'
def DrawsPsPt (w : World) (e : Ending) (w' : World) : Prop := ∃ v l, ∃ p : Pt, e = .returned (.tuple #[v, ptV p]) ∧ PtS w' w.heap.size v l ∧ l.length ≤ 41 ∧ Below w.heap.size w w'
def DrawsTx (w : World) (e : Ending) (w' : World) : Prop := ∃ s : ByteArray, e = .returned (.string s) ∧ s.size ≤ 2000 ∧ Below w.heap.size w w'
theorem drawDrawIsPolygon_any (w : World) (A : Option Addr) (n cap : Nat) (h : RB w w.heap.size A n) (hn : n ≤ 1048576) : Calls Try.prog 28 #[.slice A n cap] w fun e w' => DrawsPs w e w' := by
  have hc := cur_new (cap := cap) h hn
  have hb0 := (Below.refl w.heap.size w).alloc (Nat.le_refl _) (.cells #[.slice A n cap, .int .i64 0, .int .u64 0] 49)
  go_enter Try.func28, Try.ntmps28
  go_wp2_with fail
  refine (anyPolygon_any _ _ _ hc (by omega)).mono ?_
  rintro e v1 ⟨v, l, rfl, hv, hl, hc1, hg1⟩
  obtain ⟨A1, cap1, hv1, -, -⟩ := PtS.parts hv
  subst hv1
  have B1 := bel_drawsP hb0 hg1 (Nat.le_refl _)
  have HV := Lib.hid (FS.base hv (show w.heap.size ≤ _ by simp))
  clear hv hc h hb0 hg1 hc1
  go_wp2
  go_ret
  exact ⟨_, l, rfl, HV.out, by omega, B1⟩
end Go.Proofs.Ytamejfeaniokfaa

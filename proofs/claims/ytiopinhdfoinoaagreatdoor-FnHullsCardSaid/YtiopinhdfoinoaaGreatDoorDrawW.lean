/-
  Polygons as the model draws them, and the draws of chapter 6: what each call returns.
  Condition: the cursor lies in a block of its own, over bytes; the bytes can be read.
-/
import Derived.Test.YtiopinhdfoinoaaGreatDoorDrawQ
import Derived.Test.YtiopinhdfoinoaaGreatDoorPgTxS
namespace Go.Proofs.YtiopinhdfoinoaaGreatDoor
set_option linter.unusedSimpArgs false
set_option linter.unusedVariables false
open Go.ChangeShapes Go.WideShapes Go.ChangeAt Go.RowKit

theorem grown_bel9 {a c d : World} {row : Option Nat} (h : a.grownBy c row) (hb : Below c.heap.size c d) : a.grownBy d row :=
  ⟨hb.os.trans h.os, hb.tape.trans h.tape, hb.output.trans h.output, Nat.le_trans h.size hb.size, fun k hk hne => (hb.block k (Nat.lt_of_lt_of_le hk h.size)).trans (h.block k hk hne)⟩
/-- A drawn polygon's points. -/
def PolyP (l : List Pt) : Prop := l ≠ [] ∧ l.length ≤ 41 ∧ ∀ q ∈ l, Sm 1000 q
set_option maxHeartbeats 1000000 in
theorem polygon_any (w : World) (b k : Nat) (h : Cur w b k) (hk : k ≤ 500000000) : Calls Tryz.prog 41 #[.pointer (some ⟨b, 0, none⟩)] w fun e w' => TakesPs PolyP b (k + 1000) w e w' := by
  have hbw := h.lt
  go_enter Tryz.func41, Tryz.ntmps41
  go_wp2_with fail
  refine (points_any _ b k h (by omega)).mono ?_
  rintro e v1 ⟨v, l, rfl, hv, hl, hc1, hg1⟩
  obtain ⟨A1, cap1, hv1, -, -⟩ := PtS.parts hv
  subst hv1
  have HV := Lib.hid hv
  have HC := Lib.hid hc1
  have HG := Lib.hid hg1
  have hsz := hg1.size
  clear hv hc1 hg1 h
  cases hq : ptsB l
  · have HQ := Lib.hid hq
    clear hq
    go_wp2_with fail
    refine (pyPoints_any _ _ _ l HV.out).mono ?_
    rintro e v2 ⟨rfl, b2⟩
    rw [HQ.out]
    have hN : PtS (v2.alloc (.cells #[.int .i64 0, .int .i64 0, .int .i64 2, .int .i64 0, .int .i64 0, .int .i64 2] 30)) v2.heap.size (.slice (some ⟨v2.heap.size, 0, none⟩) 3 3) [(0, 0), (2, 0), (0, 2)] :=
      World.ownsRow_lit v2 #[.int .i64 0, .int .i64 0, .int .i64 2, .int .i64 0, .int .i64 0, .int .i64 2] 3 (Nat.le_refl _) (by decide) rfl
    have HN := Lib.hid (FS.base hN (Nat.le_trans hsz b2.size))
    have C2 := Lib.hid (((HC.out.below b2).alloc (.cells #[.int .i64 0, .int .i64 0, .int .i64 2, .int .i64 0, .int .i64 0, .int .i64 2] 30)))
    have G2 := Lib.hid (grown_alloc (grown_bel9 HG.out b2) (.cells #[.int .i64 0, .int .i64 0, .int .i64 2, .int .i64 0, .int .i64 0, .int .i64 2] 30))
    clear hN b2
    go_wp2
    go_ret
    exact ⟨_, _, rfl, HN.out, ⟨by simp, by simp, fun q hq => by simp at hq; rcases hq with rfl | rfl | rfl <;> (unfold Sm; simp)⟩, C2.out, G2.out⟩
  · have HQ := Lib.hid hq
    clear hq
    go_wp2_with fail
    refine (pyPoints_any _ _ _ l HV.out).mono ?_
    rintro e v2 ⟨rfl, b2⟩
    rw [HQ.out]
    go_wp2_with fail
    refine (pyHull_any _ _ _ l (FS.below HV.out b2) (by omega) (fun q hq => (pts_sm HQ.out q hq).mono (by omega))).mono ?_
    rintro e v3 ⟨r, rfl, h3, b3⟩
    obtain ⟨A3, cap3, hv3, -, -⟩ := PtS.parts h3
    subst hv3
    have HN := Lib.hid (FS.base h3 (Nat.le_trans hsz b2.size))
    have hne : l ≠ [] := by intro e; have := ((ptsB_iff l).1 HQ.out).1; rw [e] at this; simp at this
    have HP := Lib.hid (show PolyP (hulL l) from ⟨hul_ne hne, Nat.le_trans (hul_le hne) hl, fun q hq => (pts_sm HQ.out q (hul_sub hne hq)).mono (by omega)⟩)
    have C2 := Lib.hid (HC.out.below (bel2 b2 b3))
    have G2 := Lib.hid (grown_bel9 HG.out (bel2 b2 b3))
    clear h3 b2 b3 hne
    go_wp2
    go_ret
    exact ⟨_, _, rfl, HN.out, HP.out, C2.out, G2.out⟩
set_option maxHeartbeats 4000000 in
set_option maxRecDepth 100000 in
theorem anyPolygon_any (w : World) (b k : Nat) (h : Cur w b k) (hk : k ≤ 400000000) : Calls Tryz.prog 39 #[.pointer (some ⟨b, 0, none⟩)] w fun e w' => TakesPs (fun l => l.length ≤ 41) b (k + 3000) w e w' := by
  have hbw := h.lt
  go_enter Tryz.func39, Tryz.ntmps39
  go_wp2_with fail
  refine (polygon_any _ b k h (by omega)).mono ?_
  rintro e v1 ⟨v, l, rfl, hv, ⟨hl1, hl2, -⟩, hc1, hg1⟩
  obtain ⟨A1, cap1, hv1, hmx, hpp⟩ := PtS.parts hv
  subst hv1
  have HV := Lib.hid hv
  have HG := Lib.hid hg1
  have HNE := Lib.hid hl1
  have hsz := hg1.size
  clear hv hg1 h hl1 hpp hmx
  obtain ⟨m, hm⟩ : ∃ m, m = l.length := ⟨_, rfl⟩
  have HM := Lib.hid hm
  have HL2 := Lib.hid hl2
  rw [← hm] at HV ⊢
  clear hm hl2
  go_wp2_with fail
  refine (pick_any 24 (by omega) _ b _ hc1 (by omega)).mono ?_
  rintro e v2 ⟨r, rfl, hr, hc2, hg2⟩
  have HC2 := Lib.hid hc2
  have G2 := Lib.hid (grown_trans HG.out hg2)
  have V2 := Lib.hid (show PtS v2 w.heap.size (.slice A1 m cap1) l from ptS_away HV.out hbw hg2)
  clear hr hc1 hc2 hg2
  cases h0 : r == 0
  · cases h1 : r == 1
    · cases h2 : r == 2
      · go_wp2
        go_ret
        exact ⟨_, l, rfl, V2.out, HL2.out, HC2.out.more (by omega), G2.out⟩
      · have hN : PtS (v2.alloc (.cells #[.int .i64 (-100), .int .i64 (-100), .int .i64 100, .int .i64 (-100), .int .i64 100, .int .i64 100] 30)) v2.heap.size (.slice (some ⟨v2.heap.size, 0, none⟩) 3 3) [(-100, -100), (100, -100), (100, 100)] :=
          World.ownsRow_lit v2 #[.int .i64 (-100), .int .i64 (-100), .int .i64 100, .int .i64 (-100), .int .i64 100, .int .i64 100] 3 (Nat.le_refl _) (by decide) rfl
        have HN := Lib.hid (FS.base hN G2.out.size)
        have C3 := Lib.hid (HC2.out.alloc (.cells #[.int .i64 (-100), .int .i64 (-100), .int .i64 100, .int .i64 (-100), .int .i64 100, .int .i64 100] 30))
        have G3 := Lib.hid (grown_alloc G2.out (.cells #[.int .i64 (-100), .int .i64 (-100), .int .i64 100, .int .i64 (-100), .int .i64 100, .int .i64 100] 30))
        clear hN
        go_wp2
        go_ret
        exact ⟨_, _, rfl, HN.out, by simp, C3.out.more (by omega), G3.out⟩
    · have hm1 : 1 ≤ m := by
        have := HNE.out
        rw [HM.out]
        exact List.length_pos_iff.2 this
      obtain ⟨A2, cap2, he2, hmx2, hp2⟩ := PtS.parts V2.out
      rw [← HM.out] at he2
      cases he2
      obtain ⟨g, rfl, a0, a1⟩ := hp2 0 (by rw [← HM.out]; omega)
      have HRX := Lib.hid (ptS_news HM.out V2.out)
      obtain ⟨p, hp⟩ : ∃ p, p = pd l 0 := ⟨_, rfl⟩
      rw [← hp] at a0 a1
      clear hp
      have HTX := Lib.hid (show P2 v2 g p from ⟨by simpa using a0, by simpa using a1⟩)
      have hmc : m ≤ cap1 := by
        rcases V2.out.2 with ⟨h9, -⟩ | ⟨g9, cap9, cur9, h9, h10, h11, h12, h13, h14, h15⟩
        · cases h9
        · simp at h9
          omega
      obtain ⟨t0, t1⟩ := HTX.out
      have hgl := cell_lt t0
      have hSX : S4P v2 g p v2 := S4P.of HTX.out (Below.refl _ _)
      by_cases hc : cap1 = 1
      · have hm0 : m = 1 := by omega
        have hc0 : ¬ cap1 = 0 := by omega
        clear hp2 a0 a1 hmc hm1
        subst hc
        subst hm0
        go_upto_region 6 with fail
        go_region_held3 (fun w' => S4P v2 g p w') (repeat' (first | with_reducible assumption | with_reducible refine S4P.drew ?_ | with_reducible refine S4P.drewN ?_ _ | with_reducible refine S4P.alloc ?_ _)) (first | (refine step_app_pt (by rfl) (.tmp 14) (.tmp 16) (by rfl) v2 g p HTX.out (.slice (some ⟨v2.heap.size, 0, none⟩) 0 0) (0) [] (by rfl) (twP_new _ _ (Nat.le_refl _)) _ 0 _ [] (by rfl) rfl (nilP_news rfl) (by omega) (by assumption) ?_; intro va wa hown1 hS1 hk1) | (refine step_app_pt (by rfl) (.tmp 14) (.tmp 16) (by rfl) v2 g p HTX.out (.slice (some ⟨v2.heap.size, 0, none⟩) 0 0) (0) [] (by rfl) (World.ownsRow.alloc (twP_new _ _ (Nat.le_refl _)) _) _ 0 _ [] (by rfl) rfl (nilP_news rfl) (by omega) (by assumption) ?_; intro va wa hown1 hS1 hk1; have c51 := P2.kept (litP_new2 _ _ p) hk1 (by intro q hq; simp [Value.ownBlock] at hq; omega)) | (refine step_app_pt (by rfl) (.tmp 14) (.tmp 16) (by rfl) v2 g p HTX.out (.slice (some ⟨v2.heap.size + 1, 0, none⟩) 0 0) (0) [] (by rfl) (twP_new' _ _ _ (Nat.le_refl _)) _ 0 _ [] (by rfl) rfl (nilP_news rfl) (by omega) (by assumption) ?_; intro va wa hown1 hS1 hk1; have c51 := P2.kept (litP_new3 _ _ p) hk1 (by intro q hq; simp [Value.ownBlock] at hq; omega)) | (refine step_app_pt (by rfl) (.tmp 17) (.tmp 21) (by rfl) v2 g p HTX.out va (0 + 0) ([] ++ []) (by rfl) (by first | exact hown1 | exact World.ownsRow.alloc hown1 _) _ 1 _ (encP p) (by rfl) rfl (by first | exact P2.news c51 | exact P2.news (P2.new _ p _)) (by omega) (by assumption) ?_; intro v3 w3 hown3 hS3 hk3) | (fail))
        all_goals
          have HN := Lib.hid (FS.base (show PtS w3 v2.heap.size v3 [p] from hown3) G2.out.size)
          have C3 := Lib.hid (HC2.out.below hS3.2.2)
          have G3 := Lib.hid (grown_bel9 G2.out hS3.2.2)
          go_wp2
          go_ret
          exact ⟨_, [p], rfl, HN.out, by simp, C3.out.more (by omega), G3.out⟩
      · have hc0 : ¬ cap1 = 0 := by omega
        have l1 : 1 ≤ cap1 := by omega
        have hm41 : m ≤ 41 := by rw [HM.out]; exact HL2.out
        have hm2 : (1 : Int) ≤ (m : Int) := by omega
        have hm3 : (0 : Int) < (m : Int) := by omega
        have hm4 : 0 < m := by omega
        have hm5 : ¬ m = 0 := by omega
        have hm6 : ¬ (m : Int) ≤ 0 := by omega
        clear hp2 a0 a1
        go_upto_region 6 with fail
        go_region_held3 (fun w' => S4P v2 g p w') (repeat' (first | with_reducible assumption | with_reducible refine S4P.drew ?_ | with_reducible refine S4P.drewN ?_ _ | with_reducible refine S4P.alloc ?_ _)) (first | (refine step_app_pt (by rfl) (.tmp 14) (.tmp 16) (by rfl) v2 g p HTX.out (.slice (some ⟨v2.heap.size, 0, none⟩) 0 0) (0) [] (by rfl) (twP_new _ _ (Nat.le_refl _)) ⟨g, 2, none⟩ (m - 1) _ ((flatP l).drop 2) (by rfl) (by rw [List.length_drop, flatP_len, ← HM.out]; omega) (postP_news HRX.out (S4P.bel (b := g) (r := p) (by assumption)) _) (by omega) (by assumption) ?_; intro va wa hown1 hS1 hk1) | (refine step_app_pt (by rfl) (.tmp 14) (.tmp 16) (by rfl) v2 g p HTX.out (.slice (some ⟨v2.heap.size, 0, none⟩) 0 0) (0) [] (by rfl) (World.ownsRow.alloc (twP_new _ _ (Nat.le_refl _)) _) ⟨g, 2, none⟩ (m - 1) _ ((flatP l).drop 2) (by rfl) (by rw [List.length_drop, flatP_len, ← HM.out]; omega) (postP_news HRX.out (S4P.bel (b := g) (r := p) (by assumption)) _) (by omega) (by assumption) ?_; intro va wa hown1 hS1 hk1; have c51 := P2.kept (litP_new2 _ _ p) hk1 (by intro q hq; simp [Value.ownBlock] at hq; omega)) | (refine step_app_pt (by rfl) (.tmp 14) (.tmp 16) (by rfl) v2 g p HTX.out (.slice (some ⟨v2.heap.size + 1, 0, none⟩) 0 0) (0) [] (by rfl) (twP_new' _ _ _ (Nat.le_refl _)) ⟨g, 2, none⟩ (m - 1) _ ((flatP l).drop 2) (by rfl) (by rw [List.length_drop, flatP_len, ← HM.out]; omega) (postP_news HRX.out (S4P.bel (b := g) (r := p) (by assumption)) _) (by omega) (by assumption) ?_; intro va wa hown1 hS1 hk1; have c51 := P2.kept (litP_new3 _ _ p) hk1 (by intro q hq; simp [Value.ownBlock] at hq; omega)) | (refine step_app_pt (by rfl) (.tmp 17) (.tmp 21) (by rfl) v2 g p HTX.out va (0 + (m - 1)) ([] ++ ((flatP l).drop 2)) (by rfl) (by first | exact hown1 | exact World.ownsRow.alloc hown1 _) _ 1 _ (encP p) (by rfl) rfl (by first | exact P2.news c51 | exact P2.news (P2.new _ p _)) (by omega) (by assumption) ?_; intro v3 w3 hown3 hS3 hk3) | (fail))
        all_goals
          obtain ⟨l9, hl9, hf9⟩ := flatP_of (0 + (m - 1) + 1) ([] ++ (flatP l).drop 2 ++ encP p) (by rw [List.length_append, List.length_append, List.length_drop, flatP_len, encP_len, ← HM.out]; simp; omega)
          have HN := Lib.hid (FS.base (show PtS w3 v2.heap.size v3 l9 by unfold PtS FS; rw [hl9, hf9]; exact hown3) G2.out.size)
          have HL9 := Lib.hid (show l9.length ≤ 41 by omega)
          have C3 := Lib.hid (HC2.out.below hS3.2.2)
          have G3 := Lib.hid (grown_bel9 G2.out hS3.2.2)
          go_wp2
          go_ret
          exact ⟨_, l9, rfl, HN.out, HL9.out, C3.out.more (by omega), G3.out⟩
  · go_wp2_with fail
    refine (points_any _ b _ HC2.out (by omega)).mono ?_
    rintro e v3 ⟨u, l3, rfl, hv3, hl3, hc3, hg3⟩
    obtain ⟨A3, cap3, hv4, -, -⟩ := PtS.parts hv3
    subst hv4
    have HN := Lib.hid (FS.base hv3 G2.out.size)
    have G3 := Lib.hid (grown_trans G2.out hg3)
    clear hv3 hg3
    go_wp2
    go_ret
    exact ⟨_, l3, rfl, HN.out, hl3, hc3.more (by omega), G3.out⟩
/-- A drawn list of points; a drawn point; both; a drawn text. -/
def DrawsPs (w : World) (e : Ending) (w' : World) : Prop := ∃ v l, e = .returned v ∧ PtS w' w.heap.size v l ∧ l.length ≤ 41 ∧ Below w.heap.size w w'
def DrawsPt (w : World) (e : Ending) (w' : World) : Prop := ∃ p : Pt, e = .returned (ptV p) ∧ Below w.heap.size w w'
def DrawsPsPt (w : World) (e : Ending) (w' : World) : Prop := ∃ v l, ∃ p : Pt, e = .returned (.tuple #[v, ptV p]) ∧ PtS w' w.heap.size v l ∧ l.length ≤ 41 ∧ Below w.heap.size w w'
def DrawsTx (w : World) (e : Ending) (w' : World) : Prop := ∃ s : ByteArray, e = .returned (.string s) ∧ s.size ≤ 2000 ∧ Below w.heap.size w w'
theorem drawDrawHullOf_any (w : World) (A : Option Addr) (n cap : Nat) (h : RB w w.heap.size A n) (hn : n ≤ 1048576) : Calls Tryz.prog 4 #[.slice A n cap] w fun e w' => DrawsPs w e w' := by
  have hc := cur_new (cap := cap) h hn
  have hb0 := (Below.refl w.heap.size w).alloc (Nat.le_refl _) (.cells #[.slice A n cap, .int .i64 0, .int .u64 0] 45)
  go_enter Tryz.func4, Tryz.ntmps4
  go_wp2_with fail
  refine (points_any _ _ _ hc (by omega)).mono ?_
  rintro e v1 ⟨v, l, rfl, hv, hl, hc1, hg1⟩
  obtain ⟨A1, cap1, hv1, -, -⟩ := PtS.parts hv
  subst hv1
  have B1 := bel_drawsP hb0 hg1 (Nat.le_refl _)
  have HV := Lib.hid (FS.base hv (show w.heap.size ≤ _ by simp))
  clear hv hc h hb0 hg1 hc1
  go_wp2
  go_ret
  exact ⟨_, l, rfl, HV.out, by omega, B1⟩
theorem drawDrawIsPolygon_any (w : World) (A : Option Addr) (n cap : Nat) (h : RB w w.heap.size A n) (hn : n ≤ 1048576) : Calls Tryz.prog 16 #[.slice A n cap] w fun e w' => DrawsPs w e w' := by
  have hc := cur_new (cap := cap) h hn
  have hb0 := (Below.refl w.heap.size w).alloc (Nat.le_refl _) (.cells #[.slice A n cap, .int .i64 0, .int .u64 0] 45)
  go_enter Tryz.func16, Tryz.ntmps16
  go_wp2_with fail
  refine (anyPolygon_any _ _ _ hc (by omega)).mono ?_
  rintro e v1 ⟨v, l, rfl, hv, hl, hc1, hg1⟩
  obtain ⟨A1, cap1, hv1, -, -⟩ := PtS.parts hv
  subst hv1
  have B1 := bel_drawsP hb0 hg1 (Nat.le_refl _)
  have HV := Lib.hid (FS.base hv (show w.heap.size ≤ _ by simp))
  clear hv hc h hb0 hg1 hc1
  go_wp2
  go_ret
  exact ⟨_, l, rfl, HV.out, by omega, B1⟩
theorem drawIsPoint_any (w : World) (A : Option Addr) (n cap : Nat) (h : RB w w.heap.size A n) (hn : n ≤ 1048576) : Calls Tryz.prog 17 #[.slice A n cap] w fun e w' => DrawsPt w e w' := by
  have hbA := (Below.refl w.heap.size w).alloc (Nat.le_refl _) (.cells #[.int .i64 0, .int .i64 0] 30)
  have hc := cur_new (cap := cap) (h.below hbA) hn
  have hb0 := bel2 hbA ((Below.refl _ _).alloc (Nat.le_refl _) (.cells #[.slice A n cap, .int .i64 0, .int .u64 0] 45))
  have R0 := (PB.new w (0, 0)).old (.cells #[.slice A n cap, .int .i64 0, .int .u64 0] 45)
  rw [World.size_alloc] at hc
  go_enter Tryz.func17, Tryz.ntmps17
  go_wp2_with fail
  refine (anyPoint_any _ _ _ hc (by omega)).mono ?_
  rintro e v1 ⟨p, rfl, hc1, hg1⟩
  have R1 := R0.away hg1 (by omega)
  have B1 := Lib.hid (bel_drawsP hb0 hg1 (by omega))
  have HR := Lib.hid R1
  obtain ⟨c0, c1⟩ := PB.p2 R1
  have f0 := Blk.frozen R1.blk 0
  have f1 := Blk.frozen R1.blk 1
  have hl := cell_lt c0
  clear R0 R1 hc hc1 hg1 hb0 hbA h
  go_wp2
  refine bodyPost_ret (P2.result (t := p) (g := w.heap.size) (HR.out.put p).p2 rfl rfl) rfl ?_
  exact ⟨p, rfl, (B1.out.setCell (Nat.le_refl _) _).setCell (Nat.le_refl _) _⟩
theorem P2.resultsS {w : World} {g : Nat} {t : Pt} (h : P2 w g t) {fn : Func} {p u : Tmp} {ts : Array Value} {v : Value} (hr : fn.results = #[.tmp u, .cell p 30]) (hp : ts.getD p undef = .pointer (some ⟨g, 0, none⟩)) (hu : ts.getD u undef = v) : (Go.results fn ts).run Tryz.prog w = .ok (.tuple #[v, ptV t]) w := by
  have hp' : ts[p]?.getD undef = .pointer (some ⟨g, 0, none⟩) := by simpa using hp
  have hu' : ts[u]?.getD undef = v := by simpa using hu
  have ha : (asAddr (Value.pointer (some ⟨g, 0, none⟩))).run Tryz.prog w = .ok ⟨g, 0, none⟩ w := rfl
  simp only [Go.results, hr]
  simp [Sem.run_bind, Result.andThen, hp', hu', ha, h.load]
set_option maxHeartbeats 2000000 in
set_option maxRecDepth 100000 in
theorem drawHasPoint_any (w : World) (A : Option Addr) (n cap : Nat) (h : RB w w.heap.size A n) (hn : n ≤ 1048576) : Calls Tryz.prog 20 #[.slice A n cap] w fun e w' => DrawsPsPt w e w' := by
  have hbA := (Below.refl w.heap.size w).alloc (Nat.le_refl _) (.cells #[.int .i64 0, .int .i64 0] 30)
  have hc := cur_new (cap := cap) (h.below hbA) hn
  have hb0 := bel2 hbA ((Below.refl _ _).alloc (Nat.le_refl _) (.cells #[.slice A n cap, .int .i64 0, .int .u64 0] 45))
  have R0 := (PB.new w (0, 0)).old (.cells #[.slice A n cap, .int .i64 0, .int .u64 0] 45)
  rw [World.size_alloc] at hc
  go_enter Tryz.func20, Tryz.ntmps20
  go_wp2_with fail
  refine (anyPolygon_any _ _ _ hc (by omega)).mono ?_
  rintro e v1 ⟨v, l, rfl, hv, hl, hc1, hg1⟩
  obtain ⟨A1, cap1, hv1, -, -⟩ := PtS.parts hv
  subst hv1
  have R1 := Lib.hid (R0.away hg1 (by omega))
  have B1 := Lib.hid (bel_drawsP hb0 hg1 (by omega))
  have V1 := Lib.hid (show PtS v1 (w.heap.size + 2) (.slice A1 l.length cap1) l from FS.base hv (by simp))
  have C1 := Lib.hid hc1
  clear R0 hc hc1 hg1 hb0 hbA h hv
  obtain ⟨m, hm⟩ : ∃ m, m = l.length := ⟨_, rfl⟩
  have HM := Lib.hid hm
  rw [← hm] at V1 hl ⊢
  have HL := Lib.hid (show l.length ≤ 41 by omega)
  clear hm
  have last : ∀ (W : World) (k : Nat), True := fun _ _ => trivial
  by_cases h0 : (0 : Int) < (m : Int)
  · go_wp2_with fail
    refine (one_any 3 (by omega) _ _ _ C1.out (by omega)).mono ?_
    rintro e v2 ⟨o, rfl, c2, g2⟩
    have R2 := Lib.hid (R1.out.away g2 (by omega))
    have B2 := Lib.hid (bel_drawsP B1.out g2 (by omega))
    have V2 := Lib.hid (ptS_away V1.out (by omega) g2)
    have C2 := Lib.hid c2
    clear c2 g2 R1 B1 V1 C1
    cases o
    · go_wp2_with fail
      refine (anyPoint_any _ _ _ C2.out (by omega)).mono ?_
      rintro e v3 ⟨p, rfl, c3, g3⟩
      have R3 := R2.out.away g3 (by omega)
      have B3 := Lib.hid (bel_drawsP B2.out g3 (by omega))
      have V3 := Lib.hid (FS.base (ptS_away V2.out (by omega) g3) (show w.heap.size ≤ w.heap.size + 2 by omega))
      have HR := Lib.hid R3
      obtain ⟨c0, c1⟩ := PB.p2 R3
      have f0 := Blk.frozen R3.blk 0
      have f1 := Blk.frozen R3.blk 1
      have hlc := cell_lt c0
      have VW := Lib.hid (show PtS ((v3.setCell ⟨w.heap.size, 0, none⟩ (.int .i64 p.1)).setCell ⟨w.heap.size, 1, none⟩ (.int .i64 p.2)) w.heap.size (.slice A1 m cap1) l from FS.keep V3.out fun g9 hg9 => by
        have hne : g9 ≠ w.heap.size := by have := (FS.lt V2.out g9 hg9).1; omega
        exact (heap_far _ _ 1 g9 _ hne).trans (heap_far _ _ 0 g9 _ hne))
      clear R2 V2 C2 R3 c3 g3 V3
      go_wp2
      refine bodyPost_ret (P2.resultsS (t := p) (g := w.heap.size) (HR.out.put p).p2 rfl rfl rfl) rfl ?_
      exact ⟨_, l, p, rfl, VW.out, HL.out, (B3.out.setCell (Nat.le_refl _) _).setCell (Nat.le_refl _) _⟩
    · go_upto_region 5 with fail
      have C2d : Hid (Cur v2.drew (w.heap.size + 1) _) := Lib.hid (C2.out.drewN 1)
      have V2d : Hid (PtS v2.drew (w.heap.size + 2) (.slice A1 m cap1) l) := Lib.hid V2.out
      have R2d : Hid (PB v2.drew w.heap.size (0, 0)) := Lib.hid R2.out
      have B2d : Hid (Below w.heap.size w v2.drew) := Lib.hid (belN B2.out 1)
      clear C2 V2 R2 B2
      go_region_with (go_at_call 42; refine (pick_any m (by omega) _ _ _ C2d.out (by omega)).mono ?_; rintro e v3 ⟨r, rfl, hr, c3, g3⟩; obtain ⟨r', hr'⟩ : ∃ r' : Nat, r = (r' : Int) := ⟨r.toNat, by obtain ⟨q1, -⟩ := hr; omega⟩; have hrn : r' < m := (by obtain ⟨q1, q2⟩ := hr; omega); have hrn2 : (r' : Int) < (m : Int) := (by omega); subst hr'; have V3 := ptS_away V2d.out (by omega) g3; have R3 := R2d.out.away g3 (by omega); have B3 := Lib.hid (bel_drawsP B2d.out g3 (by omega)); obtain ⟨A2, cap2, he2, -, hp2⟩ := PtS.parts V3; rw [← HM.out] at he2; cases he2; obtain ⟨g, hg9, a0, a1⟩ := hp2 r' (by rw [← HM.out]; exact hrn); subst hg9; generalize pd l r' = p at a0 a1; have HR := Lib.hid R3; have HV3 := Lib.hid V3; obtain ⟨c0, c1⟩ := PB.p2 R3; have f0 := Blk.frozen R3.blk 0; have f1 := Blk.frozen R3.blk 1; have hlc := cell_lt c0; have hlg := cell_lt a0; clear hp2 hr c3 g3 V3 R3)
      all_goals
        have VW := Lib.hid (show PtS ((v3.setCell ⟨w.heap.size, 0, none⟩ (.int .i64 p.1)).setCell ⟨w.heap.size, 1, none⟩ (.int .i64 p.2)) w.heap.size (.slice (some ⟨g, 0, none⟩) m cap1) l from FS.keep (FS.base HV3.out (show w.heap.size ≤ w.heap.size + 2 by omega)) fun g9 hg9 => by
          have hne : g9 ≠ w.heap.size := by have := (FS.lt HV3.out g9 hg9).1; omega
          exact (heap_far _ _ 1 g9 _ hne).trans (heap_far _ _ 0 g9 _ hne))
        go_wp2
        refine bodyPost_ret (P2.resultsS (t := p) (g := w.heap.size) (HR.out.put p).p2 rfl rfl rfl) rfl ?_
        exact ⟨_, l, p, rfl, VW.out, HL.out, (B3.out.setCell (Nat.le_refl _) _).setCell (Nat.le_refl _) _⟩
  · go_wp2_with fail
    refine (anyPoint_any _ _ _ C1.out (by omega)).mono ?_
    rintro e v3 ⟨p, rfl, c3, g3⟩
    have R3 := R1.out.away g3 (by omega)
    have B3 := Lib.hid (bel_drawsP B1.out g3 (by omega))
    have V3 := Lib.hid (FS.base (ptS_away V1.out (by omega) g3) (show w.heap.size ≤ w.heap.size + 2 by omega))
    have HR := Lib.hid R3
    obtain ⟨c0, c1⟩ := PB.p2 R3
    have f0 := Blk.frozen R3.blk 0
    have f1 := Blk.frozen R3.blk 1
    have hlc := cell_lt c0
    have VW := Lib.hid (show PtS ((v3.setCell ⟨w.heap.size, 0, none⟩ (.int .i64 p.1)).setCell ⟨w.heap.size, 1, none⟩ (.int .i64 p.2)) w.heap.size (.slice A1 m cap1) l from FS.keep V3.out fun g9 hg9 => by
      have hne : g9 ≠ w.heap.size := by have := (FS.lt V1.out g9 hg9).1; omega
      exact (heap_far _ _ 1 g9 _ hne).trans (heap_far _ _ 0 g9 _ hne))
    clear R1 V1 C1 R3 c3 g3 V3
    go_wp2
    refine bodyPost_ret (P2.resultsS (t := p) (g := w.heap.size) (HR.out.put p).p2 rfl rfl rfl) rfl ?_
    exact ⟨_, l, p, rfl, VW.out, HL.out, (B3.out.setCell (Nat.le_refl _) _).setCell (Nat.le_refl _) _⟩
def pySpoils : List ByteArray := [⟨#[]⟩, ⟨#[59]⟩, ⟨#[48, 44, 48, 59]⟩, ⟨#[48, 44, 48]⟩, ⟨#[48, 44, 48, 59, 50, 44, 48, 59, 48, 44, 50, 59]⟩, ⟨#[50, 44, 48, 59, 48, 44, 50, 59, 48, 44, 48, 59]⟩, ⟨#[45, 48, 44, 48, 59]⟩, ⟨#[48, 49, 44, 48, 59]⟩, ⟨#[48, 44, 48, 59, 49, 44, 48, 59, 50, 44, 48, 59]⟩, ⟨#[49, 48, 49, 44, 48, 59]⟩]
theorem pySpoils_len {s : ByteArray} (h : s ∈ pySpoils) : s.size ≤ 2000 := by
  have : pySpoils.all (fun s => decide (s.size ≤ 2000)) = true := by decide
  exact of_decide_eq_true (List.all_eq_true.1 this s h)
theorem drawParsePolygon_any (w : World) (A : Option Addr) (n cap : Nat) (h : RB w w.heap.size A n) (hn : n ≤ 1048576) : Calls Tryz.prog 18 #[.slice A n cap] w fun e w' => DrawsTx w e w' := by
  have hc := cur_new (cap := cap) h hn
  have hb0 := (Below.refl w.heap.size w).alloc (Nat.le_refl _) (.cells #[.slice A n cap, .int .i64 0, .int .u64 0] 45)
  go_enter Tryz.func18, Tryz.ntmps18
  go_wp2_with fail
  refine (polygon_any _ _ 0 hc (by omega)).mono ?_
  rintro e v1 ⟨v, l, rfl, hv, ⟨-, hl2, hl3⟩, hc1, hg1⟩
  obtain ⟨A1, cap1, hv1, -, -⟩ := PtS.parts hv
  subst hv1
  have HV := Lib.hid hv
  have HS := Lib.hid hl3
  have B1 := bel_drawsP hb0 hg1 (Nat.le_refl _)
  clear hv hl3 hc h
  go_wp2_with fail
  refine (pyText_any _ _ _ l HV.out (by omega) (fun t ht => (HS.out t ht).mono (by omega))).mono ?_
  rintro e v2 ⟨rfl, b2⟩
  have HT := Lib.hid (show (ByteArray.mk (pyA l).toArray).size ≤ 984 by
    have := pyT_len (l := l) (fun t ht => (HS.out t ht).mono (by omega)) l.length (Nat.le_refl _)
    show (pyA l).toArray.size ≤ 984
    unfold pyA
    simp only [List.size_toArray]
    omega)
  have hc2 := hc1.below b2
  have B2 := Lib.hid (bel2 B1 b2)
  generalize hT : (ByteArray.mk (pyA l).toArray) = T at *
  clear hT B1 b2 hc1 hg1 HV HS
  go_wp2_with fail
  refine (pick_any 4 (by omega) _ _ _ hc2 (by omega)).mono ?_
  rintro e v3 ⟨r, rfl, -, hc3, hg3⟩
  have B3 := Lib.hid (bel_drawsP B2.out hg3 (Nat.le_refl _))
  cases e0 : r == 0
  · cases e1 : r == 1
    · go_wp2
      go_ret
      exact ⟨T, rfl, by have := HT.out; omega, B3.out⟩
    · have l3 := hc3.lt
      go_wp2_with fail
      refine (of_any _ _ _ v3.heap.size _ pySpoils (QS.lit v3 pySpoils (by decide)) (lit_away l3) (by decide) (hc3.alloc _) (by omega)).mono ?_
      rintro e v4 ⟨s, rfl, hs, hc4, hg4⟩
      have HSP := Lib.hid (pySpoils_len hs)
      have B4 := Lib.hid (bel_drawsP (B3.out.alloc B3.out.size _) hg4 (Nat.le_refl _))
      clear hs
      go_wp2
      go_ret
      exact ⟨s, rfl, HSP.out, B4.out⟩
  · go_wp2_with fail
    refine (spoilt_any T _ 984 HT.out (by omega) (by decide) _ _ _ hc3 (by omega)).mono ?_
    rintro e v4 ⟨s, rfl, hs, hc4, hg4⟩
    have B4 := Lib.hid (bel_drawsP B3.out hg4 (Nat.le_refl _))
    go_wp2
    go_ret
    exact ⟨s, rfl, by omega, B4.out⟩
end Go.Proofs.YtiopinhdfoinoaaGreatDoor

/-
  Points and lists of points as the model draws them: what each call returns.
  Condition: the cursor lies in a block of its own, over bytes.
-/
import Derived.Test.YtamejfeaniokfaaDrawP
import Derived.Test.YtamejfeaniokfaaPgI
namespace Go.Proofs.Ytamejfeaniokfaa
set_option linter.unusedSimpArgs false
set_option linter.unusedVariables false
open Go.ChangeShapes Go.WideShapes Go.ChangeAt Go.RowKit

/-- A point's block. -/
def PB (w : World) (g : Nat) (p : Pt) : Prop := Blk w g 35 #[.int .i64 p.1, .int .i64 p.2]
theorem PB.new (w : World) (p : Pt) : PB (w.alloc (.cells #[.int .i64 p.1, .int .i64 p.2] 35)) w.heap.size p := heap_alloc_new w _
theorem Blk.away {w w' : World} {g c : Nat} {t : TypeId} {cs : Array Value} (h : Blk w g t cs) (hg : w.grownBy w' (some c)) (hne : g ≠ c) : Blk w' g t cs := (hg.block g h.lt (fun e => hne (by injection e))).trans h
theorem Blk.below {w w' : World} {g : Nat} {t : TypeId} {cs : Array Value} (h : Blk w g t cs) (hb : Below w.heap.size w w') : Blk w' g t cs := (hb.block g h.lt).trans h
theorem Blk.old {w : World} {g : Nat} {t : TypeId} {cs : Array Value} (h : Blk w g t cs) (o : Obj) : Blk (w.alloc o) g t cs := h.below ((Below.refl _ _).alloc (Nat.le_refl _) o)
theorem Blk.oth {w : World} {g g' i : Nat} {t : TypeId} {cs : Array Value} {v : Value} (h : Blk w g t cs) (hne : g ≠ g') : Blk (w.setCell ⟨g', i, none⟩ v) g t cs := (heap_far w g' i g v hne).trans h
theorem PB.blk {w : World} {g : Nat} {p : Pt} (h : PB w g p) : Blk w g 35 #[.int .i64 p.1, .int .i64 p.2] := h
theorem PB.away {w w' : World} {g c : Nat} {p : Pt} (h : PB w g p) (hg : w.grownBy w' (some c)) (hne : g ≠ c) : PB w' g p := Blk.away h.blk hg hne
theorem PB.below {w w' : World} {g : Nat} {p : Pt} (h : PB w g p) (hb : Below w.heap.size w w') : PB w' g p := Blk.below h.blk hb
theorem PB.old {w : World} {g : Nat} {p : Pt} (h : PB w g p) (o : Obj) : PB (w.alloc o) g p := Blk.old h.blk o
theorem PB.oth {w : World} {g g' i : Nat} {p : Pt} {v : Value} (h : PB w g p) (hne : g ≠ g') : PB (w.setCell ⟨g', i, none⟩ v) g p := Blk.oth h.blk hne
theorem PB.lt {w : World} {g : Nat} {p : Pt} (h : PB w g p) : g < w.heap.size := h.blk.lt
theorem PB.put {w : World} {g : Nat} {s : Pt} (h : PB w g s) (p : Pt) : PB ((w.setCell ⟨g, 0, none⟩ (.int .i64 p.1)).setCell ⟨g, 1, none⟩ (.int .i64 p.2)) g p := by
  have := (Blk.set_ h.blk 0 (.int .i64 p.1)).set_ 1 (.int .i64 p.2)
  unfold PB
  simpa using this
theorem PB.put0 {w : World} {g : Nat} {s : Pt} (h : PB w g s) (u : Int) : PB (w.setCell ⟨g, 0, none⟩ (.int .i64 u)) g (u, s.2) := by
  have := Blk.set_ h.blk 0 (.int .i64 u)
  unfold PB
  simpa using this
theorem PB.put1 {w : World} {g : Nat} {s : Pt} (h : PB w g s) (u : Int) : PB (w.setCell ⟨g, 1, none⟩ (.int .i64 u)) g (s.1, u) := by
  have := Blk.set_ h.blk 1 (.int .i64 u)
  unfold PB
  simpa using this
theorem PB.p2 {w : World} {g : Nat} {p : Pt} (h : PB w g p) : P2 w g p := ⟨by rw [Blk.cell h.blk]; rfl, by rw [Blk.cell h.blk]; rfl⟩
theorem Cur.setQ {w : World} {b k g i : Nat} {u : Value} (h : Cur w b k) (hg : b < g) : Cur (w.setCell ⟨g, i, none⟩ u) b k :=
  h.same fun j hj => heap_far w g i j u (by omega)
theorem grown_set2Q {a w : World} {row : Option Nat} {g : Nat} {u v : Value} (h : a.grownBy w row) (hg : a.heap.size ≤ g) : a.grownBy ((w.setCell ⟨g, 0, none⟩ u).setCell ⟨g, 1, none⟩ v) row := grown_setD (grown_setD h hg) hg
/-- A drawn point; a drawn list of points. -/
def TakesPt (b k : Nat) (w : World) (e : Ending) (w' : World) : Prop := ∃ p : Pt, e = .returned (ptV p) ∧ Cur w' b k ∧ w.grownBy w' (some b)
def TakesPs (P : List Pt → Prop) (b k : Nat) (w : World) (e : Ending) (w' : World) : Prop := ∃ v l, e = .returned v ∧ PtS w' w.heap.size v l ∧ P l ∧ Cur w' b k ∧ w.grownBy w' (some b)
set_option maxHeartbeats 1000000 in
theorem point_any (w : World) (b k : Nat) (h : Cur w b k) (hk : k ≤ 800000000) : Calls Try.prog 60 #[.pointer (some ⟨b, 0, none⟩)] w fun e w' => TakesPt b (k + 4) w e w' := by
  have hl := h.lt
  have R0 := PB.new w (0, 0)
  go_enter Try.func60, Try.ntmps60
  go_wp2_with fail
  refine (pick_any 9 (by omega) _ b k (h.alloc _) (by omega)).mono ?_
  rintro e v1 ⟨x, rfl, hx, hc1, hg1⟩
  obtain ⟨qx1, qx2⟩ := hx
  have qx3 : x ≤ 9 := by omega
  have qx : IntKind.i64.wrap (x - 4) = x - 4 := IntWalk.i64_in _ (by omega)
  clear qx2
  have R1 := R0.away hg1 (by omega)
  go_wp2_with fail
  refine (pick_any 9 (by omega) _ b _ hc1 (by omega)).mono ?_
  rintro e v2 ⟨y, rfl, hy, hc2, hg2⟩
  obtain ⟨qy1, qy2⟩ := hy
  have qy3 : y ≤ 9 := by omega
  have qy : IntKind.i64.wrap (y - 4) = y - 4 := IntWalk.i64_in _ (by omega)
  clear qy2
  have R2 := R1.away hg2 (by omega)
  have HR := Lib.hid R2
  have HG := Lib.hid (grown_trans (grown_alloc (World.grownBy.refl w (some b)) _) (grown_trans hg1 hg2))
  obtain ⟨c0, c1⟩ := PB.p2 R2
  have f0 := Blk.frozen R2.blk 0
  have f1 := Blk.frozen R2.blk 1
  have hlr := cell_lt c0
  clear R0 R1 R2 hg1 hg2 hc1
  go_wp2
  refine bodyPost_ret (P2.result (t := (x - 4, y - 4)) (g := w.heap.size) (HR.out.put (x - 4, y - 4)).p2 rfl rfl) rfl ?_
  exact ⟨(x - 4, y - 4), rfl, (hc2.more (by omega)).set2 hl, grown_set2Q HG.out (Nat.le_refl _)⟩
set_option maxHeartbeats 2000000 in
set_option maxRecDepth 100000 in
theorem anyPoint_any (w : World) (b k : Nat) (h : Cur w b k) (hk : k ≤ 700000000) : Calls Try.prog 36 #[.pointer (some ⟨b, 0, none⟩)] w fun e w' => TakesPt b (k + 16) w e w' := by
  have hl := h.lt
  have R0 := PB.new w (0, 0)
  go_enter Try.func36, Try.ntmps36
  go_wp2_with fail
  refine (point_any _ b k (h.alloc _) (by omega)).mono ?_
  rintro e v1 ⟨p, rfl, hc1, hg1⟩
  have R1 := (R0.away hg1 (by omega)).old (.cells #[.int .i64 p.1, .int .i64 p.2] 35)
  have L1 := PB.new v1 p
  have G1 := grown_alloc (grown_trans (grown_alloc (World.grownBy.refl w (some b)) (.cells #[.int .i64 0, .int .i64 0] 35)) hg1) (.cells #[.int .i64 p.1, .int .i64 p.2] 35)
  have hc1' := hc1.alloc (.cells #[.int .i64 p.1, .int .i64 p.2] 35)
  have hs1 : w.heap.size < v1.heap.size := (R0.away hg1 (by omega)).lt
  obtain ⟨L, hL⟩ : ∃ L, L = v1.heap.size := ⟨_, rfl⟩
  have HLB := Lib.hid (show b < L ∧ w.heap.size < L by omega)
  clear R0 hg1 hc1
  go_wp2_with fail
  refine (pick_any 30 (by omega) _ b _ hc1' (by omega)).mono ?_
  rintro e v2 ⟨r, rfl, hr, hc2, hg2⟩
  have R2 := Lib.hid (R1.away hg2 (by omega))
  have L2 := L1.away hg2 (by omega)
  rw [← hL] at L2 ⊢
  have L2 := Lib.hid L2
  have G2 := Lib.hid (grown_trans G1 hg2)
  clear hr R1 L1 G1 hc1' hg2 hL hs1
  have HC2 := Lib.hid hc2
  clear hc2
  cases h0 : r == 0
  · cases h1 : r == 1
    · obtain ⟨c0, c1⟩ := PB.p2 L2.out
      obtain ⟨d0, d1⟩ := PB.p2 R2.out
      have f0 := Blk.frozen R2.out.blk 0
      have f1 := Blk.frozen R2.out.blk 1
      have lc := cell_lt c0
      have ld := cell_lt d0
      go_wp2
      refine bodyPost_ret (P2.result (t := p) (g := w.heap.size) (R2.out.put p).p2 rfl rfl) rfl ?_
      exact ⟨p, rfl, (HC2.out.more (by omega)).set2 hl, grown_set2Q G2.out (Nat.le_refl _)⟩
    · have hl2 := HC2.out.lt
      go_wp2_with fail
      refine (among_any _ b _ v2.heap.size _ [100, -100, -101, 9223372036854775807] (IS.litC v2 [100, -100, -101, 9223372036854775807] (by simp)) (lit_away hl2) (by simp) (HC2.out.alloc _) (by omega)).mono ?_
      rintro e v3 ⟨x, rfl, -, hc3, hg3⟩
      have R3 := Lib.hid ((R2.out.old (.cells (ints [100, -100, -101, 9223372036854775807]).toArray 3)).away hg3 (by omega))
      have L3 := (L2.out.old (.cells (ints [100, -100, -101, 9223372036854775807]).toArray 3)).away hg3 (by have := HLB.out; omega)
      have G3 := grown_trans (grown_alloc G2.out (.cells (ints [100, -100, -101, 9223372036854775807]).toArray 3)) hg3
      have hne : w.heap.size ≠ L := by have := HLB.out; omega
      have HRW := Lib.hid (R3.out.oth (i := 1) (v := .int .i64 x) hne)
      have HLW := Lib.hid (L3.put1 x)
      have HC := Lib.hid (show Cur (v3.setCell ⟨L, 1, none⟩ (.int .i64 x)) b (k + 16) from (Cur.setQ hc3 HLB.out.1).more (by omega))
      have HG := Lib.hid (grown_setD (i := 1) (v := .int .i64 x) G3 (show w.heap.size ≤ L by have := HLB.out; omega))
      obtain ⟨c0, c1⟩ := PB.p2 L3
      have f0 := Blk.frozen L3.blk 1
      have lc := cell_lt c0
      clear hc3 hg3 L3 G3 R3 hne
      go_upto_region 7 with fail
      obtain ⟨W, hW⟩ : ∃ W, W = v3.setCell ⟨L, 1, none⟩ (.int .i64 x) := ⟨_, rfl⟩
      rw [← hW] at HRW HLW HC HG ⊢
      clear hW c0 c1 f0 lc
      obtain ⟨c0, c1⟩ := PB.p2 HLW.out
      obtain ⟨d0, d1⟩ := PB.p2 HRW.out
      have f0 := Blk.frozen HRW.out.blk 0
      have f1 := Blk.frozen HRW.out.blk 1
      have lc := cell_lt c0
      have ld := cell_lt d0
      go_wp2
      refine bodyPost_ret (P2.result (t := (p.1, x)) (g := w.heap.size) (HRW.out.put (p.1, x)).p2 rfl rfl) rfl ?_
      exact ⟨(p.1, x), rfl, HC.out.set2 hl, grown_set2Q HG.out (Nat.le_refl _)⟩
  · have hl2 := HC2.out.lt
    go_wp2_with fail
    refine (among_any _ b _ v2.heap.size _ [100, -100, 101, -9223372036854775808] (IS.litC v2 [100, -100, 101, -9223372036854775808] (by simp)) (lit_away hl2) (by simp) (HC2.out.alloc _) (by omega)).mono ?_
    rintro e v3 ⟨x, rfl, -, hc3, hg3⟩
    have R3 := Lib.hid ((R2.out.old (.cells (ints [100, -100, 101, -9223372036854775808]).toArray 3)).away hg3 (by omega))
    have L3 := (L2.out.old (.cells (ints [100, -100, 101, -9223372036854775808]).toArray 3)).away hg3 (by have := HLB.out; omega)
    have G3 := grown_trans (grown_alloc G2.out (.cells (ints [100, -100, 101, -9223372036854775808]).toArray 3)) hg3
    have hne : w.heap.size ≠ L := by have := HLB.out; omega
    have HRW := Lib.hid (R3.out.oth (i := 0) (v := .int .i64 x) hne)
    have HLW := Lib.hid (L3.put0 x)
    have HC := Lib.hid (show Cur (v3.setCell ⟨L, 0, none⟩ (.int .i64 x)) b (k + 16) from (Cur.setQ hc3 HLB.out.1).more (by omega))
    have HG := Lib.hid (grown_setD (i := 0) (v := .int .i64 x) G3 (show w.heap.size ≤ L by have := HLB.out; omega))
    obtain ⟨c0, c1⟩ := PB.p2 L3
    have f0 := Blk.frozen L3.blk 0
    have lc := cell_lt c0
    clear hc3 hg3 L3 G3 R3 hne
    go_upto_region 7 with fail
    obtain ⟨W, hW⟩ : ∃ W, W = v3.setCell ⟨L, 0, none⟩ (.int .i64 x) := ⟨_, rfl⟩
    rw [← hW] at HRW HLW HC HG ⊢
    clear hW c0 c1 f0 lc
    obtain ⟨c0, c1⟩ := PB.p2 HLW.out
    obtain ⟨d0, d1⟩ := PB.p2 HRW.out
    have f0 := Blk.frozen HRW.out.blk 0
    have f1 := Blk.frozen HRW.out.blk 1
    have lc := cell_lt c0
    have ld := cell_lt d0
    go_wp2
    refine bodyPost_ret (P2.result (t := (x, p.2)) (g := w.heap.size) (HRW.out.put (x, p.2)).p2 rfl rfl) rfl ?_
    exact ⟨(x, p.2), rfl, HC.out.set2 hl, grown_set2Q HG.out (Nat.le_refl _)⟩
theorem ptS_away {w w' : World} {B b : Nat} {v : Value} {l : List Pt} (h : PtS w B v l) (hB : b < B) (hg : w.grownBy w' (some b)) : PtS w' B v l :=
  FS.other h hg fun g hg' e => by have := (FS.lt h g hg').1; injection e with e; omega

theorem grown_gr {a w w' : World} {row : Option Nat} (h : a.grownBy w row) (g : Gr w w') : a.grownBy w' row := by
  have b := g.below
  exact ⟨b.os.trans h.os, b.tape.trans h.tape, b.output.trans h.output, Nat.le_trans h.size b.size, fun k hk hne => (b.block k (Nat.lt_of_lt_of_le hk h.size)).trans (h.block k hk hne)⟩
set_option maxHeartbeats 4000000 in
set_option maxRecDepth 100000 in
theorem points_any (w : World) (b k : Nat) (h : Cur w b k) (hk : k ≤ 600000000) : Calls Try.prog 59 #[.pointer (some ⟨b, 0, none⟩)] w fun e w' => TakesPs (fun l => l.length ≤ 41) b (k + 1000) w e w' := by
  have hbw := h.lt
  go_enter Try.func59, Try.ntmps59
  go_wp2_with fail
  refine (pick_any 7 (by omega) _ b k h (by omega)).mono ?_
  rintro e v1 ⟨r, rfl, hr, hc1, hg1⟩
  have hr' : 0 ≤ r ∧ r ≤ 7 := by obtain ⟨q1, q2⟩ := hr; omega
  have q4 : IntKind.i64.wrap (1 + r) = 1 + r := IntWalk.i64_in _ (by omega)
  clear hr h
  go_wp2_with fail
  refine (one_any 12 (by omega) _ b _ hc1 (by omega)).mono ?_
  rintro e v2 ⟨o, rfl, hc2, hg2⟩
  have G2 := grown_trans hg1 hg2
  clear hc1 hg1 hg2
  go_upto_if 11 with fail
  go_cut [4] (fun x wx => ∃ n : Nat, x = .int .i64 n ∧ n ≤ 41 ∧ Cur wx b (k + 6) ∧ w.grownBy wx (some b))
  case first =>
    cases o
    · go_wp2_with fail
      go_meet
      exact ⟨(1 + r).toNat, by rw [Int.toNat_of_nonneg (by omega)], by omega, hc2.more (by omega), G2⟩
    · have hl2 := hc2.lt
      go_wp2_with fail
      refine (among_any _ b _ v2.heap.size _ [0, 40, 41] (IS.litC v2 [0, 40, 41] (by simp)) (lit_away hl2) (by simp) (hc2.alloc _) (by omega)).mono ?_
      rintro e v3 ⟨x, rfl, hx, hc3, hg3⟩
      have hx' : 0 ≤ x ∧ x ≤ 41 := by simp at hx; omega
      clear hx
      go_wp2_with fail
      go_meet
      exact ⟨x.toNat, by rw [Int.toNat_of_nonneg hx'.1], by omega, hc3.more (by omega), grown_trans (grown_alloc G2 _) hg3⟩
  case rest =>
    obtain ⟨n, rfl, hn, hc3, G3⟩ := hcut
    clear hc2 G2
    go_wp2_with fail
    go_loopw [3] (fun o wr => ∃ (l : List Pt) (vo : Value), vo = o ∧ l.length ≤ n ∧ Hid (PtS wr w.heap.size vo l) ∧ Hid (Cur wr b (k + 6 + 20 * l.length)) ∧ Hid (w.grownBy wr (some b))) (fun o _ => 60 - lenP o)
    case atStart => exact ⟨[], _, rfl, by simp, Lib.hid (FS.nil_ _ _ _ _), Lib.hid hc3, Lib.hid G3⟩
    case round =>
      clear hc3 G3
      obtain ⟨l, vo, hov, hl, ho, hcr, hgr⟩ := hrel
      subst hov
      obtain ⟨A', cap', hv', -, hpp⟩ := PtS.parts ho.out
      subst hv'
      have HPP := Lib.hid hpp
      clear hpp
      by_cases hlt : l.length < n
      · obtain ⟨K, hK⟩ : ∃ K, K = l.length := ⟨_, rfl⟩
        have HK := Lib.hid hK
        rw [← hK] at ho hcr hl hlt ⊢
        clear hK
        have hKn : (K : Int) < (n : Int) := by omega
        go_wp2_with fail
        refine (point_any _ b _ hcr.out (by omega)).mono ?_
        rintro e x1 ⟨p, rfl, c1, g1⟩
        have hsb : b < x1.heap.size := c1.lt
        obtain ⟨L, hL⟩ : ∃ L, L = x1.heap.size := ⟨_, rfl⟩
        have O1 := Lib.hid (show PtS (x1.alloc (.cells #[.int .i64 p.1, .int .i64 p.2] 35)) w.heap.size (.slice A' K cap') l from FS.alloc (ptS_away (by rw [HK.out]; rw [← HK.out]; exact ho.out) hbw g1) _)
        have P1 := Lib.hid (PB.new x1 p)
        have C1 := Lib.hid (c1.alloc (.cells #[.int .i64 p.1, .int .i64 p.2] 35))
        have G1 := Lib.hid (grown_alloc (grown_trans hgr.out g1) (.cells #[.int .i64 p.1, .int .i64 p.2] 35))
        have HLB := Lib.hid (show b < L ∧ w.heap.size ≤ L by have := (grown_trans hgr.out g1).size; omega)
        have HLT := Lib.hid (show ∀ g, (Value.slice A' K cap').ownBlock = some g → g < L from fun g hg => by
          have h1 := (FS.lt (show FS 35 2 wr w.heap.size (.slice A' K cap') l.length (flatP l) from ho.out) g hg).2
          have h2 := g1.size
          omega)
        go_upto_region 8 with fail
        obtain ⟨W1, hW1⟩ : ∃ W1, W1 = x1.alloc (.cells #[.int .i64 p.1, .int .i64 p.2] 35) := ⟨_, rfl⟩
        rw [← hW1] at O1 P1 C1 G1 ⊢
        rw [← hL] at P1 ⊢
        clear hW1 hL c1 g1 ho hcr hgr HPP hsb
        go_cut [28] (fun x wx => ∃ o : Bool, x = .bool o ∧ Hid (o = true → 1 < K) ∧ Hid (PtS wx w.heap.size (.slice A' K cap') l) ∧ Hid (PB wx L p) ∧ Hid (Cur wx b (k + 6 + 20 * K + 6)) ∧ Hid (w.grownBy wx (some b)))
        case first =>
          by_cases h1 : (1 : Int) < (K : Int)
          · go_wp2_with fail
            refine (one_any 4 (by omega) _ b _ C1.out (by omega)).mono ?_
            rintro e x2 ⟨o, rfl, c2, g2⟩
            have O2 := Lib.hid (ptS_away O1.out hbw g2)
            have P2' := Lib.hid (P1.out.away g2 (by have := HLB.out; omega))
            have C2 := Lib.hid (c2.more (show _ ≤ k + 6 + 20 * K + 6 by omega))
            have G2 := Lib.hid (grown_trans G1.out g2)
            clear c2 g2 O1 P1 C1 G1
            go_wp2
            go_meet
            exact ⟨o, rfl, Lib.hid fun _ => by omega, O2, P2', C2, G2⟩
          · have C2 := Lib.hid (C1.out.more (show _ ≤ k + 6 + 20 * K + 6 by omega))
            go_wp2
            go_meet
            exact ⟨false, rfl, Lib.hid (show false = true → 1 < K from fun h => absurd h (by simp)), O1, P1, C2, G1⟩
        case rest =>
          clear O1 P1 C1 G1
          obtain ⟨o, rfl, ho, O1, P1, C1, G1⟩ := hcut
          go_upto_if 28 with fail
          go_cut [28] (fun _ wx => ∃ q : Pt, Hid (PtS wx w.heap.size (.slice A' K cap') l) ∧ Hid (PB wx L q) ∧ Hid (Cur wx b (k + 6 + 20 * K + 6)) ∧ Hid (w.grownBy wx (some b)))
          case first =>
            cases o
            · go_wp2
              go_meet
              exact ⟨p, O1, P1, C1, G1⟩
            · have h1 := ho.out rfl
              obtain ⟨A2, cap2, he, -, hp2⟩ := PtS.parts O1.out
              rw [← HK.out] at he
              cases he
              obtain ⟨g, rfl, a0, a1⟩ := hp2 (K - 1) (by rw [← HK.out]; omega)
              obtain ⟨g', hg', b0, b1⟩ := hp2 (K - 2) (by rw [← HK.out]; omega)
              cases hg'
              obtain ⟨j1, hj1⟩ : ∃ j, j = K - 1 := ⟨_, rfl⟩
              obtain ⟨j2, hj2⟩ : ∃ j, j = K - 2 := ⟨_, rfl⟩
              have e1 : IntKind.i64.wrap ((K : Int) - 1) = (j1 : Int) := by rw [IntWalk.i64_in _ (by omega)]; omega
              have e2 : IntKind.i64.wrap ((K : Int) - 2) = (j2 : Int) := by rw [IntWalk.i64_in _ (by omega)]; omega
              have k1 : j1 < K := by omega
              have k2 : j2 < K := by omega
              rw [← hj1] at a0 a1
              rw [← hj2] at b0 b1
              generalize pd l j1 = u at a0 a1
              generalize pd l j2 = z at b0 b1
              obtain ⟨ux, uy⟩ := u
              obtain ⟨zx, zy⟩ := z
              dsimp only at a0 a1 b0 b1
              have hgL : g ≠ L := by have := HLT.out g rfl; omega
              obtain ⟨m1, q1⟩ : ∃ m, IntKind.i64.wrap (2 * ux) = m := ⟨_, rfl⟩
              obtain ⟨m2, q2⟩ : ∃ m, IntKind.i64.wrap (2 * uy) = m := ⟨_, rfl⟩
              obtain ⟨m3, q3⟩ : ∃ m, IntKind.i64.wrap (m1 - zx) = m := ⟨_, rfl⟩
              obtain ⟨m4, q4⟩ : ∃ m, IntKind.i64.wrap (m2 - zy) = m := ⟨_, rfl⟩
              have hgl := cell_lt a0
              obtain ⟨c0, c1⟩ := PB.p2 P1.out
              have f0 := Blk.frozen P1.out.blk 0
              have f1 := Blk.frozen P1.out.blk 1
              have hLl := cell_lt c0
              have HPW := Lib.hid (PB.put P1.out (m3, m4))
              clear hp2 hj1 hj2
              go_upto_region 9 with fail
              go_still_tail 29, (by kernel_rfl)
              go_wp2
              go_meet
              refine ⟨(m3, m4), Lib.hid (FS.keep O1.out fun g9 hg9 => ?_), Lib.hid (HPW.out.below (belN (Below.refl _ _) 1)), Lib.hid ((Cur.set2 C1.out HLB.out.1).drewN 1), Lib.hid (grown_drewC (grown_set2Q G1.out HLB.out.2) 1)⟩
              have hne : g9 ≠ L := by have := HLT.out g9 hg9; omega
              exact (heap_far _ L 1 g9 _ hne).trans (heap_far _ L 0 g9 _ hne)
          case rest =>
            clear O1 P1 C1 G1 ho
            obtain ⟨q, O1, P1, C1, G1⟩ := hcut
            obtain ⟨u, hu⟩ : ∃ u, u = ptG q := ⟨_, rfl⟩
            have HO := Lib.hid (fun W => show Calls Try.prog 40 #[ptV q] W fun e w' => e = .returned (.bool u) ∧ Gr W w' by rw [hu]; exact pyOne_any q W)
            clear hu
            obtain ⟨c0, c1⟩ := PB.p2 P1.out
            have hLl := cell_lt c0
            go_wp2_with fail
            refine (HO.out _).mono ?_
            rintro e x2 ⟨rfl, g2⟩
            have O2 := Lib.hid (FS.below O1.out g2.below)
            have P2' := Lib.hid (P1.out.below g2.below)
            have C2 := Lib.hid (C1.out.below g2.below)
            have G2 := Lib.hid (grown_gr G1.out g2)
            clear c0 c1 hLl O1 P1 C1 G1 g2 HO
            go_upto_if 60 with fail
            go_cut [60] (fun _ wx => ∃ q : Pt, Hid (PtS wx w.heap.size (.slice A' K cap') l) ∧ Hid (PB wx L q) ∧ Hid (Cur wx b (k + 6 + 20 * K + 10)) ∧ Hid (w.grownBy wx (some b)))
            case first =>
              cases u
              · go_wp2_with fail
                refine (point_any _ b _ C2.out (by omega)).mono ?_
                rintro e x3 ⟨y, rfl, c3, g3⟩
                have O3 := Lib.hid (ptS_away O2.out hbw g3)
                have P3 := P2'.out.away g3 (by have := HLB.out; omega)
                have C3 := Lib.hid c3
                have G3 := Lib.hid (grown_trans G2.out g3)
                have HPW := Lib.hid (PB.put P3 y)
                have O4 := Lib.hid (show PtS ((x3.setCell ⟨L, 0, none⟩ (.int .i64 y.1)).setCell ⟨L, 1, none⟩ (.int .i64 y.2)) w.heap.size (.slice A' K cap') l from FS.keep O3.out fun g9 hg9 => by
                  have hne : g9 ≠ L := by have := HLT.out g9 hg9; omega
                  exact (heap_far _ L 1 g9 _ hne).trans (heap_far _ L 0 g9 _ hne))
                have C4 := Lib.hid ((Cur.set2 (u := .int .i64 y.1) (v := .int .i64 y.2) C3.out HLB.out.1).more (show _ ≤ k + 6 + 20 * K + 10 by omega))
                have G4 := Lib.hid (grown_set2Q (u := .int .i64 y.1) (v := .int .i64 y.2) G3.out HLB.out.2)
                obtain ⟨c0, c1⟩ := PB.p2 P3
                have f0 := Blk.frozen P3.blk 0
                have f1 := Blk.frozen P3.blk 1
                have hLl := cell_lt c0
                clear O2 P2' C2 G2 c3 g3 O3 P3 C3 G3
                go_wp2
                go_meet
                exact ⟨y, O4, HPW, C4, G4⟩
              · have C4 := Lib.hid (C2.out.more (show _ ≤ k + 6 + 20 * K + 10 by omega))
                go_wp2
                go_meet
                exact ⟨q, O2, P2', C4, G2⟩
            case rest =>
              clear O2 P2' C2 G2
              obtain ⟨q, O1, P1, C1, G1⟩ := hcut
              obtain ⟨c0, c1⟩ := PB.p2 P1.out
              have hLl := cell_lt c0
              have hszw := G1.out.size
              go_wp2_with (at_builtin; refine wpList_append_pt _ rfl _ _ rfl w.heap.size _ l rfl (FS.alloc O1.out _) _ q rfl (P2.new _ q 35) (by rw [← HK.out]; omega) (by simp; omega) ?_; intro v' w' hown' hgrow)
              obtain ⟨A2, cap2, hv', -, -⟩ := PtS.parts hown'
              have hne : ∀ g, (Value.slice A' K cap').ownBlock = some g → w.heap.size ≤ g := fun g hg => (FS.lt O1.out g hg).1
              have c4 := Lib.hid (show Cur w' b (k + 6 + 20 * (l ++ [q]).length) from ((C1.out.alloc (.cells #[.int .i64 q.1, .int .i64 q.2] 35)).same (fun i hi => hgrow.block i (by have := C1.out.lt; simp; omega) (fun he => by
                have := hne i he.symm
                omega))).more (by rw [List.length_append, ← HK.out]; simp; omega))
              have G4 := Lib.hid (grown_own (grown_alloc G1.out _) hgrow hne)
              have O4 := Lib.hid hown'
              subst hv'
              clear hown' hgrow hne O1 P1 C1 G1 c0 c1 hLl
              go_wp2
              go_roundw
              case rel => exact ⟨l ++ [q], _, rfl, by rw [List.length_append, ← HK.out]; simp; omega, O4, c4, G4⟩
              case measure => rw [List.length_append, ← HK.out]; simp [lenP]; omega
      · have he : l.length = n := by omega
        have HCR := Lib.hid (hcr.out.more (show _ ≤ k + 900 by omega))
        have hn1 : (n : Int) ≤ 41 := by omega
        obtain ⟨m, hm⟩ : ∃ m, m = l.length := ⟨_, rfl⟩
        have HM := Lib.hid hm
        rw [← hm] at ho he ⊢
        have HE := Lib.hid he
        have hmn : ¬ (m : Int) < (n : Int) := by omega
        clear hm hcr hlt hl he
        by_cases h0 : (0 : Int) < (n : Int)
        · go_wp2_with fail
          refine (one_any 20 (by omega) _ b _ HCR.out (by omega)).mono ?_
          rintro e x1 ⟨o, rfl, c1, g1⟩
          have O1 := Lib.hid (ptS_away ho.out hbw g1)
          have C1 := Lib.hid c1
          have G1 := Lib.hid (grown_trans hgr.out g1)
          clear c1 g1
          cases o
          · go_wp2
            go_ret
            exact ⟨_, l, rfl, O1.out, by have := HE.out; have := HM.out; omega, C1.out.more (by omega), G1.out⟩
          · go_wp2_with fail
            refine (pick_any n (by omega) _ b _ C1.out (by omega)).mono ?_
            rintro e x2 ⟨r, rfl, hr, c2, g2⟩
            obtain ⟨r', hr'⟩ : ∃ r' : Nat, r = (r' : Int) := ⟨r.toNat, by obtain ⟨q1, -⟩ := hr; omega⟩
            have hrn : r' < m := by obtain ⟨q1, q2⟩ := hr; have := HE.out; omega
            have hrn2 : (r' : Int) < (m : Int) := by omega
            subst hr'
            have O2 := Lib.hid (ptS_away O1.out hbw g2)
            have C2 := Lib.hid c2
            have G2 := Lib.hid (grown_trans G1.out g2)
            clear c2 g2 hr
            go_wp2_with fail
            refine (anyPoint_any _ b _ C2.out (by omega)).mono ?_
            rintro e x3 ⟨y, rfl, c3, g3⟩
            have O3 := ptS_away O2.out hbw g3
            have C3 := Lib.hid c3
            have G3 := Lib.hid (grown_trans G2.out g3)
            obtain ⟨A2, cap2, he2, -, hp2⟩ := PtS.parts O3
            rw [← HM.out] at he2
            cases he2
            obtain ⟨g, rfl, a0, a1⟩ := hp2 r' (by rw [← HM.out]; exact hrn)
            have O3r : x3.ownsRow w.heap.size 35 2 (.slice (some ⟨g, 0, none⟩) m cap') m (ints (flatP l)) := by
              have h := O3
              unfold PtS FS at h
              rw [← HM.out] at h
              exact h
            have f0 := World.ownsRow.frozenAt O3r (r' * 2)
            have f1 := World.ownsRow.frozenAt O3r (r' * 2 + 1)
            have s0 := World.ownsRow.stored O3r (r' * 2) (.int .i64 y.1)
            have s1 := World.ownsRow.stored s0.1 (r' * 2 + 1) (.int .i64 y.2)
            have hgb : w.heap.size ≤ g := (FS.lt O3 g rfl).1
            have hgl := cell_lt a0
            obtain ⟨l', hl', hf'⟩ := flatP_of l.length (((flatP l).set (r' * 2) y.1).set (r' * 2 + 1) y.2) (by simp [flatP_len])
            have HL := Lib.hid (show l'.length ≤ 41 by rw [hl']; have := HE.out; have := HM.out; omega)
            have O4 := Lib.hid (show PtS ((x3.setCell ⟨g, r' * 2, none⟩ (.int .i64 y.1)).setCell ⟨g, r' * 2 + 1, none⟩ (.int .i64 y.2)) w.heap.size (.slice (some ⟨g, 0, none⟩) m cap') l' by
              have e1 := s1.1
              unfold PtS FS
              rw [hl', hf', ← HM.out]
              unfold ints at e1 ⊢
              simpa only [List.map_set] using e1)
            have C4 := Lib.hid (Cur.setQ (i := r' * 2 + 1) (u := .int .i64 y.2) (Cur.setQ (i := r' * 2) (u := .int .i64 y.1) C3.out (show b < g by omega)) (show b < g by omega))
            have G4 := Lib.hid (grown_setD (i := r' * 2 + 1) (v := .int .i64 y.2) (grown_setD (i := r' * 2) (v := .int .i64 y.1) G3.out hgb) hgb)
            clear O3 O3r C3 G3 c3 g3 s0 s1 hp2 hl' hf' O1 C1 G1 O2 C2 G2
            go_wp2
            go_ret
            exact ⟨_, l', rfl, O4.out, HL.out, C4.out.more (by omega), G4.out⟩
        · go_wp2
          go_ret
          exact ⟨_, l, rfl, ho.out, by have := HE.out; have := HM.out; omega, HCR.out.more (by omega), hgr.out⟩
end Go.Proofs.Ytamejfeaniokfaa

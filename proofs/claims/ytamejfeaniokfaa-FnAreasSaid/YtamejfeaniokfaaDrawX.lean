/-
  The draws of two polygons, and of a polygon and a direction: what each call returns.
  Condition: the bytes can be read.
-/
import Derived.Test.YtamejfeaniokfaaDrawW
namespace Go.Proofs.Ytamejfeaniokfaa
set_option linter.unusedSimpArgs false
set_option linter.unusedVariables false
open Go.ChangeShapes Go.WideShapes Go.ChangeAt Go.RowKit

/-- Two drawn polygons. -/
def DrawsPs2 (w : World) (e : Ending) (w' : World) : Prop := ∃ v l v' l', e = .returned (.tuple #[v, v']) ∧ PtS w' w.heap.size v l ∧ PtS w' w.heap.size v' l' ∧ l.length ≤ 41 ∧ l'.length ≤ 41 ∧ Below w.heap.size w w'
/-- An append of a whole list to a row of our own. -/
theorem wpList_append_pts {ops : Array Oper} {rest : List Oper} {o : Oper} {a : Act} {Q : Exit → Act → World → Prop} (w : World) (hgd : o.guard = none) (s x : Operand)
    (ho : o.op = .call { callee := .builtin .append, args := #[s, x], argTypes := #[23, 23] })
    (B : Nat) (v : Value) (l m : List Pt) (hs : a.eval s = v) (hown : PtS w B v l) (g n cap : Nat) (hn : n = m.length) (hx : a.eval x = .slice (some ⟨g, 0, none⟩) n cap)
    (hnews : ∀ j u, (ints (flatP m))[j]? = some u → w.cell? ((⟨g, 0, none⟩ : Addr).add j) = some u) (hl : l.length + n ≤ 1000000) (hB : B ≤ w.heap.size)
    (h : ∀ v' w', PtS w' B v' (l ++ m) → w.grownBy w' v.ownBlock → wpList Try.prog ops Q rest (a.put o.dst v') w') : wpList Try.prog ops Q (o :: rest) a w := by
  obtain ⟨i0, hi, hz0, hz1, hz2⟩ := info_parts infoPoint
  refine wpList_plain hgd fun _ hK => wp_append_own w s x 23 ho B 35 i0 (.agg #[.int .i64 0, .int .i64 0]) 2 16 Try.underlying23 hi hz0 hz1 hz2 rfl (by decide) v l.length _ hs hown ⟨g, 0, none⟩ n cap (ints (flatP m)) hx (by simp [ints, flatP_len, hn]) hnews (onesP _) (by unfold maxLen; omega) (by omega) hB fun v' w' h1 h2 h3 => hK _ _ (h v' w' ?_ h2)
  unfold PtS FS
  rw [flatP_app, List.length_append, ← hn]
  unfold ints at h1 ⊢
  rw [List.map_append]
  exact h1
theorem wpList_append_no {ops : Array Oper} {rest : List Oper} {o : Oper} {a : Act} {Q : Exit → Act → World → Prop} (w : World) (hgd : o.guard = none) (s x : Operand)
    (ho : o.op = .call { callee := .builtin .append, args := #[s, x], argTypes := #[23, 23] })
    (B : Nat) (v : Value) (l : List Pt) (hs : a.eval s = v) (hown : PtS w B v l) (hx : a.eval x = .slice none 0 0)
    (h : wpList Try.prog ops Q rest (a.put o.dst v) w) : wpList Try.prog ops Q (o :: rest) a w := by
  obtain ⟨i0, hi, hz0, hz1, hz2⟩ := info_parts infoPoint
  exact wpList_plain hgd fun _ hK => Lib.wp_append_run w s x 23 23 ho v (.slice none 0 0) hs hx v w (run_append_owned_none w B 23 o.type 35 i0 2 Try.underlying23 hi v l.length _ hown) (hK _ _ h)
set_option maxHeartbeats 1000000 in
set_option maxRecDepth 100000 in
theorem drawSumOf_any (w : World) (A : Option Addr) (n cap : Nat) (h : RB w w.heap.size A n) (hn : n ≤ 1048576) : Calls Try.prog 21 #[.slice A n cap] w fun e w' => DrawsPs2 w e w' := by
  have hc := cur_new (cap := cap) h hn
  have hb0 := (Below.refl w.heap.size w).alloc (Nat.le_refl _) (.cells #[.slice A n cap, .int .i64 0, .int .u64 0] 49)
  go_enter Try.func21, Try.ntmps21
  go_wp2_with fail
  refine (anyPolygon_any _ _ _ hc (by omega)).mono ?_
  rintro e v1 ⟨v, l, rfl, hv, hl, hc1, hg1⟩
  obtain ⟨A1, cap1, hv1, -, -⟩ := PtS.parts hv
  subst hv1
  have B1 := Lib.hid (bel_drawsP hb0 hg1 (Nat.le_refl _))
  have V1 := Lib.hid (show PtS v1 (w.heap.size + 1) (.slice A1 l.length cap1) l from FS.base hv (by simp))
  have C1 := Lib.hid hc1
  clear hv hc h hb0 hg1 hc1
  go_wp2_with fail
  refine (one_any 4 (by omega) _ _ _ C1.out (by omega)).mono ?_
  rintro e v2 ⟨o, rfl, c2, g2⟩
  have B2 := Lib.hid (bel_drawsP B1.out g2 (Nat.le_refl _))
  have V2 := Lib.hid (ptS_away V1.out (by omega) g2)
  have C2 := Lib.hid c2
  clear c2 g2 B1 V1 C1
  cases o
  · go_wp2_with fail
    refine (anyPolygon_any _ _ _ C2.out (by omega)).mono ?_
    rintro e v3 ⟨v', l', rfl, hv', hl', hc3, hg3⟩
    obtain ⟨A3, cap3, hv3, -, -⟩ := PtS.parts hv'
    subst hv3
    have B3 := Lib.hid (bel_drawsP B2.out hg3 (Nat.le_refl _))
    have V3 := Lib.hid (FS.base (ptS_away V2.out (by omega) hg3) (show w.heap.size ≤ w.heap.size + 1 by omega))
    have U3 := Lib.hid (FS.base hv' B2.out.size)
    clear hv' hc3 hg3 V2 C2
    go_wp2
    go_ret2
    exact ⟨_, l, _, l', rfl, V3.out, U3.out, hl, hl', B3.out⟩
  · have hsz := B2.out.size
    have VB := Lib.hid (FS.base V2.out (show w.heap.size ≤ w.heap.size + 1 by omega))
    have BA := Lib.hid (B2.out.alloc hsz (.cells #[] 35))
    have VA := Lib.hid (FS.alloc VB.out (.cells #[] 35))
    have hrow : PtS (v2.alloc (.cells #[] 35)) w.heap.size (.slice (some ⟨v2.heap.size, 0, none⟩) 0 0) [] := twP_new v2 w.heap.size hsz
    clear C2
    obtain ⟨m, hm⟩ : ∃ m, m = l.length := ⟨_, rfl⟩
    have HM := Lib.hid hm
    rcases VB.out.2 with ⟨h0, h1⟩ | ⟨g, cap, cur, h0, -⟩
    · injection h0 with e1 e2 e3
      have hl0 : l = [] := List.eq_nil_of_length_eq_zero e2
      subst hl0
      subst e1
      subst e3
      clear hm HM V2 VB
      go_wp2_with (at_builtin; refine wpList_append_no _ rfl _ _ rfl w.heap.size (.slice (some ⟨v2.heap.size, 0, none⟩) 0 0) [] rfl hrow rfl ?_)
      go_ret2
      exact ⟨_, [], _, [], rfl, VA.out, hrow, by simp, by simp, BA.out⟩
    · cases h0
      have hnews := Lib.hid (ptS_news rfl VA.out)
      have hl2 := hl
      rw [← hm] at hl2 VA ⊢
      have HR := Lib.hid hrow
      have hlt := (FS.lt V2.out g rfl).2
      clear hm V2 VB
      go_wp2_with (at_builtin; refine wpList_append_pts _ rfl _ _ rfl w.heap.size (.slice (some ⟨v2.heap.size, 0, none⟩) 0 0) [] l rfl hrow g m _ HM.out rfl hnews.out (by simp; omega) (by simp; omega) ?_; intro v' w3 hown hgr)
      obtain ⟨A9, cap9, hv9, -, -⟩ := PtS.parts hown
      subst hv9
      have VZ := Lib.hid (FS.other VA.out hgr fun g' hg' he => by
        have e1 : g = g' := by simpa [Value.ownBlock] using hg'
        have e2 : v2.heap.size = g' := by simpa [Value.ownBlock] using he.symm
        omega)
      have HO := Lib.hid hown
      have BZ := Lib.hid (BA.out.grown hgr BA.out.size fun g' hg' => by
        have e2 : v2.heap.size = g' := by simpa [Value.ownBlock] using hg'
        omega)
      clear hrow hown hgr
      go_wp2
      go_ret2
      exact ⟨_, l, _, [] ++ l, rfl, by unfold PtS; rw [← HM.out]; exact VZ.out, HO.out, hl, hl, BZ.out⟩
theorem drawMixedArea_any (w : World) (A : Option Addr) (n cap : Nat) (h : RB w w.heap.size A n) (hn : n ≤ 1048576) : Calls Try.prog 4 #[.slice A n cap] w fun e w' => DrawsPs2 w e w' := by
  go_enter Try.func4, Try.ntmps4
  go_wp2_with fail
  refine (drawSumOf_any _ _ _ _ h hn).mono ?_
  rintro e v1 ⟨v, l, v', l', rfl, hv, hv', hl, hl', hb⟩
  obtain ⟨A1, cap1, hv1, -, -⟩ := PtS.parts hv
  subst hv1
  obtain ⟨A3, cap3, hv3, -, -⟩ := PtS.parts hv'
  subst hv3
  have HV := Lib.hid hv
  have HV' := Lib.hid hv'
  have HB := Lib.hid hb
  clear hv hv' hb h
  go_wp2
  go_ret2
  exact ⟨_, l, _, l', rfl, HV.out, HV'.out, hl, hl', HB.out⟩
theorem drawDoubleArea_any (w : World) (A : Option Addr) (n cap : Nat) (h : RB w w.heap.size A n) (hn : n ≤ 1048576) : Calls Try.prog 12 #[.slice A n cap] w fun e w' => DrawsPs w e w' := by
  go_enter Try.func12, Try.ntmps12
  go_wp2_with fail
  refine (drawDrawIsPolygon_any _ _ _ _ h hn).mono ?_
  rintro e v1 ⟨v, l, rfl, hv, hl, hb⟩
  obtain ⟨A1, cap1, hv1, -, -⟩ := PtS.parts hv
  subst hv1
  have HV := Lib.hid hv
  have HB := Lib.hid hb
  clear hv hb h
  go_wp2
  go_ret
  exact ⟨_, l, rfl, HV.out, hl, HB.out⟩
theorem P2.resultsX {w : World} {g : Nat} {t : Pt} (h : P2 w g t) {fn : Func} {p u : Tmp} {ts : Array Value} {v : Value} (hr : fn.results = #[.tmp u, .cell p 35]) (hp : ts.getD p undef = .pointer (some ⟨g, 0, none⟩)) (hu : ts.getD u undef = v) : (Go.results fn ts).run Try.prog w = .ok (.tuple #[v, ptV t]) w := by
  have hp' : ts[p]?.getD undef = .pointer (some ⟨g, 0, none⟩) := by simpa using hp
  have hu' : ts[u]?.getD undef = v := by simpa using hu
  have ha : (asAddr (Value.pointer (some ⟨g, 0, none⟩))).run Try.prog w = .ok ⟨g, 0, none⟩ w := rfl
  simp only [Go.results, hr]
  simp [Sem.run_bind, Result.andThen, hp', hu', ha, h.load]
set_option maxHeartbeats 1000000 in
set_option maxRecDepth 100000 in
theorem drawWidthIn_any (w : World) (A : Option Addr) (n cap : Nat) (h : RB w w.heap.size A n) (hn : n ≤ 1048576) : Calls Try.prog 18 #[.slice A n cap] w fun e w' => DrawsPsPt w e w' := by
  have hbA := (Below.refl w.heap.size w).alloc (Nat.le_refl _) (.cells #[.int .i64 0, .int .i64 0] 35)
  have hc := cur_new (cap := cap) (h.below hbA) hn
  have hb0 := bel2 hbA ((Below.refl _ _).alloc (Nat.le_refl _) (.cells #[.slice A n cap, .int .i64 0, .int .u64 0] 49))
  have R0 := (PB.new w (0, 0)).old (.cells #[.slice A n cap, .int .i64 0, .int .u64 0] 49)
  rw [World.size_alloc] at hc
  go_enter Try.func18, Try.ntmps18
  go_wp2_with fail
  refine (anyPolygon_any _ _ _ hc (by omega)).mono ?_
  rintro e v1 ⟨v, l, rfl, hv, hl, hc1, hg1⟩
  obtain ⟨A1, cap1, hv1, -, -⟩ := PtS.parts hv
  subst hv1
  have R1 := Lib.hid (R0.away hg1 (by omega))
  have B1 := Lib.hid (bel_drawsP hb0 hg1 (by omega))
  have V1 := Lib.hid (show PtS v1 (w.heap.size + 2) (.slice A1 l.length cap1) l from FS.base hv (by simp))
  have C1 := Lib.hid hc1
  clear R0 hc hc1 hg1 hb0 hbA h hv
  go_wp2_with fail
  refine (anyPoint_any _ _ _ C1.out (by omega)).mono ?_
  rintro e v3 ⟨p, rfl, c3, g3⟩
  have R3 := R1.out.away g3 (by omega)
  have B3 := Lib.hid (bel_drawsP B1.out g3 (by omega))
  have V3 := Lib.hid (FS.base (ptS_away V1.out (by omega) g3) (show w.heap.size ≤ w.heap.size + 2 by omega))
  have HR := Lib.hid R3
  obtain ⟨c0, c1⟩ := PB.p2 R3
  have f0 := Blk.frozen R3.blk 0
  have f1 := Blk.frozen R3.blk 1
  have hlc := cell_lt c0
  have VW := Lib.hid (show PtS ((v3.setCell ⟨w.heap.size, 0, none⟩ (.int .i64 p.1)).setCell ⟨w.heap.size, 1, none⟩ (.int .i64 p.2)) w.heap.size (.slice A1 l.length cap1) l from FS.keep V3.out fun g9 hg9 => by
    have hne : g9 ≠ w.heap.size := by have := (FS.lt V1.out g9 hg9).1; omega
    exact (heap_far _ _ 1 g9 _ hne).trans (heap_far _ _ 0 g9 _ hne))
  clear R1 V1 C1 R3 c3 g3 V3
  go_wp2
  refine bodyPost_ret (P2.resultsX (t := p) (g := w.heap.size) (HR.out.put p).p2 rfl rfl rfl) rfl ?_
  exact ⟨_, l, p, rfl, VW.out, by omega, (B3.out.setCell (Nat.le_refl _) _).setCell (Nat.le_refl _) _⟩
end Go.Proofs.Ytamejfeaniokfaa

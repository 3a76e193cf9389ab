/-
  EdgeLength of both.
-/
import Derived.Test.YtcfplfjllnojoaaGreatEdP
import Derived.Test.YtcfplfjllnojoaaGreatGcd
namespace Go.Proofs.YtcfplfjllnojoaaGreat
set_option linter.unusedSimpArgs false
set_option linter.unusedVariables false
open Go.ChangeShapes Go.WideShapes Go.ChangeAt Go.RowKit Go.Maps
open Go.Sort (grow)

def elB (l : List Tm) (i k : Int) : Bool := plB l && decide ([i, k] ∈ edM2 l 1)
def elR (l : List Tm) (i k : Int) : Int := if elB l i k = true then gI ((td l i.toNat).1 - (td l k.toNat).1) ((td l i.toNat).2.1 - (td l k.toNat).2.1) else 0
theorem elB_no {l : List Tm} (h : plB l = false) (i k : Int) : elB l i k = false := by unfold elB; rw [h]; rfl
theorem elB_yes {l : List Tm} (h : plB l = true) (i k : Int) : elB l i k = decide ([i, k] ∈ edM2 l 1) := by unfold elB; rw [h]; rfl
theorem elR_no {l : List Tm} {i k : Int} (h : elB l i k = false) : elR l i k = 0 := if_neg (by simp [h])
theorem el_at {l : List Tm} {i k : Int} (h : elB l i k = true) : ∃ a b : Nat, i = a ∧ k = b ∧ a < l.length ∧ b < l.length ∧ plT (td l a) = true ∧ plT (td l b) = true ∧ elR l i k = gI ((td l a).1 - (td l b).1) ((td l a).2.1 - (td l b).2.1) := by
  have h0 := h
  unfold elB at h0
  simp only [Bool.and_eq_true, decide_eq_true_eq] at h0
  obtain ⟨h1, h2⟩ := h0
  obtain ⟨a, b, q1, q2, e⟩ := ea_pair (List.mem_filter.1 h2).1
  simp only [List.cons.injEq, and_true] at e
  obtain ⟨rfl, rfl⟩ := e
  exact ⟨a, b, rfl, rfl, by omega, q2, plB_at h1 (by omega), plB_at h1 q2, if_pos h⟩
theorem plT_bd {t : Tm} (h : plT t = true) : (0 ≤ t.1 ∧ t.1 ≤ 6) ∧ (0 ≤ t.2.1 ∧ t.2.1 ≤ 6) := by
  have := plT_parts h
  omega
def GivesIL (x : Int) (b : Bool) (w : World) (e : Ending) (w' : World) : Prop := e = .returned (.tuple #[.int .i64 x, .bool b]) ∧ Below w.heap.size w w'
theorem ret_il {a b : Int} {c d : Bool} (h : a = b) (h' : c = d) : Ending.returned (.tuple #[.int .i64 a, .bool c]) = .returned (.tuple #[.int .i64 b, .bool d]) := by rw [h, h']
set_option maxRecDepth 100000 in
theorem pr_keyW {a b : Int} (wa : (Lit.int .i64 a).wf = true) (wb : (Lit.int .i64 b).wf = true) : keyOf Tryz.prog 51 (.agg #[.int .i64 a, .int .i64 b]) = some (prK [a, b]) := by
  have hs := Tryz.underlying51
  have hk : Tryz.prog.keyType 51 = true := by kernel_rfl
  have hc : Tryz.prog.cellsOf 51 = 2 := by kernel_rfl
  have hu := Tryz.underlying3
  have hci : Tryz.prog.cellsOf 3 = 1 := by kernel_rfl
  have hz : ∃ m, Tryz.prog.types.size = m + 1 := ⟨Tryz.prog.types.size - 1, by kernel_rfl⟩
  obtain ⟨m, hm⟩ := hz
  unfold keyOf
  simp only [hs]
  rw [if_pos (by simp [hk, Value.formed, hs, hc]), hm]
  unfold Program.keyLits
  simp only [hs, Value.cells]
  rw [if_pos (by rw [hc]; rfl)]
  rw [show List.range 2 = [0, 1] from rfl]
  simp only [List.mapM_cons, List.mapM_nil, hci]
  simp [Program.keyLits, hu, wa, wb, prK, gd]
theorem pr_injW {a b c d : Int} (wa : (Lit.int .i64 a).wf = true) (wb : (Lit.int .i64 b).wf = true) (wc : (Lit.int .i64 c).wf = true) (wd : (Lit.int .i64 d).wf = true) (h : prK [a, b] = prK [c, d]) : a = c ∧ b = d := by
  have := prKeyed.inj (pr_keyW wa wb) (by rw [h]; exact pr_keyW wc wd)
  simp only [Value.agg.injEq] at this
  have h1 : (#[Value.int .i64 a, Value.int .i64 b]).toList = (#[Value.int .i64 c, Value.int .i64 d]).toList := by rw [this]
  simpa using h1
theorem ed_look {l : List Tm} (h12 : l.length ≤ 12) {B b nn lo hi : Nat} {w : World} (h : EdI l B b (ceL l).length [] nn lo hi w) {i k : Int} (wi : (Lit.int .i64 i).wf = true) (wk : (Lit.int .i64 k).wf = true) :
    ∃ vv, (Instr.lookup 45 (.map (some b)) (.agg #[.int .i64 i, .int .i64 k]) true).run Tryz.prog w = .ok (.tuple #[vv, .bool (decide ([i, k] ∈ edM2 l 1))]) w := by
  obtain ⟨D, vf, hD1, hD2, hD3, -⟩ := h
  obtain ⟨es, clock, hb, F, hs, hD⟩ := hD1
  have hm : ∀ e, e ∈ edM2 l 1 ↔ clM l (ceL l).length [] e ≠ [] := fun e => by rw [edM2_mem (Nat.le_refl 1), clM_nil, clL_ne (Nat.le_refl _)]
  rcases Maps.fit_look true prKeyed Tryz.underlying45 (zeroS w) hb F (pr_keyW wi wk) with ⟨hrun, _, hat⟩ | ⟨e0, y, _, _, hrun, _, hat, _⟩
  · refine ⟨.slice none 0 0, hrun.trans ?_⟩
    rw [decide_eq_false (fun hin => by
      have h1 := (hD3 _ ((hm _).1 hin)).1 (.lit (.bool false))
      rw [hD, hat] at h1
      cases h1)]
    rfl
  · refine ⟨e0.val, hrun.trans ?_⟩
    have hh : has D (prK [i, k]) = true := by rw [hD]; exact has_true_of_atKey hat
    obtain ⟨e, he, hp⟩ := (hD2 _).1 hh
    have hea := clM_ea (Nat.le_refl _) (fun e he => absurd he (by simp)) he
    obtain ⟨a, c, q1, q2, rfl⟩ := ea_pair hea
    obtain ⟨rfl, rfl⟩ := pr_injW wi wk (wf_i64 (by omega)) (wf_i64 (by omega)) hp
    rw [decide_eq_true ((hm _).2 he)]
    rfl
end Go.Proofs.YtcfplfjllnojoaaGreat
/-
  The program's EdgeLength.
  Condition: the slice reads as the terms that are named.
-/
namespace Go.Proofs.YtcfplfjllnojoaaGreat
set_option linter.unusedSimpArgs false
set_option linter.unusedVariables false
open Go.ChangeShapes Go.WideShapes Go.ChangeAt Go.RowKit Go.Maps
open Go.Sort (grow)

/-- A new block of 2 integers: from block N on, it holds p. -/
def Bq (N : Nat) (w : World) (v : Value) (p : Pt) : Prop := ∃ g, v = .pointer (some ⟨g, 0, none⟩) ∧ N ≤ g ∧ w.heap[g]? = some (.cells #[.int .i64 p.1, .int .i64 p.2] 64 (0, 0))
theorem Bq.gr {N : Nat} {w w' : World} {v : Value} {p : Pt} (h : Bq N w v p) (hg : Below w.heap.size w w') : Bq N w' v p := by
  obtain ⟨g, h1, h2, h3⟩ := h
  exact ⟨g, h1, h2, (hg.block g (Array.getElem?_eq_some_iff.1 h3).1).trans h3⟩
theorem Bq.new {N : Nat} {w : World} (h : N ≤ w.heap.size) : Bq N (w.alloc (.cells #[.int .i64 0, .int .i64 0] 64)) (.pointer (some ⟨w.heap.size, 0, none⟩)) (0, 0) :=
  ⟨_, rfl, h, heap_alloc_new w _⟩
theorem Bq.ne_new {N : Nat} {w : World} {v : Value} {p : Pt} (h : Bq N w v p) : v ≠ .pointer (some ⟨w.heap.size, 0, none⟩) := by
  obtain ⟨g, rfl, h2, h3⟩ := h
  intro e
  have h4 := (Array.getElem?_eq_some_iff.1 h3).1
  simp only [Value.pointer.injEq, Option.some.injEq, Addr.mk.injEq] at e
  omega
theorem Bq.at {N g : Nat} {w : World} {p : Pt} (h : Bq N w (.pointer (some ⟨g, 0, none⟩)) p) : N ≤ g ∧ w.heap[g]? = some (.cells #[.int .i64 p.1, .int .i64 p.2] 64 (0, 0)) := by
  obtain ⟨g', h1, h2, h3⟩ := h
  simp only [Value.pointer.injEq, Option.some.injEq, Addr.mk.injEq] at h1
  obtain ⟨rfl, -⟩ := h1
  exact ⟨h2, h3⟩
theorem Bq.cells {N g : Nat} {w : World} {p : Pt} (h : Bq N w (.pointer (some ⟨g, 0, none⟩)) p) : (w.cell? ⟨g, 0, none⟩ = some (.int .i64 p.1) ∧ w.cell? ⟨g, 1, none⟩ = some (.int .i64 p.2)) ∧ w.frozen? ⟨g, 0, none⟩ = false ∧ w.frozen? ⟨g, 1, none⟩ = false := by
  have h3 := h.at.2
  refine ⟨⟨?_, ?_⟩, ?_, ?_⟩ <;> simp [World.cell?, World.frozen?, h3]
theorem Bq.put {N g : Nat} {w : World} {p : Pt} (h : Bq N w (.pointer (some ⟨g, 0, none⟩)) p) (q : Pt) : Bq N ((w.setCell ⟨g, 0, none⟩ (.int .i64 q.1)).setCell ⟨g, 1, none⟩ (.int .i64 q.2)) (.pointer (some ⟨g, 0, none⟩)) q := by
  obtain ⟨h1, h2⟩ := h.at
  exact ⟨g, rfl, h1, heap_set_at _ (heap_set_at _ h2)⟩
theorem Bq.off {N g : Nat} {w : World} {v : Value} {p : Pt} (h : Bq N w v p) (hne : v ≠ .pointer (some ⟨g, 0, none⟩)) {u0 u1 : Value} : Bq N ((w.setCell ⟨g, 0, none⟩ u0).setCell ⟨g, 1, none⟩ u1) v p := by
  obtain ⟨g', rfl, h2, h3⟩ := h
  have hn : g' ≠ g := fun e => hne (by rw [e])
  refine ⟨g', rfl, h2, ?_⟩
  iterate 2 rw [Below.heap_setCell _ _ _ g' hn]
  exact h3
end Go.Proofs.YtcfplfjllnojoaaGreat

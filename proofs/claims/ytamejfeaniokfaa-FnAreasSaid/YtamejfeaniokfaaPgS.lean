/-
  The stack of points of the program, its four methods; which points stay in it.
  Conditions: coordinates are small; the function value answers as the turn that is named.
-/
import Derived.Test.YtamejfeaniokfaaPg
import Derived.Test.YtamejfeaniokfaaRow
import Derived.Deep.RegionLaw
import Derived.Test.YtamejfeaniokfaaSortPoint
namespace Go.Proofs.Ytamejfeaniokfaa
set_option linter.unusedSimpArgs false
set_option linter.unusedVariables false
open Go.ChangeShapes Go.WideShapes Go.ChangeAt Go.RowKit
open Go.Sort (grow)

theorem flatP_take (d : List Pt) (k : Nat) : (flatP d).take (k * 2) = flatP (d.take k) := by
  induction d generalizing k with
  | nil => simp [flatP]
  | cons a d ih =>
    cases k with
    | zero => simp [flatP]
    | succ k =>
      show (encP a ++ flatP d).take ((k + 1) * 2) = encP a ++ flatP (d.take k)
      rw [← ih k, List.take_append, show (encP a).take ((k + 1) * 2) = encP a from List.take_of_length_le (by simp [encP]; omega), show (k + 1) * 2 - (encP a).length = k * 2 by simp [encP]; omega]
theorem flatP_drop (d : List Pt) (k : Nat) : (flatP d).drop (k * 2) = flatP (d.drop k) := by
  induction d generalizing k with
  | nil => simp [flatP]
  | cons a d ih =>
    cases k with
    | zero => simp [flatP]
    | succ k =>
      show (encP a ++ flatP d).drop ((k + 1) * 2) = flatP (d.drop k)
      rw [← ih k, List.drop_append, show (encP a).drop ((k + 1) * 2) = [] from List.drop_eq_nil_of_le (by simp [encP]; omega), show (k + 1) * 2 - (encP a).length = k * 2 by simp [encP]; omega, List.nil_append]
theorem flatP_app (a b : List Pt) : flatP (a ++ b) = flatP a ++ flatP b := by simp [flatP]
theorem take_pd (l : List Pt) (k : Nat) (hk : k < l.length) : l.take (k + 1) = l.take k ++ [pd l k] := by
  rw [pd_eq l k hk, List.take_succ_eq_append_getElem hk]
theorem pd_mem {l : List Pt} {k : Nat} (hk : k < l.length) : pd l k ∈ l := by rw [pd_eq l k hk]; exact List.getElem_mem hk
theorem PtS.some {w : World} {B : Nat} {v : Value} {l : List Pt} (h : PtS w B v l) (h0 : 0 < l.length) : ∃ g cap, v = .slice (some ⟨g, 0, none⟩) l.length cap ∧ B ≤ g ∧ l.length ≤ cap ∧ cap ≤ maxLen := by
  rcases h.2 with ⟨rfl, hn⟩ | ⟨g, cap, cur, rfl, hb, hg, hn, hm, hc, ht⟩
  · omega
  · exact ⟨g, cap, rfl, hb, hn, hm⟩
/-- The first elements of a list of points. -/
theorem PtS.cut {w : World} {B : Nat} {A : Option Addr} {n cap m : Nat} {l : List Pt} (hn : n = l.length) (h : PtS w B (.slice A n cap) l) (hm : m ≤ n) : PtS w B (.slice A m cap) (l.take m) := by
  have h1 : w.ownsRow B 35 2 (.slice A n cap) n (ints (flatP l)) := by rw [hn] at h ⊢; exact h
  have h2 := row_cut h1 hm
  have e : (l.take m).length = m := by simp; omega
  unfold PtS FS
  rw [e, ← flatP_take]
  unfold ints at h2 ⊢
  rw [List.map_take]
  exact h2
def slNP : Value → Nat
  | .slice _ n _ => n
  | _ => 0
theorem PtS.slN {w : World} {B : Nat} {v : Value} {l : List Pt} (h : PtS w B v l) : slNP v = l.length := by
  obtain ⟨A, cap, rfl, -, -⟩ := PtS.parts h; rfl
/-- A stack of a call's own in block B, its top first; its row lies behind. -/
def StP (B : Nat) (wr : World) (s : List Pt) : Prop := ∃ v, wr.cell? ⟨B, 0, none⟩ = some v ∧ wr.frozen? ⟨B, 0, none⟩ = false ∧ PtS wr (B + 1) v s.reverse
theorem StP.lt {B : Nat} {wr : World} {s : List Pt} (h : StP B wr s) : B < wr.heap.size := by
  obtain ⟨v, hv, -⟩ := h; exact cell_lt hv
theorem StP.below {B : Nat} {w w' : World} {s : List Pt} (h : StP B w s) (hb : Below w.heap.size w w') : StP B w' s := by
  have hl := h.lt
  obtain ⟨v, hv, hf, hr⟩ := h
  exact ⟨v, (hb.cell (p := ⟨B, 0, none⟩) hl).trans hv, (World.frozen?_of_block (hb.block B hl)).trans hf, FS.below hr hb⟩
theorem StP.drewN {B : Nat} {w : World} {s : List Pt} (h : StP B w s) (n : Nat) : StP B (w.drewN n) s := h
theorem belKP {B : Nat} {w w1 : World} (h : Below B w w1) (n : Nat) : Below B w (w1.drewN n) := ⟨h.os, h.tape, h.output, h.size, h.block⟩
/-- How many elements it has. -/
def stNP (B : Nat) (w : World) : Nat := slNP ((w.cell? ⟨B, 0, none⟩).getD undef)
theorem StP.stN {B : Nat} {w : World} {s : List Pt} (h : StP B w s) : stNP B w = s.length := by
  obtain ⟨v, hv, -, hr⟩ := h
  unfold stNP
  rw [hv]
  exact (PtS.slN hr).trans List.length_reverse
theorem rev_twoP {j i : Pt} {t : List Pt} : pd (j :: i :: t).reverse (t.length + 1) = j ∧ pd (j :: i :: t).reverse t.length = i := by
  unfold pd
  constructor
  · rw [List.getD_eq_getElem?_getD, List.getElem?_reverse (by simp only [List.length_cons]; omega)]; simp
  · rw [List.getD_eq_getElem?_getD, List.getElem?_reverse (by simp only [List.length_cons]; omega)]; simp
theorem popH_mem {T : Pt → Pt → Pt → Int} {p q : Pt} : ∀ {S : List Pt}, q ∈ popH T p S → q ∈ S
  | [], h => by simp [popH] at h
  | [c], h => by simpa [popH] using h
  | j :: i :: t, h => by
    unfold popH at h
    split at h
    · exact h
    · exact List.mem_cons_of_mem _ (popH_mem h)
theorem stkH_mem {T : Pt → Pt → Pt → Int} : ∀ (l S : List Pt) {q : Pt}, q ∈ l.foldl (fun s p => p :: popH T p s) S → q ∈ l ∨ q ∈ S
  | [], S, q, h => .inr h
  | p :: t, S, q, h => by
    rcases stkH_mem t _ h with h | h
    · exact .inl (List.mem_cons_of_mem _ h)
    · rcases List.mem_cons.1 h with rfl | h
      · exact .inl (by simp)
      · exact .inr (popH_mem h)
theorem popH_short {T : Pt → Pt → Pt → Int} {p : Pt} {s : List Pt} (h : s.length < 2) : popH T p s = s := by
  match s, h with
  | [], _ => rfl
  | [_], _ => rfl
theorem popH_more {T : Pt → Pt → Pt → Int} {p j i : Pt} {t : List Pt} (h : decide (0 < T i j p) = false) : popH T p (j :: i :: t) = popH T p (i :: t) := by
  conv => lhs; unfold popH
  rw [if_neg (of_decide_eq_false h)]
theorem popH_stop {T : Pt → Pt → Pt → Int} {p j i : Pt} {t : List Pt} (h : decide (0 < T i j p) = true) : popH T p (j :: i :: t) = j :: i :: t := by
  unfold popH; rw [if_pos (of_decide_eq_true h)]
theorem stSizeP_any (B : Nat) (wr : World) (s : List Pt) (h : StP B wr s) : Calls Try.prog 67 #[.pointer (some ⟨B, 0, none⟩)] wr fun e w' => e = .returned (.int .i64 s.length) ∧ wr = w' := by
  obtain ⟨v, hv, -, hr⟩ := h
  obtain ⟨A, cap, rfl, -, -⟩ := PtS.parts hr
  rw [List.length_reverse] at hv
  clear hr
  go_enter Try.func67, Try.ntmps67
  go_wp2
  go_ret
  exact ⟨rfl, rfl⟩
theorem results_two {fn : Func} {p q : Tmp} {T U : TypeId} {ts : Array Value} {P : Program} {w : World} {a b : Addr} {x y : Value} (hr : fn.results = #[.cell p T, .cell q U]) (hp : ts.getD p undef = .pointer (some a)) (hq : ts.getD q undef = .pointer (some b)) (hx : (loadVar T a).run P w = .ok x w) (hy : (loadVar U b).run P w = .ok y w) : (Go.results fn ts).run P w = Result.ok (.tuple #[x, y]) w := by
  have hp' : ts[p]?.getD undef = .pointer (some a) := by simpa using hp
  have hq' : ts[q]?.getD undef = .pointer (some b) := by simpa using hq
  have ha : (asAddr (Value.pointer (some a))).run P w = .ok a w := rfl
  have hb : (asAddr (Value.pointer (some b))).run P w = .ok b w := rfl
  simp only [Go.results, hr]
  simp [Sem.run_bind, Result.andThen, hp', hq', ha, hb, hx, hy]
theorem P2.results2 {w : World} {g h : Nat} {s t : Pt} (hs : P2 w g s) (ht : P2 w h t) {fn : Func} {p q : Tmp} {ts : Array Value} (hr : fn.results = #[.cell p 35, .cell q 35]) (hp : ts.getD p undef = .pointer (some ⟨g, 0, none⟩)) (hq : ts.getD q undef = .pointer (some ⟨h, 0, none⟩)) : (Go.results fn ts).run Try.prog w = Result.ok (.tuple #[ptV s, ptV t]) w :=
  results_two hr hp hq hs.load ht.load
set_option maxHeartbeats 1000000 in
set_option maxRecDepth 100000 in
theorem stLastTwoP_any (B : Nat) (wr : World) (j i : Pt) (t : List Pt) (h : StP B wr (j :: i :: t)) (ht : t.length ≤ 100000) : Calls Try.prog 68 #[.pointer (some ⟨B, 0, none⟩)] wr fun e w' => e = .returned (.tuple #[ptV i, ptV j]) ∧ Below wr.heap.size wr w' := by
  obtain ⟨v, hv, -, hr⟩ := h
  obtain ⟨u, hu⟩ : ∃ u, u = t.length + 2 := ⟨_, rfl⟩
  obtain ⟨A, cap, rfl, -, hp⟩ := PtS.parts hr
  rw [List.length_reverse, List.length_cons, List.length_cons, ← hu] at hv
  obtain ⟨g, rfl, cj⟩ := hp (u - 1) (by simp; omega)
  obtain ⟨g', hg', ci⟩ := hp (u - 2) (by simp; omega)
  cases hg'
  obtain ⟨rv1, rv2⟩ := rev_twoP (j := j) (i := i) (t := t)
  rw [show u - 1 = t.length + 1 by omega, rv1, show t.length + 1 = u - 1 by omega] at cj
  rw [show u - 2 = t.length by omega, rv2, show t.length = u - 2 by omega] at ci
  have hu2 : 2 ≤ u := by omega
  have hu3 : u ≤ 200000 := by omega
  clear hu rv1 rv2 hp hr ht
  have q7 : IntKind.i64.wrap ((u : Int) - 2) = ((u - 2 : Nat) : Int) := by rw [IntWalk.i64_in _ (by omega)]; omega
  have q8 : IntKind.i64.wrap ((u : Int) - 1) = ((u - 1 : Nat) : Int) := by rw [IntWalk.i64_in _ (by omega)]; omega
  have l1 : u - 2 < u := by omega
  have l2 : u - 1 < u := by omega
  have lB : B < wr.heap.size := cell_lt hv
  have lg : g < wr.heap.size := cell_lt ci.1
  obtain ⟨c0, c1⟩ := ci
  obtain ⟨d0, d1⟩ := cj
  go_enter Try.func68, Try.ntmps68
  go_wp2
  go_region
  all_goals (try go_wp2)
  all_goals
    refine bodyPost_ret (P2.results2 (s := i) (t := j) (g := wr.heap.size) (h := wr.heap.size + 1) ?_ ?_ rfl rfl rfl) rfl ⟨rfl, ((gr2 _ _ _).drew).below⟩
    · exact (P4.new wr i j 35 35).elim fun h1 h => ⟨h1, h.1⟩
    · exact (P4.new wr i j 35 35).2.2
set_option maxRecDepth 100000 in
set_option maxHeartbeats 1000000 in
theorem stPopP_any (B : Nat) (wr : World) (j : Pt) (t : List Pt) (h : StP B wr (j :: t)) (ht : t.length ≤ 100000) : Calls Try.prog 69 #[.pointer (some ⟨B, 0, none⟩)] wr fun e w' => e = .returned (.tuple #[]) ∧ StP B w' t ∧ Below B wr w' ∧ ∀ (a : Addr) (u : Value), wr.cell? a = some u → a.block ≠ B → w'.cell? a = some u := by
  obtain ⟨v, hv, hf, hr⟩ := h
  rw [List.reverse_cons] at hr
  obtain ⟨g, cap, rfl, hg, hn, hm⟩ := PtS.some hr (by simp)
  have hpop := PtS.cut rfl hr (show t.reverse.length ≤ (t.reverse ++ [j]).length by simp)
  rw [List.take_left' rfl] at hpop
  obtain ⟨u, hu⟩ : ∃ u, u = t.length := ⟨_, rfl⟩
  rw [List.length_append, List.length_reverse, List.length_singleton, ← hu] at hv hn
  rw [List.length_reverse, ← hu] at hpop
  have HP := Lib.hid (And.intro hpop (And.intro hv hf))
  have HG := Lib.hid hg
  have hu3 : u ≤ 100000 := by omega
  have q8 : IntKind.i64.wrap ((u : Int) + 1 - 1) = (u : Int) := by rw [IntWalk.i64_in _ (by omega)]; omega
  have q9 : IntKind.i64.wrap (((u + 1 : Nat) : Int) - 1) = (u : Int) := by rw [IntWalk.i64_in _ (by omega)]; omega
  have hle : u ≤ cap := by omega
  clear hu hr hpop ht hg
  go_enter Try.func69, Try.ntmps69
  go_region
  all_goals (try go_wp2)
  all_goals go_end0
  all_goals
    obtain ⟨hpop, hv0, hf0⟩ := HP.out
    refine ⟨rfl, ⟨_, World.cell?_setCell_same _ _ _ hv0, (World.frozen?_setCell _ _ _ _).trans hf0, ?_⟩, ((Below.refl B wr).setCell (Nat.le_refl B) _).drew, fun a u ha hne => (World.cell?_setCell_other _ _ _ _ (fun h => hne (by rw [← h]))).trans ha⟩
    exact ownsRow_setCell_below hpop (a := ⟨B, 0, none⟩) (by show B < B + 1; omega) _
theorem grown_cellP {B : Nat} {wr w1 : World} {v : Value} {row : Option Nat} (hB : B < wr.heap.size) (hv : wr.cell? ⟨B, 0, none⟩ = some v) (hfz : wr.frozen? ⟨B, 0, none⟩ = false) (hgrow : wr.grownBy w1 row) (hne : some B ≠ row) : w1.cell? ⟨B, 0, none⟩ = some v ∧ w1.frozen? ⟨B, 0, none⟩ = false := by
  refine ⟨hgrow.cell (a := ⟨B, 0, none⟩) hv hne, ?_⟩
  rw [World.frozen?_of_block (w := wr) (hgrow.block B hB hne)]
  exact hfz
set_option maxRecDepth 100000 in
set_option maxHeartbeats 1000000 in
theorem stPushP_any (B : Nat) (wr : World) (x : Pt) (s : List Pt) (h : StP B wr s) (hs : s.length ≤ 100000) : Calls Try.prog 70 #[.pointer (some ⟨B, 0, none⟩), ptV x] wr fun e w' => e = .returned (.tuple #[]) ∧ StP B w' (x :: s) ∧ Below B wr w' := by
  have hB := h.lt
  obtain ⟨v, hv, hfz, hr⟩ := h
  obtain ⟨i0, hi, hz0, hz1, hz2⟩ := info_parts infoPoint
  obtain ⟨u, hu⟩ : ∃ u, u = s.reverse.length := ⟨_, rfl⟩
  have hu3 : u ≤ 100000 := by rw [hu, List.length_reverse]; exact hs
  have hown : wr.ownsRow (B + 1) 35 2 v u (ints (flatP s.reverse)) := by rw [hu]; exact hr
  have HU := Lib.hid hu
  clear hu hs
  have hne : some B ≠ v.ownBlock := fun h => by have := hown.lt B h.symm; omega
  have hv1 : (wr.alloc (.cells #[.int .i64 x.1, .int .i64 x.2] 35)).cell? ⟨B, 0, none⟩ = some v := (World.cell?_alloc_past _ _ _ hB).trans hv
  have hf1 : (wr.alloc (.cells #[.int .i64 x.1, .int .i64 x.2] 35)).frozen? ⟨B, 0, none⟩ = false := (World.frozen?_alloc_past _ _ _ hB).trans hfz
  have hc := P2.new wr x 35
  have hs1 : (wr.alloc (.cells #[.int .i64 x.1, .int .i64 x.2] 35)).heap.size = wr.heap.size + 1 := World.size_alloc _ _
  have hown1 := World.ownsRow.alloc hown (.cells #[.int .i64 x.1, .int .i64 x.2] 35)
  have hb1 : Below B wr (wr.alloc (.cells #[.int .i64 x.1, .int .i64 x.2] 35)) := (Below.refl B wr).alloc (by omega) _
  have hlb := fun k hk => (World.ownsRow.lt hown k hk).1
  have HB := Lib.hid hb1
  have HL := Lib.hid hlb
  go_enter Try.func70, Try.ntmps70
  go_wp2
  generalize hW : wr.alloc (.cells #[.int .i64 x.1, .int .i64 x.2] 35) = W at hv1 hf1 hc hs1 hown1 HB ⊢
  obtain ⟨c0, c1⟩ := hc
  clear hv hfz hown hb1 hlb hr
  have hBW : B < W.heap.size := by omega
  have hx : wr.heap.size < W.heap.size := by omega
  go_region_law (refine step_append_own (by rfl) (.tmp 8) (.tmp 10) 23 (by rfl) (B + 1) 35 i0 (.agg #[.int .i64 0, .int .i64 0]) 2 16 Try.underlying23 hi hz0 hz1 hz2 rfl (by decide) v u (ints (flatP s.reverse)) (by rfl) (World.ownsRow.alloc hown1 _) ⟨wr.heap.size + 1, 0, none⟩ 1 1 [.int .i64 x.1, .int .i64 x.2] (by rfl) rfl (new_cells_at W 35 #[.int .i64 x.1, .int .i64 x.2] (wr.heap.size + 1) hs1.symm) (by simp [Value.oneCell']) (by unfold maxLen; omega) (by omega) (by simp; omega) ?_; intro v' w1 hown' hgrow hnil; obtain ⟨hv2, hf2⟩ := grown_cellP (wr := (W.alloc (.cells #[.int .i64 x.1, .int .i64 x.2] 35)).drew) (by simp; omega) ((World.cell?_alloc_past _ _ _ hBW).trans hv1) ((World.frozen?_alloc_past _ _ _ hBW).trans hf1) hgrow hne; have hrow : FS 35 2 w1 (B + 1) v' (u + 1) (flatP s.reverse ++ encP x) := FS.snoc hown'; obtain ⟨A', cap', rfl, -, -⟩ := hrow.parts)
  all_goals go_end0
  all_goals
    refine ⟨rfl, ⟨_, World.cell?_setCell_same _ _ _ hv2, (World.frozen?_setCell _ _ _ _).trans hf2, ?_⟩, ?_⟩
    · have q := ownsRow_setCell_below hrow (a := ⟨B, 0, none⟩) (by show B < B + 1; omega) (.slice A' (u + 1) cap')
      have e : (s.reverse ++ [x]).length = u + 1 := by rw [List.length_append, ← HU.out]; rfl
      rw [List.reverse_cons]
      unfold PtS
      rw [e, flatP_snoc]
      exact q
    · exact ((((HB.out).alloc (by omega) _).drew.grown hgrow (by simp; omega) (fun k hk => by have := HL.out k hk; omega))).setCell (Nat.le_refl B) _
/-- The function value tells of three points whether the middle one is a corner, whatever was made since. -/
def CorP (g : Nat) (pre : Array Value) (T : Pt → Pt → Pt → Int) : Prop := ∀ (W : World) (a b c : Pt), Sm 1000 a → Sm 1000 b → Sm 1000 c →
  Calls Try.prog g (pre ++ #[ptV a, ptV b, ptV c]) W fun e w' => e = .returned (.bool (decide (0 < T a b c))) ∧ Gr W w'
abbrev EntP (g : Nat) : Prop := ∀ (args : Array Value) (w : World), (callFunc g args).run Try.prog w = .ok (.enter g args) w
theorem belTP {B : Nat} {w w1 w2 : World} (h : Below B w w1) (h' : Below B w1 w2) : Below B w w2 := h.trans h'
theorem stP_new (w : World) (t : TypeId) : StP w.heap.size (w.alloc (.cells #[.slice none 0 0] t)) [] :=
  ⟨_, cell_of_row (w.alloc (.cells #[.slice none 0 0] t)) w.heap.size 0 #[.slice none 0 0] t (0, 0) (heap_alloc_new w _), by simp, FS.nil_ _ _ _ _⟩
set_option maxHeartbeats 2000000 in
set_option maxRecDepth 100000 in
theorem keepCornersP_any (w : World) (g : Nat) (pre : Array Value) (T : Pt → Pt → Pt → Int) (eg : EntP g) (B : Nat) (v : Value) (l : List Pt) (hsm : ∀ q ∈ l, Sm 1000 q) (hlen : l.length ≤ 100000) (h : PtS w B v l) (hc : CorP g pre T) :
    Calls Try.prog 48 #[v, .func (.func g) pre #[]] w fun e w' => GivesPt (stkH T l).reverse w e w' := by
  have HC := Lib.hid hc
  have HSM := Lib.hid hsm
  have H0 := Lib.hid h
  obtain ⟨A2, cap2, rfl, -, hp2⟩ := PtS.parts h
  have HP2 := Lib.hid hp2
  have hs0 := stP_new w 69
  have hb0 : Below w.heap.size w (w.alloc (.cells #[.slice none 0 0] 69)) := (Below.refl _ _).alloc (Nat.le_refl _) _
  obtain ⟨N, hN⟩ : ∃ N, N = l.length := ⟨_, rfl⟩
  have HN := Lib.hid hN
  rw [← hN] at hlen ⊢
  clear hp2 hsm hc h hN
  go_enter Try.func48, Try.ntmps48
  go_wp2
  go_loopw [12] (fun i wr => ∃ n : Nat, n ≤ N ∧ i = .int .i64 n ∧ StP w.heap.size wr (stkH T (l.take n)) ∧ Below w.heap.size w wr) (fun i _ => N - (intOf i).toNat)
  case atStart => exact ⟨0, by omega, rfl, hs0, hb0⟩
  case round =>
    obtain ⟨n, hn, rfl, ho, hb⟩ := hrel
    clear hs0 hb0
    by_cases hlt : n < N
    · have hnl : n < l.length := by rw [← HN.out]; exact hlt
      obtain ⟨gp, rfl, hc0⟩ := HP2.out n hnl
      have hc1 := X2.below hc0 hb
      clear hc0
      obtain ⟨k, hk⟩ : ∃ k, k = pd l n := ⟨_, rfl⟩
      have hks : Sm 1000 k := by rw [hk]; exact HSM.out _ (pd_mem hnl)
      rw [← hk] at hc1
      obtain ⟨s0, hs0⟩ : ∃ s0, s0 = stkH T (l.take n) := ⟨_, rfl⟩
      have hsl : s0.length ≤ n := by rw [hs0]; exact Nat.le_trans (stkH_le _ _) (by simp; omega)
      have hsm0 : ∀ q ∈ s0, Sm 1000 q := fun q hq => by
        rw [hs0] at hq
        rcases stkH_mem _ _ hq with h | h
        · exact HSM.out q (List.mem_of_mem_take h)
        · simp at h
      rw [← hs0] at ho
      have HNX := Lib.hid (show stkH T (l.take (n + 1)) = k :: popH T k s0 by rw [take_pd l n hnl, stkH_snoc, ← hs0, ← hk])
      have hoA := ho.below ((Below.refl _ _).alloc (Nat.le_refl _) (.cells #[.int .i64 k.1, .int .i64 k.2] 35))
      have hbA := hb.alloc hb.size (.cells #[.int .i64 k.1, .int .i64 k.2] 35)
      have hPA := P2.new wr k 35
      have hBr : w.heap.size < wr.heap.size := ho.lt
      obtain ⟨c0, c1⟩ := hc1
      clear hs0 hk ho
      go_wp2
      generalize hW : wr.alloc (.cells #[.int .i64 k.1, .int .i64 k.2] 35) = W at hoA hbA hPA ⊢
      obtain ⟨gk, hgk⟩ : ∃ gk, gk = wr.heap.size := ⟨_, rfl⟩
      rw [← hgk] at hPA ⊢
      have hkB : w.heap.size < gk := by omega
      clear hb hW hgk c0 c1
      go_loopw [8, 9] (fun x y wq => ∃ s, StP w.heap.size wq s ∧ P2 wq gk k ∧ s.length ≤ n ∧ Hid (∀ q ∈ s, Sm 1000 q) ∧ Hid (popH T k s = popH T k s0) ∧ Below w.heap.size w wq) (fun _ _ wq => stNP w.heap.size wq)
      case atStart => exact ⟨s0, hoA, hPA, hsl, Lib.hid hsm0, Lib.hid rfl, hbA⟩
      case round =>
        obtain ⟨s, ho2, hP2, hsl2, hsm2, hpop, hb2⟩ := hrel
        clear hoA hPA hbA hsl hsm0
        have done : s.length < 2 ∨ (∃ j i t, s = j :: i :: t) := by
          match s with
          | [] => exact .inl (by simp)
          | [_] => exact .inl (by simp)
          | j :: i :: t => exact .inr ⟨j, i, t, rfl⟩
        rcases done with hsh | ⟨j, i, t, rfl⟩
        · have HPS := Lib.hid (popH_short (T := T) (p := k) hsh)
          have HR := Lib.hid (show stkH T (l.take (n + 1)) = k :: s by rw [HNX.out, ← hpop.out, HPS.out])
          go_wp2_with fail
          refine (stSizeP_any _ _ _ ho2).mono ?_
          rintro e w' ⟨rfl, rfl⟩
          obtain ⟨p0, p1⟩ := hP2
          go_wp2_with fail
          refine (stPushP_any _ _ k s ho2 (by omega)).mono ?_
          rintro e w2 ⟨rfl, ho3, b3⟩
          go_wp2
          go_roundw
          case rel => exact ⟨n + 1, by omega, by go_num, by rw [HR.out]; exact ho3, belTP hb2 b3⟩
          case measure => simp [intOf]; omega
        · have hsi := hsm2.out i (by simp)
          have hsj := hsm2.out j (by simp)
          have htl : t.length ≤ 100000 := by simp at hsl2; omega
          have hsn := ho2.stN
          simp only [List.length_cons] at hsn
          have HSN := Lib.hid hsn
          clear hsn
          obtain ⟨d, hd⟩ : ∃ d, d = decide (0 < T i j k) := ⟨_, rfl⟩
          cases d
          · have HPS := Lib.hid (popH_more (t := t) hd.symm)
            have CS := Lib.hid (fun W => show Calls Try.prog g (pre ++ #[ptV i, ptV j, ptV k]) W fun e w' => e = .returned (.bool false) ∧ Gr W w' by rw [hd]; exact HC.out W i j k hsi hsj hks)
            clear hd
            go_wp2_with fail
            refine (stSizeP_any _ _ _ ho2).mono ?_
            rintro e w' ⟨rfl, rfl⟩
            go_wp2_with fail
            refine (stLastTwoP_any _ _ _ _ t ho2 htl).mono ?_
            rintro e w1 ⟨rfl, b1⟩
            obtain ⟨p0, p1⟩ := P2.below hP2 b1
            have lk : gk < w1.heap.size := cell_lt p0
            have ho3 := ho2.below b1
            have hbB := bel2 hb2 b1
            have hg2 := gr2 w1 (.cells #[.int .i64 i.1, .int .i64 i.2] 35) (.cells #[.int .i64 j.1, .int .i64 j.2] 35)
            go_wp2_with fail
            go_at_fn g
            refine (CS.out _).mono ?_
            rintro e w2 ⟨rfl, g2⟩
            have b3 := (hg2.trans g2).below
            have ho4 := ho3.below b3
            have hP4 := P2.below (P2.below hP2 b1) b3
            go_wp2_with fail
            refine (stPopP_any _ _ _ _ ho4 (by simp only [List.length_cons] at hsl2 ⊢; omega)).mono ?_
            rintro e w3 ⟨rfl, ho5, b5, k5⟩
            have hsn := ho5.stN
            have hgk : gk < w2.heap.size := cell_lt hP4.1
            go_wp2
            go_roundw
            case rel => exact ⟨i :: t, ho5, ⟨k5 _ _ hP4.1 (by show gk ≠ _; omega), k5 _ _ hP4.2 (by show gk ≠ _; omega)⟩, by simp only [List.length_cons] at hsl2 ⊢; omega, Lib.hid (fun q hq => hsm2.out q (List.mem_cons_of_mem _ hq)), Lib.hid (HPS.out.symm.trans hpop.out), belTP (bel2 hbB b3) b5⟩
            case measure => rw [hsn, HSN.out]; simp only [List.length_cons]; omega
          · have HPS := Lib.hid (popH_stop (t := t) hd.symm)
            have HR := Lib.hid (show stkH T (l.take (n + 1)) = k :: j :: i :: t by rw [HNX.out, ← hpop.out, HPS.out])
            have CS := Lib.hid (fun W => show Calls Try.prog g (pre ++ #[ptV i, ptV j, ptV k]) W fun e w' => e = .returned (.bool true) ∧ Gr W w' by rw [hd]; exact HC.out W i j k hsi hsj hks)
            clear hd
            go_wp2_with fail
            refine (stSizeP_any _ _ _ ho2).mono ?_
            rintro e w' ⟨rfl, rfl⟩
            go_wp2_with fail
            refine (stLastTwoP_any _ _ _ _ t ho2 htl).mono ?_
            rintro e w1 ⟨rfl, b1⟩
            obtain ⟨p0, p1⟩ := P2.below hP2 b1
            have lk : gk < w1.heap.size := cell_lt p0
            have ho3 := ho2.below b1
            have hbB := bel2 hb2 b1
            have hg2 := gr2 w1 (.cells #[.int .i64 i.1, .int .i64 i.2] 35) (.cells #[.int .i64 j.1, .int .i64 j.2] 35)
            go_wp2_with fail
            go_at_fn g
            refine (CS.out _).mono ?_
            rintro e w2 ⟨rfl, g2⟩
            have b3 := (hg2.trans g2).below
            have ho4 := ho3.below b3
            obtain ⟨r0, r1⟩ := P2.below (P2.below hP2 b1) b3
            go_wp2_with fail
            refine (stPushP_any _ _ k _ ho4 (by simp only [List.length_cons] at hsl2 ⊢; omega)).mono ?_
            rintro e w3 ⟨rfl, ho5, b5⟩
            go_wp2
            go_roundw
            case rel => exact ⟨n + 1, by omega, by go_num, by rw [HR.out]; exact ho5, belTP (bel2 hbB b3) b5⟩
            case measure => simp [intOf]; omega
    · obtain rfl : n = N := by omega
      rw [show l.take n = l by rw [HN.out, List.take_length]] at ho
      obtain ⟨v, hv, hf, hr⟩ := ho
      go_wp2
      go_ret
      exact ⟨_, rfl, FS.base hr (by omega), hb⟩
end Go.Proofs.Ytamejfeaniokfaa
/-
  slices.SortFunc, Compact, Clone and Equal at rows of points: what the calls do.
  Condition: the slice reads as the list that is named.
-/
namespace Go.Proofs.Ytamejfeaniokfaa
set_option linter.unusedSimpArgs false
set_option linter.unusedVariables false
open Go.ChangeShapes Go.WideShapes Go.ChangeAt Go.RowKit
open Go.Sort (grow HoldsK Holds putRow putRowK flatK SWO)

theorem lt_cmpP (s t : Pt) : ltOf cmpP s t = true ↔ Bf s t := by
  unfold ltOf; rw [decide_eq_true_eq, cmpP_lt]
theorem lt_cmpP_no (s t : Pt) : ltOf cmpP s t = false ↔ ¬ Bf s t := by
  rw [← lt_cmpP]; simp
theorem swo_cmpP : SWO (ltOf cmpP) where
  irrefl x := by rw [lt_cmpP_no]; exact geo_up.irr
  trans x y z h1 h2 := by rw [lt_cmpP] at *; exact geo_up.trans h1 h2
  ntrans x y z h1 h2 := by rw [lt_cmpP_no] at *; unfold Bf at *; omega
theorem tot_cmpP (x y : Pt) (h : ltOf cmpP x y = false) (h' : ltOf cmpP y x = false) : x = y := by
  rw [lt_cmpP_no] at h h'
  rcases geo_up.tot x y with e | e | e
  · exact absurd e h
  · exact e
  · exact absurd e h'
/-- A list of points in order. -/
def sortP (l : List Pt) : List Pt := l.mergeSort fun x y => !(ltOf cmpP) y x
theorem sortP_perm (l : List Pt) : (sortP l).Perm l := List.mergeSort_perm _ _
theorem sortP_len (l : List Pt) : (sortP l).length = l.length := (sortP_perm l).length_eq
theorem sortP_ord (l : List Pt) : (sortP l).Pairwise fun a b => Bf a b ∨ a = b := by
  have h := List.pairwise_mergeSort (le := fun x y : Pt => !(ltOf cmpP) y x)
    (fun a b c h1 h2 => by
      simp only [Bool.not_eq_true'] at h1 h2 ⊢
      rw [lt_cmpP_no] at *; unfold Bf at *; omega)
    (fun a b => by
      rcases hx : ltOf cmpP b a with _ | _
      · simp
      · have : ltOf cmpP a b = false := by rw [lt_cmpP] at hx; rw [lt_cmpP_no]; exact geo_up.asym hx
        simp [this]) l
  exact h.imp fun {a b} hab => by
    simp only [Bool.not_eq_true'] at hab
    rw [lt_cmpP_no] at hab
    rcases geo_up.tot a b with e | e | e
    · exact .inl e
    · exact .inr e
    · exact absurd e hab
def eqB (s t : Pt) : Bool := s.1 == t.1 && s.2 == t.2
theorem eqB_iff (s t : Pt) : eqB s t = true ↔ s = t := by
  unfold eqB; simp [Prod.ext_iff]
/-- Elements without those that are as the one before. -/
def cmpD (d : List Pt) : Nat → List Pt
  | 0 => []
  | k + 1 => if 0 < k ∧ eqB (pd d k) (pd d (k - 1)) = true then cmpD d k else cmpD d k ++ [pd d k]
theorem cmpD_ok (d : List Pt) (hd : d.Pairwise fun a b => Bf a b ∨ a = b) : ∀ n, n ≤ d.length → (cmpD d n).Pairwise Bf ∧ ∀ q, q ∈ cmpD d n ↔ q ∈ d.take n
  | 0, _ => by simp [cmpD]
  | n + 1, h => by
    obtain ⟨ih1, ih2⟩ := cmpD_ok d hd n (by omega)
    rw [take_pd d n (by omega)]
    unfold cmpD
    split
    · next hc =>
      refine ⟨ih1, fun q => ?_⟩
      rw [ih2, List.mem_append, List.mem_singleton]
      have hm : pd d n ∈ d.take n := by
        rw [(eqB_iff _ _).1 hc.2, pd_eq d (n - 1) (by omega)]
        exact List.mem_iff_getElem.2 ⟨n - 1, by rw [List.length_take]; omega, List.getElem_take⟩
      constructor
      · exact .inl
      · rintro (h | rfl)
        · exact h
        · exact hm
    · next hc =>
      refine ⟨List.pairwise_append.2 ⟨ih1, by simp, fun a ha b hb => ?_⟩, fun q => by rw [List.mem_append, List.mem_append, ih2]⟩
      rw [List.mem_singleton.1 hb]
      rw [ih2] at ha
      obtain ⟨i, hi, he⟩ := List.mem_iff_getElem.1 ha
      rw [List.length_take] at hi
      rw [List.getElem_take] at he
      have h1 := List.pairwise_iff_getElem.1 hd i n (by omega) (by omega) (by omega)
      rw [he, ← pd_eq d n (by omega)] at h1
      rcases h1 with h1 | h1
      · exact h1
      · exfalso
        refine hc ⟨by omega, ?_⟩
        rw [eqB_iff]
        by_cases hin : i = n - 1
        · subst hin; rw [← pd_eq d (n - 1) (by omega)] at he; rw [he, h1]
        · have h2 := List.pairwise_iff_getElem.1 hd i (n - 1) (by omega) (by omega) (by omega)
          have h3 := List.pairwise_iff_getElem.1 hd (n - 1) n (by omega) (by omega) (by omega)
          rw [he, ← pd_eq d (n - 1) (by omega)] at h2
          rw [← pd_eq d n (by omega), ← pd_eq d (n - 1) (by omega)] at h3
          rw [← h1] at h3 ⊢
          rcases h2 with h2 | h2
          · rcases h3 with h3 | h3
            · exact absurd h3 (geo_up.asym h2)
            · exact h3.symm
          · exact h2
theorem sort_srt (l : List Pt) : cmpD (sortP l) (sortP l).length = srtP l := by
  obtain ⟨h1, h2⟩ := cmpD_ok (sortP l) (sortP_ord l) _ (Nat.le_refl _)
  refine srtP_of h1 fun q => ?_
  rw [h2, List.take_length, (sortP_perm l).mem_iff]
def encVP (t : Pt) : List Value := [.int .i64 t.1, .int .i64 t.2]
theorem encVP_len (t : Pt) : (encVP t).length = 2 := rfl
theorem encVP_one (t : Pt) : ∀ v ∈ encVP t, v.oneCell' = true := fun v hv => by
  simp [encVP] at hv
  rcases hv with rfl | rfl <;> rfl
theorem flatP_at (l : List Pt) (k i : Nat) (hk : k < l.length) (hi : i < 2) : (ints (flatP l))[k * 2 + i]? = (encVP (pd l k))[i]? := by
  rw [getD_ints _ _ (by rw [flatP_len]; omega), show gd (flatP l) (k * 2 + i) = gd (encP l[k]) i from flat_gd encP_len l k i hk hi, ← pd_eq l k hk]
  have : i = 0 ∨ i = 1 := by omega
  rcases this with rfl | rfl <;> rfl
/-- The sort's flat row is ours. -/
theorem flatKP_ints (l : List Pt) : (flatK encVP 2 l.toArray).toList = ints (flatP l) := by
  refine List.ext_getElem? fun j => ?_
  by_cases hj : j < l.length * 2
  · have h1 := Sort.get_flatK encVP 2 l.toArray j (by simpa using hj)
    have hq : j / 2 < l.length := by omega
    have h2 := flatP_at l (j / 2) (j % 2) hq (by omega)
    rw [show j / 2 * 2 + j % 2 = j by omega] at h2
    rw [h2]
    have hs : j < (flatK encVP 2 l.toArray).size := by simpa using hj
    rw [getElem!_pos _ j hs] at h1
    rw [Array.getElem?_toList, Array.getElem?_eq_getElem hs, h1]
    have h3 : (l.toArray)[j / 2]! = pd l (j / 2) := by
      rw [getElem!_pos _ _ (by simpa using hq), pd_eq l _ hq]; simp
    rw [h3]
    have hr : j % 2 < (encVP (pd l (j / 2))).length := by rw [encVP_len]; omega
    rw [List.getElem?_eq_getElem hr, getElem!_pos (encVP (pd l (j / 2))) (j % 2) hr]
  · have e1 : (flatK encVP 2 l.toArray).toList.length = l.length * 2 := by simp
    have e2 : (ints (flatP l)).length = l.length * 2 := by simp [ints, flatP_len]
    exact (List.getElem?_eq_none (by omega)).trans (List.getElem?_eq_none (by omega)).symm
theorem holdsP_of {w : World} {B : Nat} {g n cap : Nat} {l : List Pt} (hn : n = l.length) (h : w.ownsRow B 35 2 (.slice (some ⟨g, 0, none⟩) n cap) n (ints (flatP l))) : HoldsK encVP 2 w g 0 l.toArray := by
  intro j hj
  have hj' : j < l.length * 2 := by simpa using hj
  refine ⟨?_, by rw [Nat.zero_add]; exact World.ownsRow.frozenAt h j⟩
  rw [Nat.zero_add, World.ownsRow.cellAt h j (by omega), ← flatKP_ints, Array.getElem?_toList, Array.getElem?_eq_getElem hj]
  rw [getElem!_pos _ j hj]
  rfl
/-- A row of ours behind the sort. -/
theorem putP_row {w : World} {B : Nat} {g n cap : Nat} {xs : List Value} {T : TypeId} (h : w.ownsRow B T 2 (.slice (some ⟨g, 0, none⟩) n cap) n xs) (F : Array Value) (hF : F.size = n * 2) (m : Nat) (os : Array Obj) :
    (grow (putRow id (Sort.ahead w m) g 0 F) os).ownsRow B T 2 (.slice (some ⟨g, 0, none⟩) n cap) n F.toList ∧ w.grownBy (grow (putRow id (Sort.ahead w m) g 0 F) os) (some g) := by
  refine ⟨⟨by simpa using hF, ?_⟩, ?_⟩
  · rcases h.2 with ⟨h0, -⟩ | ⟨g', cap', cur, hv, hB, hh, hn, hc, hs, ht⟩
    · cases h0
    · obtain ⟨rfl, rfl⟩ : g = g' ∧ cap = cap' := by simpa using hv
      have hlt : g < w.heap.size := (Array.getElem?_eq_some_iff.1 hh).1
      refine .inr ⟨g, cap, Sort.putCells id 0 F cur, rfl, hB, ?_, hn, hc, by simp [Sort.putCells, hs], ?_⟩
      · rw [Sort.heap_grow_old _ _ (by rw [Sort.size_putRow]; exact hlt)]
        unfold Sort.putRow Sort.mapBlock
        simp only [Sort.ahead]
        rw [Array.getElem?_modify, if_pos rfl, hh]
        rfl
      · refine List.ext_getElem? fun j => ?_
        by_cases hj : j < n * 2
        · have hcs : n * 2 ≤ cap * 2 := Nat.mul_le_mul_right 2 hn
          rw [List.getElem?_take_of_lt hj, Array.getElem?_toList, Array.getElem?_toList, Array.getElem?_eq_getElem (by omega : j < F.size)]
          simp only [Sort.putCells, Array.getElem?_mapIdx]
          rw [Array.getElem?_eq_getElem (by omega : j < cur.size)]
          simp only [Option.map_some, Nat.zero_le, Nat.zero_add, true_and, Nat.sub_zero, id]
          rw [if_pos (by omega), getElem!_pos _ _ (by omega)]
        · rw [List.getElem?_eq_none (by simp; omega), List.getElem?_eq_none (by simp; omega)]
  · refine ⟨rfl, rfl, rfl, ?_, fun k hk hne => ?_⟩
    · show w.heap.size ≤ (_ ++ os).size
      rw [Array.size_append]
      have : (putRow id (Sort.ahead w m) g 0 F).heap.size = w.heap.size := Sort.size_putRow _ _ _ _ _
      omega
    · have hs : (putRow id (Sort.ahead w m) g 0 F).heap.size = w.heap.size := Sort.size_putRow _ _ _ _ _
      rw [Sort.heap_grow_old _ _ (by rw [hs]; exact hk)]
      unfold Sort.putRow Sort.mapBlock
      simp only [Sort.ahead]
      rw [Array.getElem?_modify, if_neg (by rintro rfl; exact hne rfl)]
theorem cmpP_lays (blk off size : Nat) (w : World) : CmpLays Try.prog 46 #[] encVP 2 cmpP blk off size w := fun _ _ _ _ x y => comparePoints_any x y _
theorem entP_cmp : ∀ (args : Array Value) (w : World), (callFunc 46 args).run Try.prog w = .ok (.enter 46 args) w := enters_of Try.func46 (by kernel_rfl) rfl
theorem sortFuncP_any (w : World) (B : Nat) (v : Value) (l : List Pt) (h : PtS w B v l) (hz : l.length ≤ 1000000) : Calls Try.prog 45 #[v, .func (.func 46) #[] #[]] w fun e w' => e = .returned (.tuple #[]) ∧ PtS w' B v (sortP l) ∧ w.grownBy w' v.ownBlock := by
  have hlen := h.len
  rcases h.2 with ⟨rfl, h0⟩ | ⟨g, cap, cur, rfl, hBg, hh, -⟩
  · have hl : l = [] := List.eq_nil_of_length_eq_zero h0
    subst hl
    have hcon := AnyF.slices_SortFunc_none { Try.sortPoint with } none 0 (.func (.func 46) #[] #[]) w
    refine hcon.mono ?_
    rintro e w' ⟨rfl, rfl⟩
    exact ⟨rfl, by simpa [sortP] using h, World.grownBy.refl _ _⟩
  · have hg : g < w.heap.size := (Array.getElem?_eq_some_iff.1 hh).1
    have hcon := AnyQ.slices_SortFunc_total Try.sortPoint 2 Try.isAgg35 Try.sizeOf35 encVP encVP_len encVP_one cmpP swo_cmpP 46 #[] g 0 cap l.toArray w entP_cmp (cmpP_lays g 0 _ w) (holdsP_of rfl h) hg (by simp; omega) tot_cmpP
    rw [List.size_toArray] at hcon
    refine hcon.mono ?_
    rintro e w' ⟨rfl, m, os, rfl⟩
    have hF : (flatK encVP 2 (sortP l).toArray).size = l.length * 2 := by rw [Sort.size_flatK, List.size_toArray, sortP_len]
    obtain ⟨h1, h2⟩ := putP_row h (flatK encVP 2 (sortP l).toArray) hF m os
    refine ⟨rfl, ?_, h2⟩
    unfold PtS FS
    rw [sortP_len, ← flatKP_ints]
    exact h1
theorem cmpD_len (d : List Pt) : ∀ k, (cmpD d k).length ≤ k
  | 0 => by simp [cmpD]
  | k + 1 => by
    have := cmpD_len d k
    unfold cmpD
    split
    · omega
    · simp; omega
theorem cmpD_skip {d : List Pt} {k : Nat} (h0 : 0 < k) (h : eqB (pd d k) (pd d (k - 1)) = true) : cmpD d (k + 1) = cmpD d k := by
  rw [cmpD, if_pos ⟨by omega, h⟩]
theorem cmpD_keep {d : List Pt} {k : Nat} (h : eqB (pd d k) (pd d (k - 1)) = false) : cmpD d (k + 1) = cmpD d k ++ [pd d k] := by
  rw [cmpD, if_neg (by rw [h]; simp)]
theorem cmpD_one {d : List Pt} (h : 0 < d.length) : cmpD d 1 = d.take 1 := by
  rw [cmpD, if_neg (by simp), take_pd d 0 h]; simp [cmpD]
theorem pd_set {L : List Pt} {i p : Nat} {t : Pt} (h : i ≠ p) : pd (L.set i t) p = pd L p := by
  unfold pd; rw [List.getD_eq_getElem?_getD, List.getD_eq_getElem?_getD, List.getElem?_set_ne h]
theorem flatP_set : ∀ (L : List Pt) (i : Nat) (t : Pt), i < L.length → flatP (L.set i t) = ((flatP L).set (i * 2) t.1).set (i * 2 + 1) t.2
  | [], _, _, h => by simp at h
  | a :: r, 0, t, _ => rfl
  | a :: r, i + 1, t, h => by
    have ih := flatP_set r i t (by simpa using h)
    show encP a ++ flatP (r.set i t) = _
    rw [ih, show (i + 1) * 2 = i * 2 + 1 + 1 by omega]
    rfl
theorem take_set_snocP {L : List Pt} {i : Nat} {t : Pt} (h : i < L.length) : (L.set i t).take (i + 1) = L.take i ++ [t] := by
  rw [take_pd _ _ (by simpa using h), List.take_set_of_le (Nat.le_refl _), pd_eq _ _ (by simpa using h)]
  simp
theorem nePt : ∀ (s t : Pt) (w : World), Sem.run Try.prog (binOp .neq 35 (ptV s) (ptV t)) w = .ok (.bool (!eqB s t)) w := by
  intro x y w
  have u3 := Try.underlying3
  have a3 := Try.isAgg3
  have z3 := Try.sizeOf3
  have hS : Try.prog.underlying 35 = some (.struct (Try.prog.fieldsOf 35)) := by kernel_rfl
  have hp : Try.prog.stoodInHeld 35 = false := by kernel_rfl
  unfold eqB
  rw [run_neq_struct, show (10000 : Nat) = 9999 + 1 from rfl, run_equalIn_agg w 9999 35 _ _ hS hp]
  simp only [Program.fieldsOf, Try.underlying35]
  go_simp
  by_cases h1 : x.1 = y.1 <;> by_cases h2 : x.2 = y.2 <;> simp [h1, h2]
set_option maxHeartbeats 2000000 in
set_option maxRecDepth 100000 in
theorem compactP_any (w : World) (B : Nat) (v : Value) (d : List Pt) (h : PtS w B v d) (hz : d.length ≤ 1000000) : Calls Try.prog 47 #[v] w fun e w' => ∃ r, e = .returned r ∧ PtS w' B r (cmpD d d.length) ∧ w.grownBy w' v.ownBlock := by
  have hlen := h.len
  obtain ⟨n, hn⟩ : ∃ n, n = d.length := ⟨_, rfl⟩
  have HN := Lib.hid hn
  by_cases h2 : n < 2
  · have HC := Lib.hid (show cmpD d d.length = d by
      rcases Nat.eq_zero_or_pos d.length with h0 | h0
      · rw [List.eq_nil_of_length_eq_zero h0]; rfl
      · have h1 : d.length = 1 := by omega
        rw [h1, cmpD_one h0, ← h1, List.take_length])
    have H0 := Lib.hid h
    obtain ⟨A, cap, rfl, -, -⟩ := PtS.parts h
    rw [← hn] at hz ⊢
    clear h hn hlen
    go_enter Try.func47, Try.ntmps47
    go_wp2
    go_ret
    refine ⟨_, rfl, ?_, World.grownBy.refl _ _⟩
    rw [HN.out, HC.out]
    exact H0.out
  · rcases h.2 with ⟨rfl, h0⟩ | ⟨g, cap, cur, rfl, hBg, hh, hnc, hcm, -⟩
    · omega
    · have hg : g < w.heap.size := (Array.getElem?_eq_some_iff.1 hh).1
      obtain ⟨A', cap', hv', -, hp⟩ := PtS.parts h
      simp only [Value.slice.injEq, true_and] at hv'
      obtain ⟨rfl, rfl⟩ := hv'
      have HP := Lib.hid (fun k hk => by
        obtain ⟨g', hg', hx⟩ := hp k hk
        obtain rfl : g = g' := by simpa using hg'
        exact (hx : X2 w g (k * 2) (pd d k)))
      have H0 := Lib.hid h
      have h2' : 2 ≤ n := by omega
      rw [← hn] at hz hnc ⊢
      clear h hn hlen hp hh h2
      go_enter Try.func47, Try.ntmps47
      go_wp2
      go_loopw [3] (fun i wr => ∃ k : Nat, 1 ≤ k ∧ k ≤ n ∧ i = .int .i64 k ∧ Hid (cmpD d k = d.take k) ∧ Hid (Gr w wr)) (fun i _ => n - (intOf i).toNat)
      case atStart => exact ⟨1, by omega, by omega, rfl, Lib.hid (cmpD_one (by rw [← HN.out]; omega)), Lib.hid (gr0 w)⟩
      case round =>
        obtain ⟨k, hk1, hk, rfl, hco, hgr⟩ := hrel
        by_cases hlt : k < n
        · have ck := X2.below (HP.out k (by rw [← HN.out]; exact hlt)) hgr.out.below
          have cp := X2.below (HP.out (k - 1) (by rw [← HN.out]; omega)) hgr.out.below
          obtain ⟨a0, a1⟩ := X2.grown ck
          obtain ⟨b0, b1⟩ := X2.grown cp
          have q1 : IntKind.i64.wrap ((k : Int) - 1) = ((k - 1 : Nat) : Int) := by rw [IntWalk.i64_in _ (by omega)]; omega
          have z1 : ((k - 1 : Nat) : Int) < (n : Int) := by omega
          have z2 : (0 : Int) ≤ ((k - 1 : Nat) : Int) := by omega
          have z3 : k - 1 < n := by omega
          clear ck cp
          cases hsm : eqB (pd d k) (pd d (k - 1))
          · have HK := Lib.hid (cmpD_keep hsm)
            have he : ∀ W, Sem.run Try.prog (binOp .eql 35 (ptV (pd d k)) (ptV (pd d (k - 1)))) W = .ok (.bool false) W := fun W => by rw [eqPt]; exact congrArg (fun b => Result.ok (Value.bool b) W) hsm
            have hne : ∀ W, Sem.run Try.prog (binOp .neq 35 (ptV (pd d k)) (ptV (pd d (k - 1)))) W = .ok (.bool true) W := fun W => by rw [nePt, hsm]; rfl
            clear hsm
            go_wp2_with fail
            refine wp_region_quiet_grown (by kernel_rfl) (by kernel_rfl) ?_
            repeat (go_big_quiet_step ((fail)))
            refine wpQuiet_nil ?_
            intro _ hw'
            obtain ⟨⟨nq, osq⟩, hw''⟩ := hw'
            subst hw''
            clear q1
            go_wp2
            go_roundw
            case rel => exact ⟨k + 1, by omega, by omega, by go_num, Lib.hid (by rw [HK.out, hco.out, take_pd d k (by rw [← HN.out]; exact hlt)]), Lib.hid (hgr.out.trans ⟨_, _, rfl⟩)⟩
            case measure => simp [intOf]; omega
          · have HK := Lib.hid (cmpD_skip (by omega) hsm)
            have he : ∀ W, Sem.run Try.prog (binOp .eql 35 (ptV (pd d k)) (ptV (pd d (k - 1)))) W = .ok (.bool true) W := fun W => by rw [eqPt]; exact congrArg (fun b => Result.ok (Value.bool b) W) hsm
            have hne : ∀ W, Sem.run Try.prog (binOp .neq 35 (ptV (pd d k)) (ptV (pd d (k - 1)))) W = .ok (.bool false) W := fun W => by rw [nePt, hsm]; rfl
            clear hsm
            go_wp2_with fail
            refine wp_region_quiet_grown (by kernel_rfl) (by kernel_rfl) ?_
            repeat (go_big_quiet_step ((fail)))
            refine wpQuiet_nil ?_
            intro _ hw'
            obtain ⟨⟨nq, osq⟩, hw''⟩ := hw'
            subst hw''
            clear q1 a0 a1 b0 b1
            have hG := Lib.hid (hgr.out.trans ⟨nq, osq, rfl⟩)
            generalize grow (wr.drewN nq) osq = w1 at hG ⊢
            have HR := Lib.hid (FS.below H0.out hG.out.below)
            have hd1 : cmpD d (k + 1) = d.take k := by rw [HK.out, hco.out]
            have HD1 := Lib.hid hd1
            clear hd1
            go_wp2
            go_loopw [3, 5] (fun i5 i7 wq => ∃ W : World, W = wq ∧ ∃ (kk k2 : Nat) (L : List Pt), i5 = .int .i64 kk ∧ i7 = .int .i64 k2 ∧ 1 ≤ k2 ∧ k + k2 ≤ n ∧ kk < k + k2 ∧ Hid (kk = (cmpD d (k + k2)).length) ∧ Hid (L.length = n) ∧ Hid (L.take kk = cmpD d (k + k2)) ∧ Hid (∀ p, k + k2 - 1 ≤ p → pd L p = pd d p) ∧ Hid (wq.ownsRow B 35 2 (.slice (some ⟨g, 0, none⟩) n cap) n (ints (flatP L))) ∧ Hid (w.grownBy wq (some g))) (fun _ i _ => n - k - (intOf i).toNat)
            case atStart =>
              refine ⟨_, rfl, k, 1, d, rfl, rfl, by omega, by omega, by omega, Lib.hid ?_, Lib.hid HN.out.symm, Lib.hid HD1.out.symm, Lib.hid fun _ _ => rfl, Lib.hid ?_, Lib.hid ?_⟩
              · rw [HD1.out, List.length_take, ← HN.out]; omega
              · have := HR.out
                unfold FS at this
                rw [← HN.out] at this
                exact this
              · obtain ⟨q, os, rfl⟩ := hG.out
                have hb := Lib.below_grow w.heap.size w (Nat.le_refl _) q os
                exact ⟨hb.os, hb.tape, hb.output, hb.size, fun j hj _ => hb.block j hj⟩
            case round =>
              obtain ⟨wq, rfl, kk, k2, L, rfl, rfl, h1, hle, hkk, hlen, hL, htk, hhi, hrow, hgr2⟩ := hrel
              have hgq : g < wq.heap.size := (World.ownsRow.lt hrow.out g rfl).2
              have hcell : ∀ p, p < n → X2 wq g (p * 2) (pd L p) := fun p hp => by
                have e : ∀ i, i < 2 → wq.cell? ⟨g, p * 2 + i, none⟩ = (encVP (pd L p))[i]? := fun i hi => by
                  rw [World.ownsRow.cellAt hrow.out (p * 2 + i) (by omega), flatP_at L p i (by rw [hL.out]; exact hp) hi]
                exact ⟨e 0 (by omega), e 1 (by omega)⟩
              have HCell := Lib.hid hcell
              clear hcell
              by_cases hlt2 : k + k2 < n
              · have ck := HCell.out (k + k2) hlt2
                have cp := HCell.out (k + k2 - 1) (by omega)
                rw [hhi.out (k + k2) (by omega), show (k + k2) * 2 = k * 2 + k2 * 2 by omega] at ck
                rw [hhi.out (k + k2 - 1) (by omega), show (k + k2 - 1) * 2 = k * 2 + (k2 - 1) * 2 by omega] at cp
                obtain ⟨a0, a1⟩ := X2.grown ck
                obtain ⟨b0, b1⟩ := X2.grown cp
                have q1 : IntKind.i64.wrap ((k2 : Int) - 1) = ((k2 - 1 : Nat) : Int) := by rw [IntWalk.i64_in _ (by omega)]; omega
                have z3 : k2 - 1 < n - k := by omega
                have z4 : k2 < n - k := by omega
                have z2 : (0 : Int) ≤ ((k2 - 1 : Nat) : Int) := by omega
                cases hsm : eqB (pd d (k + k2)) (pd d (k + k2 - 1))
                · have HK2 := Lib.hid (cmpD_keep hsm)
                  have he : ∀ W, Sem.run Try.prog (binOp .eql 35 (ptV (pd d (k + k2))) (ptV (pd d (k + k2 - 1)))) W = .ok (.bool false) W := fun W => by rw [eqPt]; exact congrArg (fun b => Result.ok (Value.bool b) W) hsm
                  have hne : ∀ W, Sem.run Try.prog (binOp .neq 35 (ptV (pd d (k + k2))) (ptV (pd d (k + k2 - 1)))) W = .ok (.bool true) W := fun W => by rw [nePt, hsm]; rfl
                  clear hsm
                  go_wp2_with fail
                  refine wp_region_quiet_grown (by kernel_rfl) (by kernel_rfl) ?_
                  repeat (go_big_quiet_step ((fail)))
                  refine wpQuiet_nil ?_
                  intro _ hw'
                  obtain ⟨⟨nq, osq⟩, hw''⟩ := hw'
                  subst hw''
                  have hrow1 := Lib.hid (show (grow (wq.drewN nq) osq).ownsRow B 35 2 (.slice (some ⟨g, 0, none⟩) n cap) n (ints (flatP L)) from FS.below (zs := flatP L) hrow.out (grB nq osq))
                  have ck1 := X2.below ck (grB nq osq)
                  have hg1 := Lib.hid (Lib.grownBy_trans hgr2.out (show wq.grownBy (grow (wq.drewN nq) osq) (some g) from by
                    have hb := grB (w := wq) nq osq
                    exact ⟨hb.os, hb.tape, hb.output, hb.size, fun j hj _ => hb.block j hj⟩))
                  clear q1 a0 a1 b0 b1 ck cp
                  generalize grow (wq.drewN nq) osq = W1 at hrow1 ck1 hg1 ⊢
                  obtain ⟨c0, c1⟩ := ck1
                  have f0 := World.ownsRow.frozenAt hrow1.out (kk * 2)
                  have f1 := World.ownsRow.frozenAt hrow1.out (kk * 2 + 1)
                  have e : ∀ i, i < 2 → W1.cell? ⟨g, kk * 2 + i, none⟩ = (encVP (pd L kk))[i]? := fun i hi => by
                    rw [World.ownsRow.cellAt hrow1.out (kk * 2 + i) (by omega), flatP_at L kk i (by rw [hL.out]; omega) hi]
                  have o0 : W1.cell? ⟨g, kk * 2, none⟩ = some (.int .i64 (pd L kk).1) := e 0 (by omega)
                  have o1 : W1.cell? ⟨g, kk * 2 + 1, none⟩ = some (.int .i64 (pd L kk).2) := e 1 (by omega)
                  have s0 := World.ownsRow.stored hrow1.out (kk * 2) (.int .i64 (pd d (k + k2)).1)
                  have s1 := World.ownsRow.stored s0.1 (kk * 2 + 1) (.int .i64 (pd d (k + k2)).2)
                  have hrow2 := s1.1
                  rw [show ((ints (flatP L)).set (kk * 2) (.int .i64 (pd d (k + k2)).1)).set (kk * 2 + 1) (.int .i64 (pd d (k + k2)).2) = ints (flatP (L.set kk (pd d (k + k2)))) from by rw [flatP_set L kk _ (by rw [hL.out]; omega)]; unfold ints; simp only [List.map_set]] at hrow2
                  have HF := Lib.hid (And.intro hrow2 (Lib.grownBy_trans (Lib.grownBy_trans hg1.out s0.2) s1.2))
                  clear s0 s1 hrow2 e
                  have hkn : kk < n := by omega
                  go_wp2
                  go_roundw
                  case rel =>
                    refine ⟨_, rfl, kk + 1, k2 + 1, L.set kk (pd d (k + k2)), by go_num, by go_num, by omega, by omega, by omega, Lib.hid ?_, Lib.hid (by rw [List.length_set]; exact hL.out), Lib.hid ?_, Lib.hid fun p hp => ?_, Lib.hid HF.out.1, Lib.hid HF.out.2⟩
                    · rw [show k + (k2 + 1) = k + k2 + 1 by omega, HK2.out, List.length_append, ← hlen.out]; rfl
                    · rw [show k + (k2 + 1) = k + k2 + 1 by omega, HK2.out, take_set_snocP (by rw [hL.out]; exact hkn), htk.out]
                    · rw [pd_set (by omega)]; exact hhi.out p (by omega)
                  case measure => simp [intOf]; omega
                · have HK2 := Lib.hid (cmpD_skip (by omega) hsm)
                  have he : ∀ W, Sem.run Try.prog (binOp .eql 35 (ptV (pd d (k + k2))) (ptV (pd d (k + k2 - 1)))) W = .ok (.bool true) W := fun W => by rw [eqPt]; exact congrArg (fun b => Result.ok (Value.bool b) W) hsm
                  have hne : ∀ W, Sem.run Try.prog (binOp .neq 35 (ptV (pd d (k + k2))) (ptV (pd d (k + k2 - 1)))) W = .ok (.bool false) W := fun W => by rw [nePt, hsm]; rfl
                  clear hsm
                  go_wp2_with fail
                  refine wp_region_quiet_grown (by kernel_rfl) (by kernel_rfl) ?_
                  repeat (go_big_quiet_step ((fail)))
                  refine wpQuiet_nil ?_
                  intro _ hw'
                  obtain ⟨⟨nq, osq⟩, hw''⟩ := hw'
                  subst hw''
                  clear q1 a0 a1 b0 b1
                  go_wp2
                  go_roundw
                  case rel =>
                    refine ⟨_, rfl, kk, k2 + 1, L, rfl, by go_num, by omega, by omega, by omega, Lib.hid ?_, hL, Lib.hid ?_, Lib.hid fun p hp => hhi.out p (by omega), Lib.hid (FS.below (zs := flatP L) hrow.out (grB _ _)), Lib.hid ?_⟩
                    · rw [show k + (k2 + 1) = k + k2 + 1 by omega, HK2.out]; exact hlen.out
                    · rw [show k + (k2 + 1) = k + k2 + 1 by omega, HK2.out]; exact htk.out
                    · have hb := grB (w := wq) nq osq
                      exact Lib.grownBy_trans hgr2.out ⟨hb.os, hb.tape, hb.output, hb.size, fun j hj _ => hb.block j hj⟩
                  case measure => simp [intOf]; omega
              · have hkn : kk < n := by omega
                have hke : k + k2 = n := by omega
                have hcl : ∀ ty, (Builtin.clear_ #[23] ty #[.slice (some ⟨g, kk * 2, none⟩) (n - kk) (cap - kk)]).run Try.prog wq = .ok (.tuple #[]) (wq.setCells g (kk * 2) (ints (List.replicate ((n - kk) * 2) 0))) := fun ty =>
                  clear_at wq 23 35 ty _ Try.underlying23 Try.zeroValue35 2 (by omega) rfl g (kk * 2) (n - kk) (cap - kk) (by omega)
                    (fun j hj => by rw [World.ownsRow.cellAt hrow.out (kk * 2 + j) (by omega), getD_ints _ _ (by rw [flatP_len, hL.out]; omega)]; rfl)
                    (fun j hj => World.ownsRow.frozenAt hrow.out (kk * 2 + j))
                obtain ⟨ys, y1, y2, y3⟩ := row_stores (ints (List.replicate ((n - kk) * 2) 0)) (kk * 2) wq _ hrow.out
                have HY := Lib.hid (And.intro (row_cut y1 (Nat.le_of_lt hkn)) (And.intro (Lib.grownBy_trans hgr2.out y2) y3))
                clear y1 y2 y3
                generalize wq.setCells g (kk * 2) (ints (List.replicate ((n - kk) * 2) 0)) = W2 at hcl HY
                go_wp2
                go_ret
                obtain ⟨y1, y2, y3⟩ := HY.out
                refine ⟨_, rfl, ?_, y2⟩
                rw [y3] at y1
                have hlk := hlen.out
                rw [hke] at hlk
                have htk := htk.out
                rw [hke] at htk
                unfold PtS FS
                rw [← hlk, ← htk, ← flatP_take]
                unfold ints at y1 ⊢
                rw [List.map_take]
                exact y1
        · obtain rfl : k = n := by omega
          go_wp2
          go_ret
          refine ⟨_, rfl, ?_, ?_⟩
          · have := FS.below H0.out hgr.out.below
            rw [hco.out, HN.out, List.take_length]
            exact this
          · have hb := hgr.out.below
            exact ⟨hb.os, hb.tape, hb.output, hb.size, fun j hj _ => hb.block j hj⟩
set_option maxRecDepth 100000 in
theorem cloneP_any (w : World) (B : Nat) (v : Value) (l : List Pt) (h : PtS w B v l) (hl : l.length ≤ 1048576) : Calls Try.prog 56 #[v] w fun e w' => GivesPt l w e w' := by
  obtain ⟨i0, hi, hz0, hz1, hz2⟩ := info_parts infoPoint
  have q22 : ∀ (w : World) (a : Option Addr) (n c n' c' : Nat), (binOp .eql 23 (.slice a n c) (.slice none n' c')).run Try.prog w = .ok (.bool a.isNone) w := fun w a n c n' c' => Lib.run_eql_slice_nil w _ _ a n c n' c' Try.underlying23
  have hlen := h.len
  rcases h.2 with ⟨rfl, h0⟩ | ⟨g, cap, cur, rfl, hB, -, -⟩
  · have hnil : l = [] := List.eq_nil_of_length_eq_zero h0
    subst hnil
    go_enter Try.func56, Try.ntmps56
    go_wp2
    go_ret
    exact ⟨_, rfl, FS.nil_ _ _ _ _, Below.refl _ _⟩
  · have hp : ∀ j u, (ints (flatP l))[j]? = some u → w.cell? ⟨g, j, none⟩ = some u := fun j u hu => by
      have hj : j < (flatP l).length := by have := (List.getElem?_eq_some_iff.1 hu).1; simpa [ints] using this
      rw [World.ownsRow.cellAt h j (by omega)]; exact hu
    have HP := Lib.hid hp
    have hgl := (World.ownsRow.lt h g rfl).2
    obtain ⟨n, hn⟩ : ∃ n, n = l.length := ⟨_, rfl⟩
    rw [← hn] at hl ⊢
    have HN := Lib.hid hn
    clear hp h hn hlen
    go_enter Try.func56, Try.ntmps56
    go_wp2_with (at_builtin; refine wpList_append_own _ rfl _ _ 23 rfl w.heap.size 35 i0 (.agg #[.int .i64 0, .int .i64 0]) 2 16 Try.underlying23 hi hz0 hz1 hz2 rfl (by decide) _ _ _ rfl (World.ownsRow_made w #[] 0 (Nat.le_refl _) (Nat.zero_le _) rfl) ⟨g, 0, none⟩ n cap (ints (flatP l)) rfl ?qc1 ?qc2 ?qc3 ?qc4 ?qc5 ?qc6 ?_)
    case qc1 => rw [HN.out]; simp [ints, flatP_len]
    case qc2 =>
      intro j u hj
      have h0 : (⟨g, 0, none⟩ : Addr).add j = ⟨g, j, none⟩ := by simp [Addr.add]; try omega
      rw [h0, World.cell?_alloc_past _ _ _ hgl]
      exact HP.out j u hj
    case qc3 => intro u hu; obtain ⟨x, _, rfl⟩ := List.mem_map.1 hu; rfl
    case qc4 => unfold maxLen; omega
    case qc5 => omega
    case qc6 => simp
    intro v' w1 hown hgrow hnil
    go_wp2
    go_ret
    refine ⟨v', rfl, ?_, ((Below.refl _ w).alloc (Nat.le_refl _) _).grown hgrow (by simp) (by intro k hk; simp [Value.ownBlock] at hk; omega)⟩
    unfold PtS FS
    rw [← HN.out]
    simpa using hown
theorem eqP_next (a b : List Pt) (k : Nat) (h : k < a.length) (h' : k < b.length) (he : a.take k = b.take k) (hk : pd a k = pd b k) : a.take (k + 1) = b.take (k + 1) := by
  rw [take_pd a k h, take_pd b k h', he, hk]
set_option maxHeartbeats 1000000 in
theorem equalP_any (w : World) (B B' : Nat) (v v' : Value) (l m : List Pt) (h : PtS w B v l) (h' : PtS w B' v' m) : Calls Try.prog 34 #[v, v'] w fun e w' => e = .returned (.bool (decide (l = m))) ∧ Below w.heap.size w w' := by
  obtain ⟨A, cap, rfl, hm, hp⟩ := PtS.parts h
  obtain ⟨A', cap', rfl, hm', hp'⟩ := PtS.parts h'
  unfold maxLen at hm hm'
  have HP := Lib.hid hp
  have HP' := Lib.hid hp'
  obtain ⟨n, hn⟩ : ∃ n, n = l.length := ⟨_, rfl⟩
  obtain ⟨n', hn'⟩ : ∃ n', n' = m.length := ⟨_, rfl⟩
  have HN := Lib.hid hn
  have HN' := Lib.hid hn'
  rw [← hn] at hm ⊢
  rw [← hn'] at hm' ⊢
  obtain ⟨d, hd⟩ : ∃ d, d = decide (l = m) := ⟨_, rfl⟩
  have HD := Lib.hid hd
  rw [← hd]
  clear hp hp' h h' hn hn' hd
  by_cases hl : n = n'
  · subst hl
    go_enter Try.func34, Try.ntmps34
    go_wp2
    go_loopw [13] (fun i wr => ∃ k : Nat, k ≤ n ∧ i = .int .i64 k ∧ Hid (l.take k = m.take k) ∧ Hid (Gr w wr)) (fun i _ => n - (intOf i).toNat)
    case atStart => exact ⟨0, by omega, rfl, Lib.hid rfl, Lib.hid (gr0 w)⟩
    case round =>
      obtain ⟨k, hk, rfl, heq, hgr⟩ := hrel
      by_cases hlt : k < n
      · have hk1 : k < l.length := by rw [← HN.out]; exact hlt
        have hk2 : k < m.length := by rw [← HN'.out]; exact hlt
        obtain ⟨g, rfl, hc⟩ := HP.out k hk1
        obtain ⟨g', rfl, hc'⟩ := HP'.out k hk2
        obtain ⟨a0, a1⟩ := X2.grown (X2.below hc hgr.out.below)
        obtain ⟨b0, b1⟩ := X2.grown (X2.below hc' hgr.out.below)
        clear hc hc'
        cases hsm : eqB (pd l k) (pd m k)
        · have hne : ∀ W, Sem.run Try.prog (binOp .neq 35 (ptV (pd l k)) (ptV (pd m k))) W = .ok (.bool true) W := fun W => by rw [nePt, hsm]; rfl
          have HE := Lib.hid (show d = false from by rw [HD.out, decide_eq_false_iff_not]; rintro rfl; have := (eqB_iff (pd l k) (pd l k)).2 rfl; rw [hsm] at this; cases this)
          clear hsm
          go_wp2
          refine wp_region_quiet_grown (by kernel_rfl) (by kernel_rfl) ?_
          repeat (go_big_quiet_step ((fail)))
          refine wpQuiet_nil ?_
          intro _ hw'
          obtain ⟨⟨nq, osq⟩, hw''⟩ := hw'
          subst hw''
          go_wp2
          go_ret
          exact ⟨ret_bool HE.out.symm, (hgr.out.trans ⟨_, _, rfl⟩).below⟩
        · have hne : ∀ W, Sem.run Try.prog (binOp .neq 35 (ptV (pd l k)) (ptV (pd m k))) W = .ok (.bool false) W := fun W => by rw [nePt, hsm]; rfl
          have HE := Lib.hid (eqP_next l m k hk1 hk2 heq.out ((eqB_iff _ _).1 hsm))
          clear hsm
          go_wp2
          refine wp_region_quiet_grown (by kernel_rfl) (by kernel_rfl) ?_
          repeat (go_big_quiet_step ((fail)))
          refine wpQuiet_nil ?_
          intro _ hw'
          obtain ⟨⟨nq, osq⟩, hw''⟩ := hw'
          subst hw''
          go_wp2
          go_roundw
          case rel => exact ⟨k + 1, by omega, by go_num, HE, Lib.hid (hgr.out.trans ⟨_, _, rfl⟩)⟩
          case measure => simp [intOf]; omega
      · obtain rfl : k = n := by omega
        go_wp2
        go_ret
        exact ⟨ret_bool (by rw [HD.out]; symm; rw [decide_eq_true_iff]; have := heq.out; rwa [HN.out, List.take_length, ← HN.out, HN'.out, List.take_length] at this), hgr.out.below⟩
  · have HE := Lib.hid (show d = false from by rw [HD.out, decide_eq_false_iff_not]; rintro rfl; exact hl (HN.out.trans HN'.out.symm))
    have hl2 : ¬ (n : Int) = (n' : Int) := by omega
    go_enter Try.func34, Try.ntmps34
    go_wp2
    go_ret
    exact ⟨ret_bool HE.out.symm, Below.refl _ _⟩
set_option maxHeartbeats 1000000 in
theorem pySame_any (w : World) (B B' : Nat) (v v' : Value) (l m : List Pt) (h : PtS w B v l) (h' : PtS w B' v' m) : Calls Try.prog 51 #[v, v'] w fun e w' => e = .returned (.bool (decide (l = m))) ∧ Below w.heap.size w w' := by
  obtain ⟨A, cap, rfl, hm, hp⟩ := PtS.parts h
  obtain ⟨A', cap', rfl, hm', hp'⟩ := PtS.parts h'
  unfold maxLen at hm hm'
  have HP := Lib.hid hp
  have HP' := Lib.hid hp'
  obtain ⟨n, hn⟩ : ∃ n, n = l.length := ⟨_, rfl⟩
  obtain ⟨n', hn'⟩ : ∃ n', n' = m.length := ⟨_, rfl⟩
  have HN := Lib.hid hn
  have HN' := Lib.hid hn'
  rw [← hn] at hm ⊢
  rw [← hn'] at hm' ⊢
  obtain ⟨d, hd⟩ : ∃ d, d = decide (l = m) := ⟨_, rfl⟩
  have HD := Lib.hid hd
  rw [← hd]
  clear hp hp' h h' hn hn' hd
  by_cases hl : n = n'
  · subst hl
    go_enter Try.func51, Try.ntmps51
    go_wp2
    go_loopw [13] (fun i wr => ∃ k : Nat, k ≤ n ∧ i = .int .i64 k ∧ Hid (l.take k = m.take k) ∧ Hid (Gr w wr)) (fun i _ => n - (intOf i).toNat)
    case atStart => exact ⟨0, by omega, rfl, Lib.hid rfl, Lib.hid (gr0 w)⟩
    case round =>
      obtain ⟨k, hk, rfl, heq, hgr⟩ := hrel
      by_cases hlt : k < n
      · have hk1 : k < l.length := by rw [← HN.out]; exact hlt
        have hk2 : k < m.length := by rw [← HN'.out]; exact hlt
        obtain ⟨g, rfl, hc⟩ := HP.out k hk1
        obtain ⟨g', rfl, hc'⟩ := HP'.out k hk2
        obtain ⟨a0, a1⟩ := X2.grown (X2.below hc hgr.out.below)
        obtain ⟨b0, b1⟩ := X2.grown (X2.below hc' hgr.out.below)
        clear hc hc'
        cases hsm : eqB (pd l k) (pd m k)
        · have hne : ∀ W, Sem.run Try.prog (binOp .neq 35 (ptV (pd l k)) (ptV (pd m k))) W = .ok (.bool true) W := fun W => by rw [nePt, hsm]; rfl
          have HE := Lib.hid (show d = false from by rw [HD.out, decide_eq_false_iff_not]; rintro rfl; have := (eqB_iff (pd l k) (pd l k)).2 rfl; rw [hsm] at this; cases this)
          clear hsm
          go_wp2
          refine wp_region_quiet_grown (by kernel_rfl) (by kernel_rfl) ?_
          repeat (go_big_quiet_step ((fail)))
          refine wpQuiet_nil ?_
          intro _ hw'
          obtain ⟨⟨nq, osq⟩, hw''⟩ := hw'
          subst hw''
          go_wp2
          go_ret
          exact ⟨ret_bool HE.out.symm, (hgr.out.trans ⟨_, _, rfl⟩).below⟩
        · have hne : ∀ W, Sem.run Try.prog (binOp .neq 35 (ptV (pd l k)) (ptV (pd m k))) W = .ok (.bool false) W := fun W => by rw [nePt, hsm]; rfl
          have HE := Lib.hid (eqP_next l m k hk1 hk2 heq.out ((eqB_iff _ _).1 hsm))
          clear hsm
          go_wp2
          refine wp_region_quiet_grown (by kernel_rfl) (by kernel_rfl) ?_
          repeat (go_big_quiet_step ((fail)))
          refine wpQuiet_nil ?_
          intro _ hw'
          obtain ⟨⟨nq, osq⟩, hw''⟩ := hw'
          subst hw''
          go_wp2
          go_roundw
          case rel => exact ⟨k + 1, by omega, by go_num, HE, Lib.hid (hgr.out.trans ⟨_, _, rfl⟩)⟩
          case measure => simp [intOf]; omega
      · obtain rfl : k = n := by omega
        go_wp2
        go_ret
        exact ⟨ret_bool (by rw [HD.out]; symm; rw [decide_eq_true_iff]; have := heq.out; rwa [HN.out, List.take_length, ← HN.out, HN'.out, List.take_length] at this), hgr.out.below⟩
  · have HE := Lib.hid (show d = false from by rw [HD.out, decide_eq_false_iff_not]; rintro rfl; exact hl (HN.out.trans HN'.out.symm))
    have hl2 : ¬ (n : Int) = (n' : Int) := by omega
    go_enter Try.func51, Try.ntmps51
    go_wp2
    go_ret
    exact ⟨ret_bool HE.out.symm, Below.refl _ _⟩
end Go.Proofs.Ytamejfeaniokfaa

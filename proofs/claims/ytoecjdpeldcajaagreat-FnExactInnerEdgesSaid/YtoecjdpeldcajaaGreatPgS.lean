/-
  The stack of points of the program, its four methods; which points stay in it.
  Conditions: coordinates are small; the function value answers as the turn that is named.
-/
import Derived.Test.YtoecjdpeldcajaaGreatPg
import Derived.Test.YtoecjdpeldcajaaGreatRowC
import Derived.Deep.RegionLaw
namespace Go.Proofs.YtoecjdpeldcajaaGreat
set_option linter.unusedSimpArgs false
set_option linter.unusedVariables false
open Go.ChangeShapes Go.WideShapes Go.ChangeAt Go.RowKit
open Go.Sort (grow)

theorem flatP_take (d : List Pt) (k : Nat) : (flatP d).take (k * 2) = flatP (d.take k) := by
  induction d generalizing k with
  | nil => simp [flatP]
  | cons a d ih =>
    cases k with
    | zero => simp [flatP]
    | succ k =>
      show (encP a ++ flatP d).take ((k + 1) * 2) = encP a ++ flatP (d.take k)
      rw [← ih k, List.take_append, show (encP a).take ((k + 1) * 2) = encP a from List.take_of_length_le (by simp [encP]; omega), show (k + 1) * 2 - (encP a).length = k * 2 by simp [encP]; omega]
theorem flatP_drop (d : List Pt) (k : Nat) : (flatP d).drop (k * 2) = flatP (d.drop k) := by
  induction d generalizing k with
  | nil => simp [flatP]
  | cons a d ih =>
    cases k with
    | zero => simp [flatP]
    | succ k =>
      show (encP a ++ flatP d).drop ((k + 1) * 2) = flatP (d.drop k)
      rw [← ih k, List.drop_append, show (encP a).drop ((k + 1) * 2) = [] from List.drop_eq_nil_of_le (by simp [encP]; omega), show (k + 1) * 2 - (encP a).length = k * 2 by simp [encP]; omega, List.nil_append]
theorem flatP_app (a b : List Pt) : flatP (a ++ b) = flatP a ++ flatP b := by simp [flatP]
theorem take_pd (l : List Pt) (k : Nat) (hk : k < l.length) : l.take (k + 1) = l.take k ++ [pd l k] := by
  rw [pd_eq l k hk, List.take_succ_eq_append_getElem hk]
theorem pd_mem {l : List Pt} {k : Nat} (hk : k < l.length) : pd l k ∈ l := by rw [pd_eq l k hk]; exact List.getElem_mem hk
theorem PtS.some {w : World} {B : Nat} {v : Value} {l : List Pt} (h : PtS w B v l) (h0 : 0 < l.length) : ∃ g cap, v = .slice (some ⟨g, 0, none⟩) l.length cap ∧ B ≤ g ∧ l.length ≤ cap ∧ cap ≤ maxLen := by
  rcases h.2 with ⟨rfl, hn⟩ | ⟨g, cap, cur, rfl, hb, hg, hn, hm, hc, ht⟩
  · omega
  · exact ⟨g, cap, rfl, hb, hn, hm⟩
/-- The first elements of a list of points. -/
theorem PtS.cut {w : World} {B : Nat} {A : Option Addr} {n cap m : Nat} {l : List Pt} (hn : n = l.length) (h : PtS w B (.slice A n cap) l) (hm : m ≤ n) : PtS w B (.slice A m cap) (l.take m) := by
  have h1 : w.ownsRow B 55 2 (.slice A n cap) n (ints (flatP l)) := by rw [hn] at h ⊢; exact h
  have h2 := row_cut h1 hm
  have e : (l.take m).length = m := by simp; omega
  unfold PtS FS
  rw [e, ← flatP_take]
  unfold ints at h2 ⊢
  rw [List.map_take]
  exact h2
def slNP : Value → Nat
  | .slice _ n _ => n
  | _ => 0
theorem PtS.slN {w : World} {B : Nat} {v : Value} {l : List Pt} (h : PtS w B v l) : slNP v = l.length := by
  obtain ⟨A, cap, rfl, -, -⟩ := PtS.parts h; rfl
/-- A stack of a call's own in block B, its top first; its row lies behind. -/
def StP (B : Nat) (wr : World) (s : List Pt) : Prop := ∃ v, wr.cell? ⟨B, 0, none⟩ = some v ∧ wr.frozen? ⟨B, 0, none⟩ = false ∧ PtS wr (B + 1) v s.reverse
theorem StP.lt {B : Nat} {wr : World} {s : List Pt} (h : StP B wr s) : B < wr.heap.size := by
  obtain ⟨v, hv, -⟩ := h; exact cell_lt hv
theorem StP.below {B : Nat} {w w' : World} {s : List Pt} (h : StP B w s) (hb : Below w.heap.size w w') : StP B w' s := by
  have hl := h.lt
  obtain ⟨v, hv, hf, hr⟩ := h
  exact ⟨v, (hb.cell (p := ⟨B, 0, none⟩) hl).trans hv, (World.frozen?_of_block (hb.block B hl)).trans hf, FS.below hr hb⟩
theorem StP.drewN {B : Nat} {w : World} {s : List Pt} (h : StP B w s) (n : Nat) : StP B (w.drewN n) s := h
theorem belKP {B : Nat} {w w1 : World} (h : Below B w w1) (n : Nat) : Below B w (w1.drewN n) := ⟨h.os, h.tape, h.output, h.size, h.block⟩
/-- How many elements it has. -/
def stNP (B : Nat) (w : World) : Nat := slNP ((w.cell? ⟨B, 0, none⟩).getD undef)
theorem StP.stN {B : Nat} {w : World} {s : List Pt} (h : StP B w s) : stNP B w = s.length := by
  obtain ⟨v, hv, -, hr⟩ := h
  unfold stNP
  rw [hv]
  exact (PtS.slN hr).trans List.length_reverse
theorem stSizeP_any (B : Nat) (wr : World) (s : List Pt) (h : StP B wr s) : Calls Tryz.prog 103 #[.pointer (some ⟨B, 0, none⟩)] wr fun e w' => e = .returned (.int .i64 s.length) ∧ wr = w' := by
  obtain ⟨v, hv, -, hr⟩ := h
  obtain ⟨A, cap, rfl, -, -⟩ := PtS.parts hr
  rw [List.length_reverse] at hv
  clear hr
  go_enter Tryz.func103, Tryz.ntmps103
  go_wp2
  go_ret
  exact ⟨rfl, rfl⟩
theorem rev_twoP {j i : Pt} {t : List Pt} : pd (j :: i :: t).reverse (t.length + 1) = j ∧ pd (j :: i :: t).reverse t.length = i := by
  unfold pd
  constructor
  · rw [List.getD_eq_getElem?_getD, List.getElem?_reverse (by simp only [List.length_cons]; omega)]; simp
  · rw [List.getD_eq_getElem?_getD, List.getElem?_reverse (by simp only [List.length_cons]; omega)]; simp
theorem results_two {fn : Func} {p q : Tmp} {T U : TypeId} {ts : Array Value} {P : Program} {w : World} {a b : Addr} {x y : Value} (hr : fn.results = #[.cell p T, .cell q U]) (hp : ts.getD p undef = .pointer (some a)) (hq : ts.getD q undef = .pointer (some b)) (hx : (loadVar T a).run P w = .ok x w) (hy : (loadVar U b).run P w = .ok y w) : (Go.results fn ts).run P w = Result.ok (.tuple #[x, y]) w := by
  have hp' : ts[p]?.getD undef = .pointer (some a) := by simpa using hp
  have hq' : ts[q]?.getD undef = .pointer (some b) := by simpa using hq
  have ha : (asAddr (Value.pointer (some a))).run P w = .ok a w := rfl
  have hb : (asAddr (Value.pointer (some b))).run P w = .ok b w := rfl
  simp only [Go.results, hr]
  simp [Sem.run_bind, Result.andThen, hp', hq', ha, hb, hx, hy]
theorem P2.results2 {w : World} {g h : Nat} {s t : Pt} (hs : P2 w g s) (ht : P2 w h t) {fn : Func} {p q : Tmp} {ts : Array Value} (hr : fn.results = #[.cell p 55, .cell q 55]) (hp : ts.getD p undef = .pointer (some ⟨g, 0, none⟩)) (hq : ts.getD q undef = .pointer (some ⟨h, 0, none⟩)) : (Go.results fn ts).run Tryz.prog w = Result.ok (.tuple #[ptV s, ptV t]) w :=
  results_two hr hp hq hs.load ht.load
set_option maxHeartbeats 1000000 in
set_option maxRecDepth 100000 in
theorem stLastTwoP_any (B : Nat) (wr : World) (j i : Pt) (t : List Pt) (h : StP B wr (j :: i :: t)) (ht : t.length ≤ 100000) : Calls Tryz.prog 104 #[.pointer (some ⟨B, 0, none⟩)] wr fun e w' => e = .returned (.tuple #[ptV i, ptV j]) ∧ Below wr.heap.size wr w' := by
  obtain ⟨v, hv, -, hr⟩ := h
  obtain ⟨u, hu⟩ : ∃ u, u = t.length + 2 := ⟨_, rfl⟩
  obtain ⟨A, cap, rfl, -, hp⟩ := PtS.parts hr
  rw [List.length_reverse, List.length_cons, List.length_cons, ← hu] at hv
  obtain ⟨g, rfl, cj⟩ := hp (u - 1) (by simp; omega)
  obtain ⟨g', hg', ci⟩ := hp (u - 2) (by simp; omega)
  cases hg'
  obtain ⟨rv1, rv2⟩ := rev_twoP (j := j) (i := i) (t := t)
  rw [show u - 1 = t.length + 1 by omega, rv1, show t.length + 1 = u - 1 by omega] at cj
  rw [show u - 2 = t.length by omega, rv2, show t.length = u - 2 by omega] at ci
  have hu2 : 2 ≤ u := by omega
  have hu3 : u ≤ 200000 := by omega
  clear hu rv1 rv2 hp hr ht
  have q7 : IntKind.i64.wrap ((u : Int) - 2) = ((u - 2 : Nat) : Int) := by rw [IntWalk.i64_in _ (by omega)]; omega
  have q8 : IntKind.i64.wrap ((u : Int) - 1) = ((u - 1 : Nat) : Int) := by rw [IntWalk.i64_in _ (by omega)]; omega
  have l1 : u - 2 < u := by omega
  have l2 : u - 1 < u := by omega
  have lB : B < wr.heap.size := cell_lt hv
  have lg : g < wr.heap.size := cell_lt ci.1
  obtain ⟨c0, c1⟩ := ci
  obtain ⟨d0, d1⟩ := cj
  go_enter Tryz.func104, Tryz.ntmps104
  go_wp2
  go_region
  all_goals (try go_wp2)
  all_goals
    refine bodyPost_ret (P2.results2 (s := i) (t := j) (g := wr.heap.size) (h := wr.heap.size + 1) ?_ ?_ rfl rfl rfl) rfl ⟨rfl, ((gr2 _ _ _).drew).below⟩
    · exact (P4.new wr i j 55 55).elim fun h1 h => ⟨h1, h.1⟩
    · exact (P4.new wr i j 55 55).2.2
set_option maxRecDepth 100000 in
set_option maxHeartbeats 1000000 in
theorem stPopP_any (B : Nat) (wr : World) (j : Pt) (t : List Pt) (h : StP B wr (j :: t)) (ht : t.length ≤ 100000) : Calls Tryz.prog 105 #[.pointer (some ⟨B, 0, none⟩)] wr fun e w' => e = .returned (.tuple #[]) ∧ StP B w' t ∧ Below B wr w' ∧ ∀ (a : Addr) (u : Value), wr.cell? a = some u → a.block ≠ B → w'.cell? a = some u := by
  obtain ⟨v, hv, hf, hr⟩ := h
  rw [List.reverse_cons] at hr
  obtain ⟨g, cap, rfl, hg, hn, hm⟩ := PtS.some hr (by simp)
  have hpop := PtS.cut rfl hr (show t.reverse.length ≤ (t.reverse ++ [j]).length by simp)
  rw [List.take_left' rfl] at hpop
  obtain ⟨u, hu⟩ : ∃ u, u = t.length := ⟨_, rfl⟩
  rw [List.length_append, List.length_reverse, List.length_singleton, ← hu] at hv hn
  rw [List.length_reverse, ← hu] at hpop
  have HP := Lib.hid (And.intro hpop (And.intro hv hf))
  have HG := Lib.hid hg
  have hu3 : u ≤ 100000 := by omega
  have q8 : IntKind.i64.wrap ((u : Int) + 1 - 1) = (u : Int) := by rw [IntWalk.i64_in _ (by omega)]; omega
  have q9 : IntKind.i64.wrap (((u + 1 : Nat) : Int) - 1) = (u : Int) := by rw [IntWalk.i64_in _ (by omega)]; omega
  have hle : u ≤ cap := by omega
  clear hu hr hpop ht hg
  go_enter Tryz.func105, Tryz.ntmps105
  go_region
  all_goals (try go_wp2)
  all_goals go_end0
  all_goals
    obtain ⟨hpop, hv0, hf0⟩ := HP.out
    refine ⟨rfl, ⟨_, World.cell?_setCell_same _ _ _ hv0, (World.frozen?_setCell _ _ _ _).trans hf0, ?_⟩, ((Below.refl B wr).setCell (Nat.le_refl B) _).drew, fun a u ha hne => (World.cell?_setCell_other _ _ _ _ (fun h => hne (by rw [← h]))).trans ha⟩
    exact ownsRow_setCell_below hpop (a := ⟨B, 0, none⟩) (by show B < B + 1; omega) _
theorem grown_cellP {B : Nat} {wr w1 : World} {v : Value} {row : Option Nat} (hB : B < wr.heap.size) (hv : wr.cell? ⟨B, 0, none⟩ = some v) (hfz : wr.frozen? ⟨B, 0, none⟩ = false) (hgrow : wr.grownBy w1 row) (hne : some B ≠ row) : w1.cell? ⟨B, 0, none⟩ = some v ∧ w1.frozen? ⟨B, 0, none⟩ = false := by
  refine ⟨hgrow.cell (a := ⟨B, 0, none⟩) hv hne, ?_⟩
  rw [World.frozen?_of_block (w := wr) (hgrow.block B hB hne)]
  exact hfz
set_option maxRecDepth 100000 in
set_option maxHeartbeats 1000000 in
theorem stPushP_any (B : Nat) (wr : World) (x : Pt) (s : List Pt) (h : StP B wr s) (hs : s.length ≤ 100000) : Calls Tryz.prog 106 #[.pointer (some ⟨B, 0, none⟩), ptV x] wr fun e w' => e = .returned (.tuple #[]) ∧ StP B w' (x :: s) ∧ Below B wr w' := by
  have hB := h.lt
  obtain ⟨v, hv, hfz, hr⟩ := h
  obtain ⟨i0, hi, hz0, hz1, hz2⟩ := info_parts infoPoint
  obtain ⟨u, hu⟩ : ∃ u, u = s.reverse.length := ⟨_, rfl⟩
  have hu3 : u ≤ 100000 := by rw [hu, List.length_reverse]; exact hs
  have hown : wr.ownsRow (B + 1) 55 2 v u (ints (flatP s.reverse)) := by rw [hu]; exact hr
  have HU := Lib.hid hu
  clear hu hs
  have hne : some B ≠ v.ownBlock := fun h => by have := hown.lt B h.symm; omega
  have hv1 : (wr.alloc (.cells #[.int .i64 x.1, .int .i64 x.2] 55)).cell? ⟨B, 0, none⟩ = some v := (World.cell?_alloc_past _ _ _ hB).trans hv
  have hf1 : (wr.alloc (.cells #[.int .i64 x.1, .int .i64 x.2] 55)).frozen? ⟨B, 0, none⟩ = false := (World.frozen?_alloc_past _ _ _ hB).trans hfz
  have hc := P2.new wr x 55
  have hs1 : (wr.alloc (.cells #[.int .i64 x.1, .int .i64 x.2] 55)).heap.size = wr.heap.size + 1 := World.size_alloc _ _
  have hown1 := World.ownsRow.alloc hown (.cells #[.int .i64 x.1, .int .i64 x.2] 55)
  have hb1 : Below B wr (wr.alloc (.cells #[.int .i64 x.1, .int .i64 x.2] 55)) := (Below.refl B wr).alloc (by omega) _
  have hlb := fun k hk => (World.ownsRow.lt hown k hk).1
  have HB := Lib.hid hb1
  have HL := Lib.hid hlb
  go_enter Tryz.func106, Tryz.ntmps106
  go_wp2
  generalize hW : wr.alloc (.cells #[.int .i64 x.1, .int .i64 x.2] 55) = W at hv1 hf1 hc hs1 hown1 HB ⊢
  obtain ⟨c0, c1⟩ := hc
  clear hv hfz hown hb1 hlb hr
  have hBW : B < W.heap.size := by omega
  have hx : wr.heap.size < W.heap.size := by omega
  go_region_law (refine step_append_own (by rfl) (.tmp 8) (.tmp 10) 72 (by rfl) (B + 1) 55 i0 (.agg #[.int .i64 0, .int .i64 0]) 2 16 Tryz.underlying72 hi hz0 hz1 hz2 rfl (by decide) v u (ints (flatP s.reverse)) (by rfl) (World.ownsRow.alloc hown1 _) ⟨wr.heap.size + 1, 0, none⟩ 1 1 [.int .i64 x.1, .int .i64 x.2] (by rfl) rfl (new_cells_at W 55 #[.int .i64 x.1, .int .i64 x.2] (wr.heap.size + 1) hs1.symm) (by simp [Value.oneCell']) (by unfold maxLen; omega) (by omega) (by simp; omega) ?_; intro v' w1 hown' hgrow hnil; obtain ⟨hv2, hf2⟩ := grown_cellP (wr := (W.alloc (.cells #[.int .i64 x.1, .int .i64 x.2] 55)).drew) (by simp; omega) ((World.cell?_alloc_past _ _ _ hBW).trans hv1) ((World.frozen?_alloc_past _ _ _ hBW).trans hf1) hgrow hne; have hrow : FS 55 2 w1 (B + 1) v' (u + 1) (flatP s.reverse ++ encP x) := FS.snoc hown'; obtain ⟨A', cap', rfl, -, -⟩ := hrow.parts)
  all_goals go_end0
  all_goals
    refine ⟨rfl, ⟨_, World.cell?_setCell_same _ _ _ hv2, (World.frozen?_setCell _ _ _ _).trans hf2, ?_⟩, ?_⟩
    · have q := ownsRow_setCell_below hrow (a := ⟨B, 0, none⟩) (by show B < B + 1; omega) (.slice A' (u + 1) cap')
      have e : (s.reverse ++ [x]).length = u + 1 := by rw [List.length_append, ← HU.out]; rfl
      rw [List.reverse_cons]
      unfold PtS
      rw [e, flatP_snoc]
      exact q
    · exact ((((HB.out).alloc (by omega) _).drew.grown hgrow (by simp; omega) (fun k hk => by have := HL.out k hk; omega))).setCell (Nat.le_refl B) _
/-- The function value tells of three points whether the middle one is a corner, whatever was made since. -/
def CorP (g : Nat) (pre : Array Value) (T : Pt → Pt → Pt → Int) : Prop := ∀ (W : World) (a b c : Pt), Sm 1000 a → Sm 1000 b → Sm 1000 c →
  Calls Tryz.prog g (pre ++ #[ptV a, ptV b, ptV c]) W fun e w' => e = .returned (.bool (decide (0 < T a b c))) ∧ Gr W w'
abbrev EntP (g : Nat) : Prop := ∀ (args : Array Value) (w : World), (callFunc g args).run Tryz.prog w = .ok (.enter g args) w
theorem belTP {B : Nat} {w w1 w2 : World} (h : Below B w w1) (h' : Below B w1 w2) : Below B w w2 := h.trans h'
theorem stP_new (w : World) (t : TypeId) : StP w.heap.size (w.alloc (.cells #[.slice none 0 0] t)) [] :=
  ⟨_, cell_of_row (w.alloc (.cells #[.slice none 0 0] t)) w.heap.size 0 #[.slice none 0 0] t (0, 0) (heap_alloc_new w _), by simp, FS.nil_ _ _ _ _⟩
theorem popH_mem {T : Pt → Pt → Pt → Int} {p q : Pt} : ∀ {S : List Pt}, q ∈ popH T p S → q ∈ S
  | [], h => by simp [popH] at h
  | [c], h => by simpa [popH] using h
  | j :: i :: t, h => by
    unfold popH at h
    split at h
    · exact h
    · exact List.mem_cons_of_mem _ (popH_mem h)
theorem stkH_mem {T : Pt → Pt → Pt → Int} : ∀ (l S : List Pt) {q : Pt}, q ∈ l.foldl (fun s p => p :: popH T p s) S → q ∈ l ∨ q ∈ S
  | [], S, q, h => .inr h
  | p :: t, S, q, h => by
    rcases stkH_mem t _ h with h | h
    · exact .inl (List.mem_cons_of_mem _ h)
    · rcases List.mem_cons.1 h with rfl | h
      · exact .inl (by simp)
      · exact .inr (popH_mem h)
theorem popH_short {T : Pt → Pt → Pt → Int} {p : Pt} {s : List Pt} (h : s.length < 2) : popH T p s = s := by
  match s, h with
  | [], _ => rfl
  | [_], _ => rfl
theorem popH_stop {T : Pt → Pt → Pt → Int} {p j i : Pt} {t : List Pt} (h : decide (0 < T i j p) = true) : popH T p (j :: i :: t) = j :: i :: t := by
  unfold popH; rw [if_pos (of_decide_eq_true h)]
theorem popH_more {T : Pt → Pt → Pt → Int} {p j i : Pt} {t : List Pt} (h : decide (0 < T i j p) = false) : popH T p (j :: i :: t) = popH T p (i :: t) := by
  conv => lhs; unfold popH
  rw [if_neg (of_decide_eq_false h)]
set_option maxHeartbeats 2000000 in
set_option maxRecDepth 100000 in
theorem keepCornersP_any (w : World) (g : Nat) (pre : Array Value) (T : Pt → Pt → Pt → Int) (eg : EntP g) (B : Nat) (v : Value) (l : List Pt) (hsm : ∀ q ∈ l, Sm 1000 q) (hlen : l.length ≤ 100000) (h : PtS w B v l) (hc : CorP g pre T) :
    Calls Tryz.prog 98 #[v, .func (.func g) pre #[]] w fun e w' => GivesPt (stkH T l).reverse w e w' := by
  have HC := Lib.hid hc
  have HSM := Lib.hid hsm
  have H0 := Lib.hid h
  obtain ⟨A2, cap2, rfl, -, hp2⟩ := PtS.parts h
  have HP2 := Lib.hid hp2
  have hs0 := stP_new w 129
  have hb0 : Below w.heap.size w (w.alloc (.cells #[.slice none 0 0] 129)) := (Below.refl _ _).alloc (Nat.le_refl _) _
  obtain ⟨N, hN⟩ : ∃ N, N = l.length := ⟨_, rfl⟩
  have HN := Lib.hid hN
  rw [← hN] at hlen ⊢
  clear hp2 hsm hc h hN
  go_enter Tryz.func98, Tryz.ntmps98
  go_wp2
  go_loopw [12] (fun i wr => ∃ n : Nat, n ≤ N ∧ i = .int .i64 n ∧ StP w.heap.size wr (stkH T (l.take n)) ∧ Below w.heap.size w wr) (fun i _ => N - (intOf i).toNat)
  case atStart => exact ⟨0, by omega, rfl, hs0, hb0⟩
  case round =>
    obtain ⟨n, hn, rfl, ho, hb⟩ := hrel
    clear hs0 hb0
    by_cases hlt : n < N
    · have hnl : n < l.length := by rw [← HN.out]; exact hlt
      obtain ⟨gp, rfl, hc0⟩ := HP2.out n hnl
      have hc1 := X2.below hc0 hb
      clear hc0
      obtain ⟨k, hk⟩ : ∃ k, k = pd l n := ⟨_, rfl⟩
      have hks : Sm 1000 k := by rw [hk]; exact HSM.out _ (pd_mem hnl)
      rw [← hk] at hc1
      obtain ⟨s0, hs0⟩ : ∃ s0, s0 = stkH T (l.take n) := ⟨_, rfl⟩
      have hsl : s0.length ≤ n := by rw [hs0]; exact Nat.le_trans (stkH_le _ _) (by simp; omega)
      have hsm0 : ∀ q ∈ s0, Sm 1000 q := fun q hq => by
        rw [hs0] at hq
        rcases stkH_mem _ _ hq with h | h
        · exact HSM.out q (List.mem_of_mem_take h)
        · simp at h
      rw [← hs0] at ho
      have HNX := Lib.hid (show stkH T (l.take (n + 1)) = k :: popH T k s0 by rw [take_pd l n hnl, stkH_snoc, ← hs0, ← hk])
      have hoA := ho.below ((Below.refl _ _).alloc (Nat.le_refl _) (.cells #[.int .i64 k.1, .int .i64 k.2] 55))
      have hbA := hb.alloc hb.size (.cells #[.int .i64 k.1, .int .i64 k.2] 55)
      have hPA := P2.new wr k 55
      have hBr : w.heap.size < wr.heap.size := ho.lt
      obtain ⟨c0, c1⟩ := hc1
      clear hs0 hk ho
      go_wp2
      generalize hW : wr.alloc (.cells #[.int .i64 k.1, .int .i64 k.2] 55) = W at hoA hbA hPA ⊢
      obtain ⟨gk, hgk⟩ : ∃ gk, gk = wr.heap.size := ⟨_, rfl⟩
      rw [← hgk] at hPA ⊢
      have hkB : w.heap.size < gk := by omega
      clear hb hW hgk c0 c1
      go_loopw [8, 9] (fun x y wq => ∃ s, StP w.heap.size wq s ∧ P2 wq gk k ∧ s.length ≤ n ∧ Hid (∀ q ∈ s, Sm 1000 q) ∧ Hid (popH T k s = popH T k s0) ∧ Below w.heap.size w wq) (fun _ _ wq => stNP w.heap.size wq)
      case atStart => exact ⟨s0, hoA, hPA, hsl, Lib.hid hsm0, Lib.hid rfl, hbA⟩
      case round =>
        obtain ⟨s, ho2, hP2, hsl2, hsm2, hpop, hb2⟩ := hrel
        clear hoA hPA hbA hsl hsm0
        have done : s.length < 2 ∨ (∃ j i t, s = j :: i :: t) := by
          match s with
          | [] => exact .inl (by simp)
          | [_] => exact .inl (by simp)
          | j :: i :: t => exact .inr ⟨j, i, t, rfl⟩
        rcases done with hsh | ⟨j, i, t, rfl⟩
        · have HPS := Lib.hid (popH_short (T := T) (p := k) hsh)
          have HR := Lib.hid (show stkH T (l.take (n + 1)) = k :: s by rw [HNX.out, ← hpop.out, HPS.out])
          go_wp2_with fail
          refine (stSizeP_any _ _ _ ho2).mono ?_
          rintro e w' ⟨rfl, rfl⟩
          obtain ⟨p0, p1⟩ := hP2
          go_wp2_with fail
          refine (stPushP_any _ _ k s ho2 (by omega)).mono ?_
          rintro e w2 ⟨rfl, ho3, b3⟩
          go_wp2
          go_roundw
          case rel => exact ⟨n + 1, by omega, by go_num, by rw [HR.out]; exact ho3, belTP hb2 b3⟩
          case measure => simp [intOf]; omega
        · have hsi := hsm2.out i (by simp)
          have hsj := hsm2.out j (by simp)
          have htl : t.length ≤ 100000 := by simp at hsl2; omega
          have hsn := ho2.stN
          simp only [List.length_cons] at hsn
          have HSN := Lib.hid hsn
          clear hsn
          obtain ⟨d, hd⟩ : ∃ d, d = decide (0 < T i j k) := ⟨_, rfl⟩
          cases d
          · have HPS := Lib.hid (popH_more (t := t) hd.symm)
            have CS := Lib.hid (fun W => show Calls Tryz.prog g (pre ++ #[ptV i, ptV j, ptV k]) W fun e w' => e = .returned (.bool false) ∧ Gr W w' by rw [hd]; exact HC.out W i j k hsi hsj hks)
            clear hd
            go_wp2_with fail
            refine (stSizeP_any _ _ _ ho2).mono ?_
            rintro e w' ⟨rfl, rfl⟩
            go_wp2_with fail
            refine (stLastTwoP_any _ _ _ _ t ho2 htl).mono ?_
            rintro e w1 ⟨rfl, b1⟩
            obtain ⟨p0, p1⟩ := P2.below hP2 b1
            have lk : gk < w1.heap.size := cell_lt p0
            have ho3 := ho2.below b1
            have hbB := bel2 hb2 b1
            have hg2 := gr2 w1 (.cells #[.int .i64 i.1, .int .i64 i.2] 55) (.cells #[.int .i64 j.1, .int .i64 j.2] 55)
            go_wp2_with fail
            go_at_fn g
            refine (CS.out _).mono ?_
            rintro e w2 ⟨rfl, g2⟩
            have b3 := (hg2.trans g2).below
            have ho4 := ho3.below b3
            have hP4 := P2.below (P2.below hP2 b1) b3
            go_wp2_with fail
            refine (stPopP_any _ _ _ _ ho4 (by simp only [List.length_cons] at hsl2 ⊢; omega)).mono ?_
            rintro e w3 ⟨rfl, ho5, b5, k5⟩
            have hsn := ho5.stN
            have hgk : gk < w2.heap.size := cell_lt hP4.1
            go_wp2
            go_roundw
            case rel => exact ⟨i :: t, ho5, ⟨k5 _ _ hP4.1 (by show gk ≠ _; omega), k5 _ _ hP4.2 (by show gk ≠ _; omega)⟩, by simp only [List.length_cons] at hsl2 ⊢; omega, Lib.hid (fun q hq => hsm2.out q (List.mem_cons_of_mem _ hq)), Lib.hid (HPS.out.symm.trans hpop.out), belTP (bel2 hbB b3) b5⟩
            case measure => rw [hsn, HSN.out]; simp only [List.length_cons]; omega
          · have HPS := Lib.hid (popH_stop (t := t) hd.symm)
            have HR := Lib.hid (show stkH T (l.take (n + 1)) = k :: j :: i :: t by rw [HNX.out, ← hpop.out, HPS.out])
            have CS := Lib.hid (fun W => show Calls Tryz.prog g (pre ++ #[ptV i, ptV j, ptV k]) W fun e w' => e = .returned (.bool true) ∧ Gr W w' by rw [hd]; exact HC.out W i j k hsi hsj hks)
            clear hd
            go_wp2_with fail
            refine (stSizeP_any _ _ _ ho2).mono ?_
            rintro e w' ⟨rfl, rfl⟩
            go_wp2_with fail
            refine (stLastTwoP_any _ _ _ _ t ho2 htl).mono ?_
            rintro e w1 ⟨rfl, b1⟩
            obtain ⟨p0, p1⟩ := P2.below hP2 b1
            have lk : gk < w1.heap.size := cell_lt p0
            have ho3 := ho2.below b1
            have hbB := bel2 hb2 b1
            have hg2 := gr2 w1 (.cells #[.int .i64 i.1, .int .i64 i.2] 55) (.cells #[.int .i64 j.1, .int .i64 j.2] 55)
            go_wp2_with fail
            go_at_fn g
            refine (CS.out _).mono ?_
            rintro e w2 ⟨rfl, g2⟩
            have b3 := (hg2.trans g2).below
            have ho4 := ho3.below b3
            obtain ⟨r0, r1⟩ := P2.below (P2.below hP2 b1) b3
            go_wp2_with fail
            refine (stPushP_any _ _ k _ ho4 (by simp only [List.length_cons] at hsl2 ⊢; omega)).mono ?_
            rintro e w3 ⟨rfl, ho5, b5⟩
            go_wp2
            go_roundw
            case rel => exact ⟨n + 1, by omega, by go_num, by rw [HR.out]; exact ho5, belTP (bel2 hbB b3) b5⟩
            case measure => simp [intOf]; omega
    · obtain rfl : n = N := by omega
      rw [show l.take n = l by rw [HN.out, List.take_length]] at ho
      obtain ⟨v, hv, hf, hr⟩ := ho
      go_wp2
      go_ret
      exact ⟨_, rfl, FS.base hr (by omega), hb⟩
end Go.Proofs.YtoecjdpeldcajaaGreat

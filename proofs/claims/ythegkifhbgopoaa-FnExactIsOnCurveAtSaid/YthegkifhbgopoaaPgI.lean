/-
  Points put in order, each one once, in the model: what the call returns.
  Condition: the slice reads as the list that is named.
-/
import Derived.Test.YthegkifhbgopoaaPgS
import Derived.Lib.AppendZeros
import Derived.Deep.AppendLies
namespace Go.Proofs.Ythegkifhbgopoaa
set_option linter.unusedSimpArgs false
set_option linter.unusedVariables false
open Go.ChangeShapes Go.WideShapes Go.ChangeAt Go.RowKit
open Go.Sort (grow)

theorem insP_at (p : Pt) : ∀ (k : Nat) (l : List Pt), (∀ j, j < k → j < l.length ∧ bfB (pd l j) p = true) → (k < l.length → bfB (pd l k) p = false) →
    insP p l = if k < l.length ∧ pd l k = p then l else l.take k ++ p :: l.drop k
  | 0, [], _, _ => by simp [insP]
  | 0, a :: r, _, h2 => by
    have h := h2 (by simp)
    simp only [pd, List.getD_cons_zero] at h ⊢
    unfold insP
    rw [h]
    by_cases h3 : a = p <;> simp [h3]
  | k + 1, [], h1, _ => by have := (h1 0 (by omega)).1; simp at this
  | k + 1, a :: r, h1, h2 => by
    have h0 := (h1 0 (by omega)).2
    simp only [pd, List.getD_cons_zero] at h0
    unfold insP
    rw [if_pos h0, insP_at p k r (fun j hj => by have := h1 (j + 1) (by omega); simpa [pd] using this) (fun hk => by have := h2 (by simpa using hk); simpa [pd] using this)]
    by_cases h3 : k < r.length ∧ pd r k = p
    · have h4 : k + 1 < (a :: r).length ∧ pd (a :: r) (k + 1) = p := by simpa [pd] using h3
      rw [if_pos h3, if_pos h4]
    · have h4 : ¬ (k + 1 < (a :: r).length ∧ pd (a :: r) (k + 1) = p) := by simpa [pd] using h3
      rw [if_neg h3, if_neg h4]; simp
theorem onesP (zs : List Int) : ∀ u ∈ ints zs, u.oneCell' = true := fun u hu => by
  simp only [ints, List.mem_map] at hu
  obtain ⟨y, -, rfl⟩ := hu
  rfl
/-- A point's block at b, and nothing that lay there when x was has changed. -/
abbrev S4P (x : World) (b : Nat) (r : Pt) (w : World) : Prop := w.cell? ⟨b, 0, none⟩ = some (.int .i64 r.1) ∧ w.cell? ⟨b, 1, none⟩ = some (.int .i64 r.2) ∧ Below x.heap.size x w
theorem S4P.of {x w : World} {b : Nat} {r : Pt} (h : P2 x b r) (hb : Below x.heap.size x w) : S4P x b r w := by
  obtain ⟨h1, h2⟩ := P2.below h hb
  exact ⟨h1, h2, hb⟩
theorem S4P.drew {x w : World} {b : Nat} {r : Pt} (h : S4P x b r w) : S4P x b r w.drew := ⟨h.1, h.2.1, h.2.2.drew⟩
theorem S4P.drewN {x w : World} {b : Nat} {r : Pt} (h : S4P x b r w) (n : Nat) : S4P x b r (w.drewN n) := ⟨h.1, h.2.1, belN h.2.2 n⟩
theorem S4P.alloc {x w : World} {b : Nat} {r : Pt} (h : S4P x b r w) (o : Obj) : S4P x b r (w.alloc o) := by
  obtain ⟨h1, h2⟩ := P2.below ⟨h.1, h.2.1⟩ ((Below.refl _ w).alloc (Nat.le_refl _) o)
  exact ⟨h1, h2, h.2.2.alloc h.2.2.size o⟩
theorem S4P.bel {x w : World} {b : Nat} {r : Pt} (h : S4P x b r w) : Below x.heap.size x w := h.2.2
theorem P2.kept {w w' : World} {g : Nat} {r : Pt} {v : Value} (h : P2 w g r) (hk : ∀ p u, w.cell? p = some u → (∀ k, v.ownBlock = some k → p.block ≠ k) → w'.cell? p = some u) (hne : ∀ k, v.ownBlock = some k → g ≠ k) : P2 w' g r :=
  ⟨hk _ _ h.1 hne, hk _ _ h.2 hne⟩
theorem P2.news {w : World} {g : Nat} {r : Pt} (h : P2 w g r) : ∀ j u, (ints (encP r))[j]? = some u → w.cell? ((⟨g, 0, none⟩ : Addr).add j) = some u := fun j u hu => by
  have e : (⟨g, 0, none⟩ : Addr).add j = ⟨g, j, none⟩ := by unfold Addr.add; split <;> simp_all
  rw [e]
  match j, hu with
  | 0, hu => rw [h.1]; exact hu
  | 1, hu => rw [h.2]; exact hu
  | j + 2, hu => simp [ints, encP] at hu
theorem preP_news {x w : World} {g : Nat} {zs : List Int} (h : ∀ j u, (ints zs)[j]? = some u → x.cell? ((⟨g, 0, none⟩ : Addr).add j) = some u) (hb : Below x.heap.size x w) (q : Nat) : ∀ j u, (ints (zs.take q))[j]? = some u → w.cell? ((⟨g, 0, none⟩ : Addr).add j) = some u := fun j u hu => by
  refine box_o (h j u ?_) hb
  unfold ints at hu ⊢
  rw [List.map_take] at hu
  rcases Nat.lt_or_ge j q with hj | hj
  · rwa [List.getElem?_take_of_lt hj] at hu
  · rw [List.getElem?_eq_none (by simp; omega)] at hu; cases hu
theorem postP_news {x w : World} {g : Nat} {zs : List Int} (h : ∀ j u, (ints zs)[j]? = some u → x.cell? ((⟨g, 0, none⟩ : Addr).add j) = some u) (hb : Below x.heap.size x w) (q : Nat) : ∀ j u, (ints (zs.drop q))[j]? = some u → w.cell? ((⟨g, q, none⟩ : Addr).add j) = some u := fun j u hu => by
  have e : (⟨g, q, none⟩ : Addr).add j = (⟨g, 0, none⟩ : Addr).add (q + j) := by
    unfold Addr.add
    by_cases hj : j = 0
    · subst hj
      by_cases hq : q = 0
      · subst hq; rfl
      · simp [hq]
    · rw [if_neg hj, if_neg (by omega)]; simp
  rw [e]
  refine box_o (h (q + j) u ?_) hb
  unfold ints at hu ⊢
  rw [List.map_drop, List.getElem?_drop] at hu
  exact hu
theorem nilP_news {w : World} {ad : Addr} {zs : List Int} (h : zs = []) : ∀ j u, (ints zs)[j]? = some u → w.cell? (ad.add j) = some u := fun j u hu => by
  subst h; simp [ints] at hu
theorem ptS_news {w : World} {B g cap n : Nat} {l : List Pt} (hn : n = l.length) (h : PtS w B (.slice (some ⟨g, 0, none⟩) n cap) l) : ∀ j u, (ints (flatP l))[j]? = some u → w.cell? ((⟨g, 0, none⟩ : Addr).add j) = some u := fun j u hu => by
  subst hn
  have hj : j < (ints (flatP l)).length := by
    rcases Nat.lt_or_ge j (ints (flatP l)).length with h' | h'
    · exact h'
    · rw [List.getElem?_eq_none h'] at hu; cases hu
  have hj' : j < l.length * 2 := by simpa [ints, flatP_len] using hj
  have e : (⟨g, 0, none⟩ : Addr).add j = ⟨g, j, none⟩ := by unfold Addr.add; split <;> simp_all
  rw [e, World.ownsRow.cellAt h j hj', hu]
theorem step_app_pt {w : World} {ops : Array Oper} {o : Oper} {a : Act} {K : Act → World → Prop} {Q : Exit → Act → World → Prop} {E : Prop} (hgd : o.guard = none) (s t : Operand)
    (ho : o.op = .call { callee := .builtin .append, args := #[s, t], argTypes := #[66, 66] })
    (x : World) (b : Nat) (r : Pt) (hT : P2 x b r) (v : Value) (n : Nat) (xs : List Int) (hs : a.eval s = v) (hown : w.ownsRow x.heap.size 108 2 v n (ints xs))
    (ad : Addr) (m c : Nat) (news : List Int) (hx : a.eval t = .slice (some ad) m c) (hl : news.length = m * 2) (hnews : ∀ j u, (ints news)[j]? = some u → w.cell? (ad.add j) = some u)
    (hb : n + m ≤ 1000000) (hS : S4P x b r w)
    (h : ∀ v' w', w'.ownsRow x.heap.size 108 2 v' (n + m) (ints (xs ++ news)) → S4P x b r w' → (∀ p u, w.cell? p = some u → (∀ k, v.ownBlock = some k → p.block ≠ k) → w'.cell? p = some u) → K (a.put o.dst v') w') :
    if Region.wanted o (yielded ops a.tmps) = true then Oper.wp Try.prog o a w K Q else E := by
  obtain ⟨i0, hi, hz0, hz1, hz2⟩ := info_parts infoPoint
  refine step_append_own hgd s t 66 ho x.heap.size 108 i0 (.agg #[.int .i64 0, .int .i64 0]) 2 16 Try.underlying66 hi hz0 hz1 hz2 rfl (by decide) v n (ints xs) hs hown ad m c (ints news) hx (by simp [ints, hl]) hnews (onesP news) (by unfold maxLen; omega) (by omega) hS.2.2.size ?_
  intro v' w' h1 h2 h3
  refine h v' w' ?_ (S4P.of hT (hS.2.2.grown h2 hS.2.2.size fun k hk => (World.ownsRow.lt hown k hk).1)) (fun p u hc hne => h2.cell hc (fun e => hne _ e.symm rfl))
  unfold ints at h1 ⊢
  rw [List.map_append]
  exact h1
theorem step_app_noneP {w : World} {ops : Array Oper} {o : Oper} {a : Act} {K : Act → World → Prop} {Q : Exit → Act → World → Prop} {E : Prop} (hgd : o.guard = none) (s t : Operand)
    (ho : o.op = .call { callee := .builtin .append, args := #[s, t], argTypes := #[66, 66] })
    (B : Nat) (v : Value) (n : Nat) (xs : List Value) (hs : a.eval s = v) (hown : w.ownsRow B 108 2 v n xs) (hx : a.eval t = .slice none 0 0)
    (h : K (a.put o.dst v) w) : if Region.wanted o (yielded ops a.tmps) = true then Oper.wp Try.prog o a w K Q else E := by
  obtain ⟨i0, hi, hz0, hz1, hz2⟩ := info_parts infoPoint
  have hw : Region.wanted o (yielded ops a.tmps) = true := by simp [Region.wanted, hgd]
  rw [if_pos hw]
  exact Lib.wp_append_run w s t 66 66 ho v (.slice none 0 0) hs hx v w (run_append_owned_none w B 66 o.type 108 i0 2 Try.underlying66 hi v n xs hown) h
theorem twP_new (w : World) (B : Nat) (h : B ≤ w.heap.size) : (w.alloc (.cells #[] 108)).ownsRow B 108 2 (.slice (some ⟨w.heap.size, 0, none⟩) 0 0) 0 (ints []) := World.ownsRow_made w #[] 0 h (Nat.zero_le _) rfl
theorem twP_new' (w : World) (o : Obj) (B : Nat) (h : B ≤ w.heap.size) : ((w.alloc o).alloc (.cells #[] 108)).ownsRow B 108 2 (.slice (some ⟨w.heap.size + 1, 0, none⟩) 0 0) 0 (ints []) := by
  have hs : (w.alloc o).heap.size = w.heap.size + 1 := by simp
  have := twP_new (w.alloc o) B (by omega)
  rwa [hs] at this
theorem litP_new2 (w : World) (o : Obj) (r : Pt) : P2 ((w.alloc o).alloc (.cells #[.int .i64 r.1, .int .i64 r.2] 108)) (w.heap.size + 1) r := by
  have h := P2.new (w.alloc o) r 108
  have hs : (w.alloc o).heap.size = w.heap.size + 1 := by simp
  rwa [hs] at h
theorem litP_new3 (w : World) (o : Obj) (r : Pt) : P2 ((w.alloc (.cells #[.int .i64 r.1, .int .i64 r.2] 108)).alloc o) w.heap.size r :=
  P2.below (P2.new w r 108) ((Below.refl _ _).alloc (Nat.le_refl _) o)
theorem putP_row_is {w : World} {B n k m : Nat} {v : Value} {l L : List Pt} {r : Pt} (hn : n = l.length) (hk : k ≤ n) (hm : m = n - k) (hL : L = l.take k ++ r :: l.drop k) (h : FS 108 2 w B v (0 + k + 1 + m) ([] ++ (flatP l).take (k * 2) ++ encP r ++ (flatP l).drop (k * 2))) : PtS w B v L := by
  subst hL
  have e : (l.take k ++ r :: l.drop k).length = 0 + k + 1 + m := by simp; omega
  unfold PtS
  rw [e]
  rw [flatP_take, flatP_drop] at h
  have e2 : flatP (l.take k ++ r :: l.drop k) = [] ++ flatP (l.take k) ++ encP r ++ flatP (l.drop k) := by
    rw [flatP_app]; simp [flatP]
  rw [e2]
  exact h
end Go.Proofs.Ythegkifhbgopoaa
/-
  Hulls in the model: what the calls return.
  Conditions: the slice reads as the list that is named; coordinates are small.
-/
namespace Go.Proofs.Ythegkifhbgopoaa
set_option linter.unusedSimpArgs false
set_option linter.unusedVariables false
open Go.ChangeShapes Go.WideShapes Go.ChangeAt Go.RowKit
open Go.Sort (grow)

theorem all_badP (l : List Pt) (k : Nat) (hk : k < l.length) (h : ptG (pd l k) = false) : ptsB l = false := by
  unfold ptsB
  have : l.all ptG = false := by
    rw [List.all_eq_false]
    exact ⟨_, pd_mem hk, by rw [h]; simp⟩
  rw [this]; simp
theorem all_nextP (l : List Pt) (k : Nat) (hk : k < l.length) (h : (l.take k).all ptG = true) (h' : ptG (pd l k) = true) : (l.take (k + 1)).all ptG = true := by
  rw [take_pd l k hk, List.all_append, h]; simpa using h'
theorem ptsB_end {l : List Pt} (h : l.all ptG = true) : ptsB l = inB l.length 1 40 := by
  unfold ptsB
  rw [h]
  unfold inB
  have e1 : decide ((1 : Int) ≤ l.length) = decide (1 ≤ l.length) := by congr 1; apply propext; omega
  have e2 : decide ((l.length : Int) ≤ 40) = decide (l.length ≤ 40) := by congr 1; apply propext; omega
  rw [e1, e2, Bool.and_true]
theorem ptS_snoc {w : World} {B : Nat} {v : Value} {l : List Pt} {m : Nat} {t : Pt} (hm : m = l.length + 1) (h : w.ownsRow B 108 2 v m (ints (flatP l) ++ ints (encP t))) : PtS w B v (l ++ [t]) := by
  have e : (l ++ [t]).length = m := by rw [List.length_append, hm]; rfl
  unfold PtS FS
  rw [e, flatP_snoc]
  unfold ints at h ⊢
  rw [List.map_append]
  exact h
/-- A point behind a row of points of our own; the point lies at ad. -/
theorem wpList_append_pt {ops : Array Oper} {rest : List Oper} {o : Oper} {a : Act} {Q : Exit → Act → World → Prop} (w : World) (hgd : o.guard = none) (s x : Operand)
    (ho : o.op = .call { callee := .builtin .append, args := #[s, x], argTypes := #[66, 66] })
    (B : Nat) (v : Value) (l : List Pt) (hs : a.eval s = v) (hown : PtS w B v l) (n : Nat) (p : Pt) (hx : a.eval x = .slice (some ⟨n, 0, none⟩) 1 1)
    (hp : P2 w n p) (hn : l.length ≤ 1000000) (hB : B ≤ w.heap.size)
    (h : ∀ v' w', PtS w' B v' (l ++ [p]) → w.grownBy w' v.ownBlock → wpList Try.prog ops Q rest (a.put o.dst v') w') :
    wpList Try.prog ops Q (o :: rest) a w := by
  obtain ⟨i0, hi, hz0, hz1, hz2⟩ := info_parts infoPoint
  refine wpList_append_own w hgd s x 66 ho B 108 i0 (.agg #[.int .i64 0, .int .i64 0]) 2 16 Try.underlying66 hi hz0 hz1 hz2 rfl (by decide) v l.length _ hs hown ⟨n, 0, none⟩ 1 1 (ints (encP p)) hx rfl (P2.news hp) (by intro u hu; simp [ints, encP] at hu; rcases hu with rfl | rfl <;> rfl) (by unfold maxLen; omega) (by omega) hB ?_
  intro v' w' h1 h2 h3
  exact h v' w' (ptS_snoc rfl h1) h2
end Go.Proofs.Ythegkifhbgopoaa
/-
  Hulls and polygons in the model and in the program: what the calls return.
  Conditions: the slice reads as the list that is named; coordinates of hulls are small.
-/
namespace Go.Proofs.Ythegkifhbgopoaa
set_option linter.unusedSimpArgs false
set_option linter.unusedVariables false
open Go.ChangeShapes Go.WideShapes Go.ChangeAt Go.RowKit
open Go.Sort (grow)

theorem srt_sm {k : Nat} {l : List Pt} (h : ∀ q ∈ l, Sm k q) : ∀ q ∈ srtP l, Sm k q := fun q hq => h q ((srtP_mem l q).1 hq)
theorem pts_sm {l : List Pt} (h : ptsB l = true) : ∀ q ∈ l, Sm 100 q := fun q hq => Sm.of (((ptsB_iff l).1 h).2.2 q hq)
theorem take_rev (s : List Pt) (k : Nat) (hk : k < s.length) : s.reverse.take (k + 1) = s.reverse.take k ++ [pd s (s.length - 1 - k)] := by
  rw [take_pd s.reverse k (by rw [List.length_reverse]; exact hk)]
  congr 2
  unfold pd
  rw [List.getD_eq_getElem?_getD, List.getD_eq_getElem?_getD, List.getElem?_reverse hk]
def huR (l : List Pt) : List Pt := if ptsB l = true then hulL l else []
theorem huR_yes {l : List Pt} (h : ptsB l = true) : huR l = hulL l := if_pos h
theorem huR_no {l : List Pt} (h : ptsB l = false) : huR l = [] := if_neg (by simp [h])
theorem belA {x w : World} (h : Below x.heap.size x w) (o : Obj) : Below x.heap.size x (w.alloc o) := h.alloc h.size o
/-- An append of a part of a row of our own onto another one, at a step of a drawn region. -/
theorem step_app_b {w : World} {ops : Array Oper} {o : Oper} {a : Act} {K : Act → World → Prop} {Q : Exit → Act → World → Prop} {E : Prop} (hgd : o.guard = none) (s t : Operand)
    (ho : o.op = .call { callee := .builtin .append, args := #[s, t], argTypes := #[66, 66] })
    (x : World) (v : Value) (n : Nat) (xs : List Int) (hs : a.eval s = v) (hown : w.ownsRow x.heap.size 108 2 v n (ints xs))
    (ad : Addr) (m c : Nat) (news : List Int) (hx : a.eval t = .slice (some ad) m c) (hl : news.length = m * 2) (hnews : ∀ j u, (ints news)[j]? = some u → w.cell? (ad.add j) = some u)
    (hb : n + m ≤ 1000000) (hS : Below x.heap.size x w)
    (h : ∀ v' w', w'.ownsRow x.heap.size 108 2 v' (n + m) (ints (xs ++ news)) → Below x.heap.size x w' → K (a.put o.dst v') w') :
    if Region.wanted o (yielded ops a.tmps) = true then Oper.wp Try.prog o a w K Q else E := by
  obtain ⟨i0, hi, hz0, hz1, hz2⟩ := info_parts infoPoint
  refine step_append_own hgd s t 66 ho x.heap.size 108 i0 (.agg #[.int .i64 0, .int .i64 0]) 2 16 Try.underlying66 hi hz0 hz1 hz2 rfl (by decide) v n (ints xs) hs hown ad m c (ints news) hx (by simp [ints, hl]) hnews (onesP news) (by unfold maxLen; omega) (by omega) hS.size ?_
  intro v' w' h1 h2 h3
  refine h v' w' ?_ (hS.grown h2 hS.size fun k hk => (World.ownsRow.lt hown k hk).1)
  unfold ints at h1 ⊢
  rw [List.map_append]
  exact h1
/-- A point behind a row of points of our own, which then lies where it lay or in a new block. -/
theorem wpList_append_ptl {ops : Array Oper} {rest : List Oper} {o : Oper} {a : Act} {Q : Exit → Act → World → Prop} (w : World) (hgd : o.guard = none) (s x : Operand)
    (ho : o.op = .call { callee := .builtin .append, args := #[s, x], argTypes := #[66, 66] })
    (B : Nat) (v : Value) (l : List Pt) (hs : a.eval s = v) (hown : PtS w B v l) (n : Nat) (p : Pt) (hx : a.eval x = .slice (some ⟨n, 0, none⟩) 1 1)
    (hp : P2 w n p) (hn : l.length ≤ 1000000) (hB : B ≤ w.heap.size) (H : Nat) (hH : w.heap.size = H)
    (h : ∀ v' w', PtS w' B v' (l ++ [p]) → w.grownBy w' v.ownBlock → (∀ g, v'.ownBlock = some g → v.ownBlock = some g ∨ g = H) → wpList Try.prog ops Q rest (a.put o.dst v') w') :
    wpList Try.prog ops Q (o :: rest) a w := by
  obtain ⟨i0, hi, hz0, hz1, hz2⟩ := info_parts infoPoint
  refine wpList_append_lies w hgd s x 66 ho B 108 i0 (.agg #[.int .i64 0, .int .i64 0]) 2 16 Try.underlying66 hi hz0 hz1 hz2 rfl (by decide) v l.length _ hs hown ⟨n, 0, none⟩ 1 1 (ints (encP p)) hx rfl (P2.news hp) (by intro u hu; simp [ints, encP] at hu; rcases hu with rfl | rfl <;> rfl) (by omega) (by unfold maxLen; omega) (by omega) hB H hH ?_
  intro g cap w' h1 h2 h3 h4
  refine h _ w' (ptS_snoc rfl h1) h2 fun g' hg' => ?_
  simp only [Value.ownBlock, Option.some.injEq] at hg'
  subst hg'
  exact h3
end Go.Proofs.Ythegkifhbgopoaa
/-
  Hulls, polygons and edges in the program: what the calls return.
  Conditions: the slice reads as the list that is named; coordinates of edges are small.
-/
namespace Go.Proofs.Ythegkifhbgopoaa
set_option linter.unusedSimpArgs false
set_option linter.unusedVariables false
open Go.ChangeShapes Go.WideShapes Go.ChangeAt Go.RowKit
open Go.Sort (grow)

theorem ptsB_few {l : List Pt} (h : ¬ 1 ≤ l.length) : ptsB l = false := by unfold ptsB; rw [decide_eq_false h]; rfl
theorem ptsB_many {l : List Pt} (h : ¬ l.length ≤ 40) : ptsB l = false := by unfold ptsB; rw [decide_eq_false h]; simp
/-- The edge at a corner; all edges. -/
def nxP (l : List Pt) (k : Nat) : Pt := pd l ((k + 1) % l.length)
def edP (l : List Pt) (k : Nat) : Pt := dfP (pd l k) (nxP l k)
def edT (l : List Pt) (k : Nat) : List Pt := (List.range k).map (edP l)
def edL (l : List Pt) : List Pt := if l.length = 1 then [] else edT l l.length
theorem edT_len (l : List Pt) (k : Nat) : (edT l k).length = k := by simp [edT]
theorem edT_next (l : List Pt) (k : Nat) : edT l (k + 1) = edT l k ++ [edP l k] := by simp [edT, List.range_succ]
theorem edT_pd (l : List Pt) {k n : Nat} (h : k < n) : pd (edT l n) k = edP l k := by
  rw [pd_eq _ _ (by rw [edT_len]; exact h)]; simp [edT]
theorem nx_lt {l : List Pt} (h : 0 < l.length) (k : Nat) : (k + 1) % l.length < l.length := Nat.mod_lt _ h
theorem nx_sm {m : Nat} {l : List Pt} (h : ∀ q ∈ l, Sm m q) (h0 : 0 < l.length) (k : Nat) : Sm m (nxP l k) := h _ (pd_mem (nx_lt h0 k))
theorem edL_sm {m : Nat} {l : List Pt} (h : ∀ q ∈ l, Sm m q) : ∀ q ∈ edL l, Sm (2 * m) q := fun q hq => by
  unfold edL at hq
  split at hq
  · simp at hq
  · unfold edT at hq
    obtain ⟨k, hk, rfl⟩ := List.mem_map.1 hq
    have hk := List.mem_range.1 hk
    exact (h _ (pd_mem hk)).df (nx_sm h (by omega) k)
theorem rem_nat (k n : Nat) : ((k : Int) + 1).tmod (n : Int) = (((k + 1) % n : Nat) : Int) := by
  rw [show ((k : Int) + 1) = ((k + 1 : Nat) : Int) by omega]; rfl
theorem partP_pt (zs : List Int) (j : Nat) (hj : j * 2 + 1 < zs.length) : ((part zs (j * 2)).set (j * 2) (gd zs (j * 2))).set (j * 2 + 1) (gd zs (j * 2 + 1)) = part zs ((j + 1) * 2) := by
  rw [part_set zs (j * 2) (by omega), part_set zs (j * 2 + 1) hj]
  congr 1
  omega
/-- A corner's block, the next corner in its row, and nothing that lay there when x was has changed. -/
abbrev SE (x : World) (gc gr o : Nat) (p q : Pt) (w : World) : Prop := w.cell? ⟨gc, 0, none⟩ = some (.int .i64 p.1) ∧ w.cell? ⟨gc, 1, none⟩ = some (.int .i64 p.2) ∧ w.cell? ⟨gr, o, none⟩ = some (.int .i64 q.1) ∧ w.cell? ⟨gr, o + 1, none⟩ = some (.int .i64 q.2) ∧ Below x.heap.size x w
theorem SE.of {x w : World} {gc gr o : Nat} {p q : Pt} (h : P2 w gc p) (h' : X2 w gr o q) (hb : Below x.heap.size x w) : SE x gc gr o p q w := ⟨h.1, h.2, h'.1, h'.2, hb⟩
theorem SE.drew {x w : World} {gc gr o : Nat} {p q : Pt} (h : SE x gc gr o p q w) : SE x gc gr o p q w.drew := ⟨h.1, h.2.1, h.2.2.1, h.2.2.2.1, h.2.2.2.2.drew⟩
theorem SE.gr {x w w' : World} {gc gr o : Nat} {p q : Pt} (h : SE x gc gr o p q w) (g : Gr w w') : SE x gc gr o p q w' := by
  have h1 := P2.below ⟨h.1, h.2.1⟩ g.below
  have h2 := X2.below ⟨h.2.2.1, h.2.2.2.1⟩ g.below
  exact ⟨h1.1, h1.2, h2.1, h2.2, bel2 h.2.2.2.2 g.below⟩
theorem SE.set {x w : World} {gc gr o : Nat} {p q : Pt} (h : SE x gc gr o p q w) (ge j : Nat) (v : Value) (h1 : gc ≠ ge) (h2 : gr ≠ ge) (h3 : x.heap.size ≤ ge) : SE x gc gr o p q (w.setCell ⟨ge, j, none⟩ v) :=
  ⟨(World.cell?_setCell_other _ _ _ _ (by simp <;> omega)).trans h.1, (World.cell?_setCell_other _ _ _ _ (by simp <;> omega)).trans h.2.1, (World.cell?_setCell_other _ _ _ _ (by simp <;> omega)).trans h.2.2.1, (World.cell?_setCell_other _ _ _ _ (by simp <;> omega)).trans h.2.2.2.1, h.2.2.2.2.setCell h3 _⟩
theorem row_cells {T : TypeId} {x w : World} {B g n : Nat} {zs : List Int} (h : x.ownsRow B T 2 (.slice (some ⟨g, 0, none⟩) n n) n (ints zs)) (hb : Below x.heap.size x w) (o : Nat) (ho : o + 1 < n * 2) (hl : n * 2 = zs.length) :
    w.cell? ⟨g, o, none⟩ = some (.int .i64 (gd zs o)) ∧ w.cell? ⟨g, o + 1, none⟩ = some (.int .i64 (gd zs (o + 1))) ∧ w.frozen? ⟨g, o, none⟩ = false ∧ w.frozen? ⟨g, o + 1, none⟩ = false := by
  have hr : w.ownsRow B T 2 (.slice (some ⟨g, 0, none⟩) n n) n (ints zs) := FS.below (zs := zs) h hb
  refine ⟨?_, ?_, World.ownsRow.frozenAt hr _, World.ownsRow.frozenAt hr _⟩
  · rw [World.ownsRow.cellAt hr o (by omega), getD_ints zs o (by omega)]
  · rw [World.ownsRow.cellAt hr (o + 1) (by omega), getD_ints zs (o + 1) (by omega)]
end Go.Proofs.Ythegkifhbgopoaa

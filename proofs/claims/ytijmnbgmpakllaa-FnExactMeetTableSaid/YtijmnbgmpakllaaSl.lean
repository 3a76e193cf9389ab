/-
  Slices of slices of integers, as rows of slice values: what may be said of them, whatever the call.
  No condition.
-/
import Derived.Test.YtijmnbgmpakllaaShift
import Derived.Test.YtijmnbgmpakllaaRow
import Derived.Lib.AppendZeros
namespace Go.Proofs.Ytijmnbgmpakllaa
set_option linter.unusedSimpArgs false
set_option linter.unusedVariables false
open Go.ChangeShapes Go.WideShapes Go.ChangeAt Go.RowKit
open Go.Sort (grow)

theorem infoSl : (Try.prog.info? 71).map (fun i => (i.zero, i.size, i.bytes)) = some (some (.slice none 0 0), 1, 24) := by kernel_rfl
/-- Slice values with what they read as. -/
abbrev VL := List (Value × List Int)
def pvl (P : VL) (k : Nat) : Value := (P.getD k (undef, [])).1
def pll (P : VL) (k : Nat) : List Int := (P.getD k (undef, [])).2
def lls (P : VL) : List (List Int) := P.map (·.2)
def vls (P : VL) : List Value := P.map (·.1)
theorem p_eq {P : VL} {k : Nat} (hk : k < P.length) : (pvl P k, pll P k) = P[k] := by
  unfold pvl pll; rw [List.getD_eq_getElem?_getD, List.getElem?_eq_getElem hk]; rfl
theorem p_mem {P : VL} {k : Nat} (hk : k < P.length) : (pvl P k, pll P k) ∈ P := by rw [p_eq hk]; exact List.getElem_mem hk
theorem lls_len (P : VL) : (lls P).length = P.length := by simp [lls]
theorem vls_len (P : VL) : (vls P).length = P.length := by simp [vls]
theorem lls_at {P : VL} {k : Nat} (hk : k < P.length) : (lls P)[k]? = some (pll P k) := by
  unfold lls; rw [List.getElem?_map, List.getElem?_eq_getElem hk, ← p_eq hk]; rfl
theorem vls_at {P : VL} {k : Nat} (hk : k < P.length) : (vls P)[k]? = some (pvl P k) := by
  unfold vls; rw [List.getElem?_map, List.getElem?_eq_getElem hk, ← p_eq hk]; rfl
theorem lls_get {P : VL} {k : Nat} (hk : k < P.length) (h : k < (lls P).length) : (lls P)[k] = pll P k := by
  have := lls_at hk; rw [List.getElem?_eq_getElem h] at this; exact Option.some.inj this
/-- Each reads as its list, in memory of the call's own; no two share memory. -/
def LV (w : World) (B : Nat) (P : VL) : Prop := (∀ p ∈ P, IS w B p.1 p.2) ∧ P.Pairwise fun p q => ∀ g, p.1.ownBlock = some g → q.1.ownBlock ≠ some g
theorem LV.below {w w' : World} {B : Nat} {P : VL} (h : LV w B P) (hb : Below w.heap.size w w') : LV w' B P := ⟨fun p hp => (h.1 p hp).below hb, h.2⟩
theorem LV.base {w : World} {B B' : Nat} {P : VL} (h : LV w B P) (hB : B' ≤ B) : LV w B' P := ⟨fun p hp => (h.1 p hp).base hB, h.2⟩
theorem LV.at {w : World} {B : Nat} {P : VL} (h : LV w B P) {k : Nat} (hk : k < P.length) : IS w B (pvl P k) (pll P k) := h.1 _ (p_mem hk)
/-- The slice value v is of this call's own (from block B on); its elements are the slices of P. -/
def LS (w : World) (B : Nat) (v : Value) (P : VL) : Prop := w.ownsRow B 71 1 v P.length (vls P) ∧ LV w B P
theorem sl_below {w w' : World} {B : Nat} {T : TypeId} {s : Nat} {v : Value} {n : Nat} {xs : List Value} (h : w.ownsRow B T s v n xs) (hb : Below w.heap.size w w') : w'.ownsRow B T s v n xs := by
  refine ⟨h.1, ?_⟩
  rcases h.2 with h0 | ⟨g, cap, cur, h1, h2, h3, h4⟩
  · exact .inl h0
  · exact .inr ⟨g, cap, cur, h1, h2, (hb.block g (Array.getElem?_eq_some_iff.1 h3).1).trans h3, h4⟩
theorem sl_base {w : World} {B B' : Nat} {T : TypeId} {s : Nat} {v : Value} {n : Nat} {xs : List Value} (h : w.ownsRow B T s v n xs) (hB : B' ≤ B) : w.ownsRow B' T s v n xs := by
  refine ⟨h.1, ?_⟩
  rcases h.2 with h0 | ⟨g, cap, cur, h1, h2, h3⟩
  · exact .inl h0
  · exact .inr ⟨g, cap, cur, h1, by omega, h3⟩
theorem LS.below {w w' : World} {B : Nat} {v : Value} {P : VL} (h : LS w B v P) (hb : Below w.heap.size w w') : LS w' B v P := ⟨sl_below h.1 hb, h.2.below hb⟩
theorem LS.base {w : World} {B B' : Nat} {v : Value} {P : VL} (h : LS w B v P) (hB : B' ≤ B) : LS w B' v P := ⟨sl_base h.1 hB, h.2.base hB⟩
theorem LS.nil_ (w : World) (B : Nat) : LS w B (.slice none 0 0) [] := ⟨World.ownsRow_nil w B _ 1, fun _ h => by simp at h, List.Pairwise.nil⟩
theorem LS.parts {w : World} {B : Nat} {v : Value} {P : VL} (h : LS w B v P) : ∃ A cap, v = .slice A P.length cap ∧ P.length ≤ maxLen ∧ ∀ k, k < P.length → ∃ g, A = some ⟨g, 0, none⟩ ∧ w.cell? ⟨g, k, none⟩ = some (pvl P k) := by
  rcases h.1.2 with ⟨rfl, h0⟩ | ⟨g, cap, cur, rfl, h2, h3, h4, h5, h6, h7⟩
  · exact ⟨none, 0, by rw [h0], by simp [maxLen, h0], fun k hk => by omega⟩
  · refine ⟨some ⟨g, 0, none⟩, cap, rfl, by omega, fun k hk => ⟨g, rfl, ?_⟩⟩
    rw [World.ownsRow.cellAt h.1 k (by omega), vls_at hk]
theorem IS.one {w : World} {B : Nat} {v : Value} {zs : List Int} (h : IS w B v zs) : v.oneCell' = true := by
  obtain ⟨A, cap, rfl, -⟩ := h.parts
  rfl
theorem LV.ones {w : World} {B : Nat} {P : VL} (h : LV w B P) : ∀ u ∈ vls P, u.oneCell' = true := fun u hu => by
  obtain ⟨p, hp, rfl⟩ := List.mem_map.1 hu
  exact (h.1 p hp).one
/-- Results: a slice of slices. -/
def GivesL (L : List (List Int)) (w : World) (e : Ending) (w' : World) : Prop := ∃ r P, e = .returned r ∧ LS w' w.heap.size r P ∧ lls P = L ∧ Below w.heap.size w w'
def GivesLB (ok : Bool) (L : List (List Int)) (w : World) (e : Ending) (w' : World) : Prop := ∃ r P, e = .returned (.tuple #[r, .bool ok]) ∧ LS w' w.heap.size r P ∧ lls P = L ∧ Below w.heap.size w w'
theorem givesLB_nil {ok : Bool} {L : List (List Int)} {w w' : World} (h1 : ok = false) (h2 : L = []) (hb : Below w.heap.size w w') : GivesLB ok L w (.returned (.tuple #[.slice none 0 0, .bool false])) w' := by
  subst h1 h2; exact ⟨_, [], rfl, LS.nil_ _ _, rfl, hb⟩
theorem sbD {x w : World} (h : Below x.heap.size x w) : Below x.heap.size x w.drew := belN h 1
theorem sbA {x w : World} (h : Below x.heap.size x w) (o : Obj) : Below x.heap.size x (w.alloc o) := h.alloc h.size o
theorem step_app_sl {w : World} {ops : Array Oper} {o : Oper} {a : Act} {K : Act → World → Prop} {Q : Exit → Act → World → Prop} {E : Prop} (hgd : o.guard = none) (s t : Operand)
    (ho : o.op = .call { callee := .builtin .append, args := #[s, t], argTypes := #[35, 35] })
    (x : World) (v : Value) (n : Nat) (xs : List Value) (hs : a.eval s = v) (hown : w.ownsRow x.heap.size 71 1 v n xs)
    (ad : Addr) (m c : Nat) (news : List Value) (hx : a.eval t = .slice (some ad) m c) (hl : news.length = m) (hnews : ∀ j u, news[j]? = some u → w.cell? (ad.add j) = some u) (h1 : ∀ u ∈ news, u.oneCell' = true)
    (hb : n + m ≤ 1000000) (hS : Below x.heap.size x w)
    (h : ∀ v' w', w'.ownsRow x.heap.size 71 1 v' (n + m) (xs ++ news) → Below x.heap.size x w' → (∀ p u, w.cell? p = some u → (∀ k, v.ownBlock = some k → p.block ≠ k) → w'.cell? p = some u) → K (a.put o.dst v') w') :
    if Region.wanted o (yielded ops a.tmps) = true then Oper.wp Try.prog o a w K Q else E := by
  obtain ⟨i0, hi, hz0, hz1, hz2⟩ := info_parts infoSl
  refine step_append_own hgd s t 35 ho x.heap.size 71 i0 (.slice none 0 0) 1 24 Try.underlying35 hi hz0 hz1 hz2 rfl (by decide) v n xs hs hown ad m c news hx (by simp [hl]) hnews h1 (by unfold maxLen; omega) (by omega) hS.size ?_
  intro v' w' h1 h2 h3
  exact h v' w' h1 (hS.grown h2 hS.size fun k hk => (World.ownsRow.lt hown k hk).1) (fun p u hc hne => h2.cell hc (fun e => hne _ e.symm rfl))
theorem step_app_noneS {w : World} {ops : Array Oper} {o : Oper} {a : Act} {K : Act → World → Prop} {Q : Exit → Act → World → Prop} {E : Prop} (hgd : o.guard = none) (s t : Operand)
    (ho : o.op = .call { callee := .builtin .append, args := #[s, t], argTypes := #[35, 35] })
    (B : Nat) (v : Value) (n : Nat) (xs : List Value) (hs : a.eval s = v) (hown : w.ownsRow B 71 1 v n xs) (hx : a.eval t = .slice none 0 0)
    (h : K (a.put o.dst v) w) : if Region.wanted o (yielded ops a.tmps) = true then Oper.wp Try.prog o a w K Q else E := by
  obtain ⟨i0, hi, hz0, hz1, hz2⟩ := info_parts infoSl
  have hw : Region.wanted o (yielded ops a.tmps) = true := by simp [Region.wanted, hgd]
  rw [if_pos hw]
  exact Lib.wp_append_run w s t 35 35 ho v (.slice none 0 0) hs hx v w (run_append_owned_none w B 35 o.type 71 i0 1 Try.underlying35 hi v n xs hown) h
theorem twS_new (w : World) (B : Nat) (h : B ≤ w.heap.size) : (w.alloc (.cells #[] 71)).ownsRow B 71 1 (.slice (some ⟨w.heap.size, 0, none⟩) 0 0) 0 [] := World.ownsRow_made w #[] 0 h (Nat.zero_le _) rfl
theorem twS_new' (w : World) (o : Obj) (B : Nat) (h : B ≤ w.heap.size) : ((w.alloc o).alloc (.cells #[] 71)).ownsRow B 71 1 (.slice (some ⟨w.heap.size + 1, 0, none⟩) 0 0) 0 [] := by
  have hs : (w.alloc o).heap.size = w.heap.size + 1 := by simp
  have := twS_new (w.alloc o) B (by omega)
  rwa [hs] at this
theorem add_zero (g j : Nat) : (⟨g, 0, none⟩ : Addr).add j = ⟨g, j, none⟩ := by unfold Addr.add; split <;> simp_all
theorem add_at0 (g q j : Nat) : (⟨g, q, none⟩ : Addr).add j = ⟨g, q + j, none⟩ := by unfold Addr.add; split <;> simp_all
theorem oneS_news {w : World} {g : Nat} {v : Value} (h : w.cell? ⟨g, 0, none⟩ = some v) : ∀ j u, [v][j]? = some u → w.cell? ((⟨g, 0, none⟩ : Addr).add j) = some u := fun j u hu => by
  rw [add_zero]
  match j, hu with
  | 0, hu => rw [h]; exact hu
  | j + 1, hu => simp at hu
theorem litS_new (w : World) (v : Value) : (w.alloc (.cells #[v] 71)).cell? ⟨w.heap.size, 0, none⟩ = some v := by simp [go_sem]
theorem litS_new2 (w : World) (o : Obj) (v : Value) : ((w.alloc o).alloc (.cells #[v] 71)).cell? ⟨w.heap.size + 1, 0, none⟩ = some v := by
  have h := litS_new (w.alloc o) v
  have hs : (w.alloc o).heap.size = w.heap.size + 1 := by simp
  rwa [hs] at h
theorem litS_new3 (w : World) (o : Obj) (v : Value) : ((w.alloc (.cells #[v] 71)).alloc o).cell? ⟨w.heap.size, 0, none⟩ = some v :=
  box_o (litS_new w v) ((Below.refl _ _).alloc (Nat.le_refl _) o)
/-- A row's values, before and behind a place. -/
theorem preS_news {x w : World} {g : Nat} {vs : List Value} (h : ∀ j u, vs[j]? = some u → x.cell? ⟨g, j, none⟩ = some u) (hb : Below x.heap.size x w) (q : Nat) : ∀ j u, (vs.take q)[j]? = some u → w.cell? ((⟨g, 0, none⟩ : Addr).add j) = some u := fun j u hu => by
  rw [add_zero]
  refine box_o (h j u ?_) hb
  rcases Nat.lt_or_ge j q with hj | hj
  · rwa [List.getElem?_take_of_lt hj] at hu
  · rw [List.getElem?_eq_none (by simp; omega)] at hu; cases hu
theorem postS_news {x w : World} {g : Nat} {vs : List Value} (h : ∀ j u, vs[j]? = some u → x.cell? ⟨g, j, none⟩ = some u) (hb : Below x.heap.size x w) (q : Nat) : ∀ j u, (vs.drop q)[j]? = some u → w.cell? ((⟨g, q, none⟩ : Addr).add j) = some u := fun j u hu => by
  rw [add_at0]
  rw [List.getElem?_drop] at hu
  exact box_o (h _ u hu) hb
theorem nilS_news {w : World} {ad : Addr} {vs : List Value} (h : vs = []) : ∀ j u, vs[j]? = some u → w.cell? (ad.add j) = some u := fun j u hu => by
  subst h; simp at hu
theorem LS.news {w : World} {B g cap : Nat} {P : VL} (h : LS w B (.slice (some ⟨g, 0, none⟩) P.length cap) P) : ∀ j u, (vls P)[j]? = some u → w.cell? ⟨g, j, none⟩ = some u := fun j u hu => by
  have hj : j < (vls P).length := (List.getElem?_eq_some_iff.1 hu).1
  rw [vls_len] at hj
  rw [World.ownsRow.cellAt h.1 j (by omega), hu]
theorem ones_take {l : List Value} (h : ∀ u ∈ l, u.oneCell' = true) (k : Nat) : ∀ u ∈ l.take k, u.oneCell' = true := fun u hu => h u (List.mem_of_mem_take hu)
theorem ones_drop {l : List Value} (h : ∀ u ∈ l, u.oneCell' = true) (k : Nat) : ∀ u ∈ l.drop k, u.oneCell' = true := fun u hu => h u (List.mem_of_mem_drop hu)
/-- One more slice among slices. -/
theorem LV.put {w : World} {B : Nat} {P : VL} {x : Value} {zs : List Int} (h : LV w B P) (hx : IS w B x zs) (hd : ∀ p ∈ P, ∀ g, p.1.ownBlock = some g → x.ownBlock ≠ some g) (k : Nat) : LV w B (P.take k ++ (x, zs) :: P.drop k) := by
  constructor
  · intro p hp
    rw [List.mem_append, List.mem_cons] at hp
    rcases hp with hp | rfl | hp
    · exact h.1 p (List.mem_of_mem_take hp)
    · exact hx
    · exact h.1 p (List.mem_of_mem_drop hp)
  · have hP := h.2
    rw [← List.take_append_drop k P] at hP
    obtain ⟨h1, h2, h3⟩ := List.pairwise_append.1 hP
    refine List.pairwise_append.2 ⟨h1, List.pairwise_cons.2 ⟨fun q hq g hg e => hd q (List.mem_of_mem_drop hq) g e hg, h2⟩, fun p hp q hq => ?_⟩
    rcases List.mem_cons.1 hq with rfl | hq
    · exact fun g hg => hd p (List.mem_of_mem_take hp) g hg
    · exact h3 p hp q hq
/-- A slice of integers lies in another block than a row of slices. -/
theorem IS.other_row {w : World} {B B' g n cap : Nat} {v : Value} {zs : List Int} {xs : List Value} (h : IS w B v zs) (hr : w.ownsRow B' 71 1 (.slice (some ⟨g, 0, none⟩) n cap) n xs) : ∀ k, v.ownBlock = some k → k ≠ g := by
  intro k hk e
  subst e
  rcases hr.2 with ⟨h0, -⟩ | ⟨g', cap', cur, hv, hB, hh, -⟩
  · cases h0
  · obtain ⟨rfl, -⟩ : k = g' ∧ cap = cap' := by simpa using hv
    rcases h.2 with ⟨rfl, -⟩ | ⟨g2, cap2, cur2, rfl, h2, h3, -⟩
    · cases hk
    · have e2 : g2 = k := by simpa [Value.ownBlock] using hk
      rw [e2, hh] at h3
      simp at h3
theorem IS.in_grown {w w' : World} {B g : Nat} {v : Value} {zs : List Int} (h : IS w B v zs) (hg : w.grownBy w' (some g)) (hne : ∀ k, v.ownBlock = some k → k ≠ g) : IS w' B v zs :=
  h.other hg fun k hk e => hne k hk (by cases e; rfl)
/-- One more slice behind a row of slices. -/
theorem ls_snoc {w w' : World} {B : Nat} {v v' x : Value} {P : VL} {zs : List Int} (h : LS w B v P) (hx : IS w B x zs) (hown : w'.ownsRow B 71 1 v' (P.length + 1) (vls P ++ [x])) (hg : w.grownBy w' v.ownBlock)
    (hd : ∀ p ∈ P, ∀ g, p.1.ownBlock = some g → x.ownBlock ≠ some g) (hxv : ∀ g, x.ownBlock = some g → v.ownBlock ≠ some g) : LS w' B v' (P ++ [(x, zs)]) := by
  have hrow : ∀ p ∈ P, ∀ g, p.1.ownBlock = some g → some g ≠ v.ownBlock := fun p hp g hg' e => by
    rcases h.1.2 with ⟨rfl, _⟩ | ⟨g2, cap2, cur2, rfl, _, hh, _⟩
    · simp [Value.ownBlock] at e
    · exact (h.2.1 p hp).other_row h.1 g hg' (by simpa [Value.ownBlock] using e)
  refine ⟨by rw [List.length_append]; simpa [vls] using hown, fun p hp => ?_, ?_⟩
  · rcases List.mem_append.1 hp with hp | hp
    · exact (h.2.1 p hp).other hg (hrow p hp)
    · rw [List.mem_singleton] at hp; subst hp
      exact hx.other hg (fun g hg' e => hxv g hg' e.symm)
  · exact List.pairwise_append.2 ⟨h.2.2, List.pairwise_singleton _ _, fun p hp q hq g hg' => by
      rw [List.mem_singleton] at hq; subst hq
      exact hd p hp g hg'⟩
/-- One more list behind a row of lists, all of it above the world before. -/
theorem ls_push {w w1 w2 : World} {B : Nat} {v v' x : Value} {P : VL} {zs : List Int} (h : LS w B v P) (hb : Below w.heap.size w w1) (hB : B ≤ w.heap.size) (hx : IS w1 w.heap.size x zs) (hown : w2.ownsRow B 71 1 v' (P.length + 1) (vls P ++ [x])) (hg : w1.grownBy w2 v.ownBlock) : LS w2 B v' (P ++ [(x, zs)]) :=
  ls_snoc (h.below hb) (hx.base hB) hown hg (fun p hp g hg e => by have := (h.2.1 p hp).lt g hg; have := hx.lt g e; omega) (fun g hg e => by have := World.ownsRow.lt h.1 g e; have := hx.lt g hg; omega)
end Go.Proofs.Ytijmnbgmpakllaa

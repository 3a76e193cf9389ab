/-
  The program's cells: what cellsOf returns.
  Condition: the slice reads as the terms that are named; they are valid.
-/
import Derived.Test.YtcfplfjllnojoaaGreatSf
import Derived.Test.YtcfplfjllnojoaaGreatCeI
import Derived.Deep.RegionHeld3
import Derived.Deep.MidRow
import Derived.Deep.LoopGhost
import Derived.WalkMore
namespace Go.Proofs.YtcfplfjllnojoaaGreat
set_option linter.unusedSimpArgs false
set_option linter.unusedVariables false
open Go.ChangeShapes Go.WideShapes Go.ChangeAt Go.RowKit Go.Maps
open Go.Sort (grow)

/-- What a set reads as among a map's keys. -/
def tkL (on : List Bool) : Lit := .string (keyBytes (on.map Lit.bool))
set_option maxRecDepth 100000 in
theorem tk_key {on : List Bool} (h : on.length = 12) : keyOf Tryz.prog 93 (tsV on) = some (tkL on) := by
  obtain ⟨b0, b1, b2, b3, b4, b5, b6, b7, b8, b9, b10, b11, rfl⟩ := ts_twelve h
  rfl
theorem ts_inj {on on' : List Bool} (h : tsV on = tsV on') : on = on' := by
  unfold tsV at h
  have h1 : on.map Value.bool = on'.map Value.bool := by simpa using h
  exact (List.map_inj_right (fun a b e => by cases e; rfl)).1 h1
theorem tk_inj {on on' : List Bool} (h : on.length = 12) (h' : on'.length = 12) (e : tkL on = tkL on') : on = on' :=
  ts_inj (tsKeyed.inj (tk_key h) (by rw [e]; exact tk_key h'))
theorem tk_lit {on : List Bool} (h : on.length = 12) : WideAt.IsKeyLit (tkL on) := tsKeyed.key (tk_key h)
theorem nodup_le {α : Type} [DecidableEq α] : ∀ {l m : List α}, l.Nodup → (∀ x ∈ l, x ∈ m) → l.length ≤ m.length
  | [], _, _, _ => by simp
  | a :: l, m, hn, h => by
    obtain ⟨h1, h2⟩ := List.nodup_cons.1 hn
    have hm : a ∈ m := h a (by simp)
    have := nodup_le (m := m.erase a) h2 (fun x hx => by
      have hne : x ≠ a := fun e => h1 (e ▸ hx)
      exact (List.mem_erase_of_ne hne).2 (h x (by simp [hx])))
    have h3 := List.length_erase_of_mem hm
    have h4 := List.length_pos_of_mem hm
    rw [List.length_cons]; omega
theorem own_below {P : Program} {k : TypeId} {R : Value → Option (DataW Value × List MemPlace)} {w w' : World} {b n : Nat} {D : DataW Value} (h : w.ownsMap P k R b n D) (hb : Below w.heap.size w w') : w'.ownsMap P k R b n D := by
  have hbl := h.lt
  obtain ⟨es, clock, h1, h2, h3, h4⟩ := h
  exact ⟨es, clock, (hb.block b hbl).trans h1, h2, h3, h4⟩
/-- What the map of the sets holds, when the first k planes have been looked at. -/
def FoundI (l : List Tm) (ps : List (Tm × Tm)) (B b k : Nat) (w : World) : Prop :=
  ∃ (D : DataW Value) (os : List (List Bool)) (vf : List Bool → Value), w.ownsMap Tryz.prog 93 hR b k D ∧ (∀ on, on ∈ os ↔ ∃ P ∈ ps.take k, okP P l l.length ∧ on = onL P l l.length) ∧
    (∀ x, has D x = true ↔ ∃ on ∈ os, x = tkL on) ∧ (∀ on ∈ os, (∀ zd, D.atKey (tkL on) zd = .held (vf on)) ∧ IS w B (vf on) (ixL on 12)) ∧
    (∀ on ∈ os, ∀ on' ∈ os, on ≠ on' → ∀ g, (vf on).ownBlock = some g → (vf on').ownBlock ≠ some g) ∧ os.length ≤ k
theorem FoundI.below {l : List Tm} {ps : List (Tm × Tm)} {B b k : Nat} {w w' : World} (h : FoundI l ps B b k w) (hb : Below w.heap.size w w') : FoundI l ps B b k w' := by
  obtain ⟨D, os, vf, h1, h2, h3, h4, h5, h6⟩ := h
  exact ⟨D, os, vf, own_below h1 hb, h2, h3, fun on ho => ⟨(h4 on ho).1, (h4 on ho).2.below hb⟩, h5, h6⟩
theorem take_ppd {ps : List (Tm × Tm)} {k : Nat} (hk : k < ps.length) : ps.take (k + 1) = ps.take k ++ [ppd ps k] := by
  rw [List.take_succ_eq_append_getElem hk, ppd_eq ps k hk]
theorem FoundI.skip {l : List Tm} {ps : List (Tm × Tm)} {B b k : Nat} {w : World} (h : FoundI l ps B b k w) (hk : k < ps.length) (hno : ¬ okP (ppd ps k) l l.length) : FoundI l ps B b (k + 1) w := by
  obtain ⟨D, os, vf, h1, h2, h3, h4, h5, h6⟩ := h
  refine ⟨D, os, vf, h1.mono (by omega), fun on => (h2 on).trans ?_, h3, h4, h5, by omega⟩
  rw [take_ppd hk]
  constructor
  · rintro ⟨P, hP, h⟩; exact ⟨P, List.mem_append_left _ hP, h⟩
  · rintro ⟨P, hP, h⟩
    rcases List.mem_append.1 hP with hP | hP
    · exact ⟨P, hP, h⟩
    · rw [List.mem_singleton] at hP; subst hP; exact absurd h.1 hno
theorem on_len (P : Tm × Tm) (l : List Tm) (n : Nat) : (onL P l n).length = 12 := onL_len P l n
theorem FoundI.put {l : List Tm} {ps : List (Tm × Tm)} {B b k : Nat} {w w1 w2 : World} {v : Value} (hk : k < ps.length) (hok : okP (ppd ps k) l l.length) (hB : B ≤ w.heap.size)
    {D : DataW Value} {os : List (List Bool)} {vf : List Bool → Value} (hD : IsMap D) (h2 : ∀ on, on ∈ os ↔ ∃ P ∈ ps.take k, okP P l l.length ∧ on = onL P l l.length)
    (h3 : ∀ x, has D x = true ↔ ∃ on ∈ os, x = tkL on) (h4 : ∀ on ∈ os, (∀ zd, D.atKey (tkL on) zd = .held (vf on)) ∧ IS w B (vf on) (ixL on 12))
    (h5 : ∀ on ∈ os, ∀ on' ∈ os, on ≠ on' → ∀ g, (vf on).ownBlock = some g → (vf on').ownBlock ≠ some g) (h6 : os.length ≤ k)
    (hb : Below w.heap.size w w1) (hv : IS w1 w.heap.size v (ixL (onL (ppd ps k) l l.length) 12)) (hown : w2.ownsMap Tryz.prog 93 hR b (k + 1) (D.put (tkL (onL (ppd ps k) l l.length)) (.held v))) (hg : w1.grownBy w2 (some b))
    (hmap : ∃ es c, w1.heap[b]? = some (.map es c)) : FoundI l ps B b (k + 1) w2 := by
  obtain ⟨o, ho⟩ : ∃ o, o = onL (ppd ps k) l l.length := ⟨_, rfl⟩
  have ho12 : o.length = 12 := by rw [ho]; exact on_len _ _ _
  have hos : ∀ on ∈ os, on.length = 12 := fun on h => by
    obtain ⟨P, _, _, rfl⟩ := (h2 on).1 h; exact on_len _ _ _
  rw [← ho] at hv hown
  have hne : ∀ {u : Value} {zs : List Int} {B' : Nat}, IS w1 B' u zs → IS w2 B' u zs := fun {u zs B'} h => h.other hg fun g hg' e => by
    obtain ⟨es, c, hm⟩ := hmap
    rcases h.2 with ⟨rfl, -⟩ | ⟨g2, cap2, cur2, rfl, _, hh, -⟩
    · simp [Value.ownBlock] at hg'
    · have e1 : g2 = g := by simpa [Value.ownBlock] using hg'
      have e2 : g = b := by simpa using e
      rw [e1, e2, hm] at hh; cases hh
  refine ⟨_, o :: os, fun on => if on = o then v else vf on, hown, fun on => ?_, fun x => ?_, fun on hon => ?_, fun on hon on' hon' hnn g hg1 => ?_, by simp; omega⟩
  · rw [List.mem_cons, h2 on, take_ppd hk]
    constructor
    · rintro (rfl | ⟨P, hP, h⟩)
      · exact ⟨ppd ps k, by simp, hok, ho⟩
      · exact ⟨P, List.mem_append_left _ hP, h⟩
    · rintro ⟨P, hP, h⟩
      rcases List.mem_append.1 hP with hP | hP
      · exact .inr ⟨P, hP, h⟩
      · rw [List.mem_singleton] at hP; subst hP; exact .inl (h.2.trans ho.symm)
  · by_cases hx : x = tkL o
    · subst hx
      exact ⟨fun _ => ⟨o, by simp, rfl⟩, fun _ => has_put_same hD (tk_lit ho12) _⟩
    · rw [has_put_other hx, h3 x]
      constructor
      · rintro ⟨on, h, e⟩; exact ⟨on, by simp [h], e⟩
      · rintro ⟨on, h, e⟩
        rcases List.mem_cons.1 h with rfl | h
        · exact absurd e hx
        · exact ⟨on, h, e⟩
  · dsimp only
    by_cases he : on = o
    · subst he
      rw [if_pos rfl]
      exact ⟨fun zd => atKey_put_same hD (tk_lit ho12) _ zd, hne (hv.base hB)⟩
    · rw [if_neg he]
      have hm : on ∈ os := by simpa [he] using hon
      refine ⟨fun zd => ?_, hne ((h4 on hm).2.below hb)⟩
      rw [atKey_put_other (fun e => he (tk_inj (hos on hm) ho12 e))]
      exact (h4 on hm).1 zd
  · dsimp only at hg1 ⊢
    by_cases he : on = o
    · by_cases he' : on' = o
      · exact absurd (he.trans he'.symm) hnn
      · have hm' : on' ∈ os := by simpa [he'] using hon'
        rw [if_pos he] at hg1
        rw [if_neg he']
        intro e
        have a1 := hv.lt g hg1
        have a2 := (h4 on' hm').2.lt g e
        omega
    · have hm : on ∈ os := by simpa [he] using hon
      rw [if_neg he] at hg1
      by_cases he' : on' = o
      · rw [if_pos he']
        intro e
        have a1 := hv.lt g e
        have a2 := (h4 on hm).2.lt g hg1
        omega
      · have hm' : on' ∈ os := by simpa [he'] using hon'
        rw [if_neg he']
        exact h5 on hm on' hm' hnn g hg1
/-- A store into a map, at a step of a drawn region. -/
theorem step_mapUpdate {P : Program} {w : World} {ops : Array Oper} {o : Oper} {a : Act} {K' : Act → World → Prop} {Q : Exit → Act → World → Prop} {E : Prop} (hgd : o.guard = none) (m x v : Operand) (t : TypeId) (ho : o.op = Op.mapUpdate t m x v)
    (k e : TypeId) (K : Keyed P k) (ht : P.underlying t = some (.map k e)) (b n : Nat) (D : DataW Value) (hm : a.eval m = .map (some b)) (hown : w.ownsMap P k hR b n D) (hn : n < maxLen)
    (key val : Value) (kl : Lit) (hx : a.eval x = key) (hv : a.eval v = val) (hkey : keyOf P k key = some kl) (hval : IsSl val)
    (h : ∀ w', w'.ownsMap P k hR b (n + 1) (D.put kl (.held val)) → w.grownBy w' (some b) → K' (a.put o.dst undef) w') :
    if Region.wanted o (yielded ops a.tmps) = true then Oper.wp P o a w K' Q else E := by
  rw [if_pos (by simp [Region.wanted, hgd])]
  obtain ⟨w', hrun, r1, r2⟩ := hown.update K ht hn hkey (hR_yes hval)
  unfold Oper.wp
  simp [execOp, ho, hm, hx, hv, hrun, Result.andThen]
  exact h w' r1 r2
end Go.Proofs.YtcfplfjllnojoaaGreat
/-
  The program's cells, second part: what cellsOf returns.
  Condition: the slice reads as the terms that are named; they are valid.
-/
namespace Go.Proofs.YtcfplfjllnojoaaGreat
set_option linter.unusedSimpArgs false
set_option linter.unusedVariables false
open Go.ChangeShapes Go.WideShapes Go.ChangeAt Go.RowKit Go.Maps
open Go.Sort (grow)

/-- The box of a set: block g holds bs. -/
def OnB (w : World) (g : Nat) (bs : List Bool) : Prop := w.heap[g]? = some (.cells (bs.map Value.bool).toArray 93 (0, 0))
theorem OnB.at {w : World} {g : Nat} {bs : List Bool} (h : OnB w g bs) {j : Nat} (hj : j < bs.length) : w.cell? ⟨g, j, none⟩ = some (.bool (bs.getD j false)) ∧ w.frozen? ⟨g, j, none⟩ = false := by
  unfold OnB at h
  constructor
  · rw [cell_of_row w g j _ _ _ h]
    simp [List.getD_eq_getElem?_getD, hj]
  · simp [World.frozen?, h]
theorem OnB.set {w : World} {g : Nat} {bs : List Bool} (h : OnB w g bs) (j : Nat) (c : Bool) : OnB (w.setCell ⟨g, j, none⟩ (.bool c)) g (bs.set j c) := by
  unfold OnB
  rw [heap_set_at (.bool c) h]
  congr 2
  apply Array.ext'
  simp [List.map_set]
theorem OnB.below {w w' : World} {g : Nat} {bs : List Bool} (h : OnB w g bs) (hb : Below w.heap.size w w') : OnB w' g bs := (hb.block g (Array.getElem?_eq_some_iff.1 h).1).trans h
theorem OnB.lt {w : World} {g : Nat} {bs : List Bool} (h : OnB w g bs) : g < w.heap.size := (Array.getElem?_eq_some_iff.1 h).1
theorem OnB.range {w : World} {g : Nat} {bs : List Bool} (h : OnB w g bs) : w.rangeAt g 0 (bs.map Value.bool) := fun j v hv => by
  unfold OnB at h
  rw [Nat.zero_add, cell_of_row w g j _ _ _ h]
  simpa using hv
theorem rangeAt_below {w w' : World} {g : Nat} {cs : List Value} (h : w.rangeAt g 0 cs) (hg : g < w.heap.size) (hb : Below w.heap.size w w') : w'.rangeAt g 0 cs := fun j v hv => (hb.cell (p := ⟨g, 0 + j, none⟩) hg).trans (h j v hv)
theorem rangeAt_grown {w w' : World} {g b : Nat} {cs : List Value} (h : w.rangeAt g 0 cs) (hg : w.grownBy w' (some b)) (hne : g ≠ b) : w'.rangeAt g 0 cs := fun j v hv => hg.cell (h j v hv) (fun e => hne (by cases e; rfl))
theorem PlS.at {w : World} {B : Nat} {v : Value} {ps : List (Tm × Tm)} (h : PlS w B v ps) : ∃ A cap, v = .slice A ps.length cap ∧ ps.length ≤ maxLen ∧ ∀ k, k < ps.length → ∃ g, A = some ⟨g, 0, none⟩ ∧ ∀ i, i < 6 → w.cell? ⟨g, k * 6 + i, none⟩ = some (.int .i64 (gd (encL (ppd ps k)) i)) := by
  obtain ⟨A, cap, rfl, hm, hp⟩ := FS.parts h
  refine ⟨A, cap, rfl, hm, fun k hk => ?_⟩
  obtain ⟨g, rfl, _⟩ := hp (k * 6) (by omega)
  refine ⟨g, rfl, fun i hi => ?_⟩
  obtain ⟨g', hg, hc⟩ := hp (k * 6 + i) (by omega)
  cases hg
  rw [← flatL_gd hk hi]; exact hc
/-- Every plane is a plane of valid terms. -/
theorem AllP.ok {l : List Tm} {ps : List (Tm × Tm)} (h : AllP l ps) (hl : plB l = true) {P : Tm × Tm} (hP : P ∈ ps) : plT P.1 = true ∧ BdN P.2 := by
  obtain ⟨i, j, k, h1, h2, h3, -, rfl⟩ := (h P).1 hP
  exact ⟨plB_at hl (by omega), BdN.nm (plB_at hl (by omega)) (plB_at hl (by omega)) (plB_at hl h3)⟩
/-- All values of the map: slices that read as the sets' indices, each set once. -/
theorem found_all {B : Nat} {w : World} {D : DataW Value} {os : List (List Bool)} {vf : List Bool → Value} (h2 : ∀ on ∈ os, on.length = 12) (h3 : ∀ x, has D x = true ↔ ∃ on ∈ os, x = tkL on)
    (h4 : ∀ on ∈ os, (∀ zd, D.atKey (tkL on) zd = .held (vf on)) ∧ IS w B (vf on) (ixL on 12)) (h5 : ∀ on ∈ os, ∀ on' ∈ os, on ≠ on' → ∀ g, (vf on).ownBlock = some g → (vf on').ownBlock ≠ some g)
    {qs : List (Lit × OV)} (hq : AllOf D qs) : qs.length ≤ os.length ∧ ∃ P : VL, P.map (·.1) = (qs.map (·.2)).map Subtype.val ∧ LV w B P ∧ (lls P).Nodup ∧ ∀ x, x ∈ lls P ↔ ∃ on ∈ os, x = ixL on 12 := by
  haveI : DecidableEq Lit := fun a b => Classical.propDecidable (a = b)
  obtain ⟨hnd, hmem, hval⟩ := hq
  have hex : ∃ ff : Lit → List Bool, ∀ x, has D x = true → ff x ∈ os ∧ x = tkL (ff x) := by
    have : ∀ x, ∃ on, has D x = true → on ∈ os ∧ x = tkL on := fun x => by
      by_cases h : has D x = true
      · obtain ⟨on, h1, h2⟩ := (h3 x).1 h; exact ⟨on, fun _ => ⟨h1, h2⟩⟩
      · exact ⟨[], fun h' => absurd h' h⟩
    exact ⟨fun x => Classical.choose (this x), fun x => Classical.choose_spec (this x)⟩
  obtain ⟨ff, hff⟩ := hex
  have hin : ∀ q ∈ qs, has D q.1 = true := fun q h => (hmem q.1).1 (List.mem_map.2 ⟨q, h, rfl⟩)
  have hv : ∀ q ∈ qs, q.2.1 = vf (ff q.1) := fun q h => by
    obtain ⟨a1, a2⟩ := hff q.1 (hin q h)
    have e1 := hval q h .nil
    rw [a2] at e1
    have e2 := (h4 _ a1).1 .nil
    rw [e1] at e2
    exact DataW.held.inj e2
  refine ⟨?_, qs.map (fun q => (q.2.1, ixL (ff q.1) 12)), by rw [List.map_map, List.map_map]; rfl, ⟨fun p hp => ?_, ?_⟩, ?_, fun x => ?_⟩
  · have := nodup_le (m := os.map tkL) hnd (fun x hx => by
      obtain ⟨on, h1, h2⟩ := (h3 x).1 ((hmem x).1 hx)
      exact List.mem_map.2 ⟨on, h1, h2.symm⟩)
    simpa using this
  · obtain ⟨q, hq, rfl⟩ := List.mem_map.1 hp
    rw [hv q hq]
    exact (h4 _ (hff q.1 (hin q hq)).1).2
  · rw [List.pairwise_map]
    have hp : qs.Pairwise fun a b => a.1 ≠ b.1 := List.pairwise_map.1 hnd
    refine hp.imp_of_mem fun {a b} ha hb hne g hg => ?_
    dsimp only at hg ⊢
    rw [hv a ha] at hg
    rw [hv b hb]
    exact h5 _ (hff a.1 (hin a ha)).1 _ (hff b.1 (hin b hb)).1 (fun e => hne (by rw [(hff a.1 (hin a ha)).2, (hff b.1 (hin b hb)).2, e])) g hg
  · unfold lls
    rw [List.map_map]
    refine List.pairwise_map.2 ?_
    have hp : qs.Pairwise fun a b => a.1 ≠ b.1 := List.pairwise_map.1 hnd
    refine hp.imp_of_mem fun {a b} ha hb hne e => hne ?_
    have e2 := ixL_inj (h2 _ (hff a.1 (hin a ha)).1) (h2 _ (hff b.1 (hin b hb)).1) e
    rw [(hff a.1 (hin a ha)).2, (hff b.1 (hin b hb)).2, e2]
  · unfold lls
    rw [List.map_map, List.mem_map]
    constructor
    · rintro ⟨q, hq, rfl⟩
      exact ⟨_, (hff q.1 (hin q hq)).1, rfl⟩
    · rintro ⟨on, ho, rfl⟩
      obtain ⟨q, hq, e⟩ := List.mem_map.1 ((hmem (tkL on)).2 ((h3 _).2 ⟨on, ho, rfl⟩))
      refine ⟨q, hq, ?_⟩
      obtain ⟨a1, a2⟩ := hff q.1 (hin q hq)
      have : ff q.1 = on := tk_inj (h2 _ a1) (h2 _ ho) (by rw [← a2, e])
      show ixL (ff q.1) 12 = ixL on 12
      rw [this]
/-- Sorted, each once: all cells. -/
theorem sorted_cells {l : List Tm} {ps : List (Tm × Tm)} {os : List (List Bool)} {P P' : VL} (hl : l.length ≤ 12) (hall : AllP l ps) (h2 : ∀ on, on ∈ os ↔ ∃ P ∈ ps.take ps.length, okP P l l.length ∧ on = onL P l l.length)
    (hnd : (lls P).Nodup) (hm : ∀ x, x ∈ lls P ↔ ∃ on ∈ os, x = ixL on 12) (hp : P'.Perm P) (hs : P'.Pairwise fun p q => lxL q.2 p.2 = false) : lls P' = ceL l := by
  have hpl : (lls P').Perm (lls P) := hp.map _
  have hnd' : (lls P').Nodup := hpl.nodup_iff.2 hnd
  refine inc_ext totLx ?_ (ceL_inc l) fun x => ?_
  · have h1 : (lls P').Pairwise fun a b => lxL b a = false := List.pairwise_map.2 hs
    refine (h1.and hnd').imp fun {a b} hab => ?_
    cases e : lxL a b
    · exact absurd (totLx.tot e hab.1) hab.2
    · rfl
  · rw [hpl.mem_iff, hm x, ceL_mem]
    constructor
    · rintro ⟨on, ho, rfl⟩
      obtain ⟨p, hp, hok, rfl⟩ := (h2 on).1 ho
      rw [List.take_length] at hp
      obtain ⟨i, j, k, a1, a2, a3, a4, rfl⟩ := (hall p).1 hp
      exact ⟨i, j, k, a1, a2, a3, a4, hok, ixL_on12 _ _ hl⟩
    · rintro ⟨i, j, k, a1, a2, a3, a4, hok, rfl⟩
      refine ⟨onL (plO l i j k) l l.length, (h2 _).2 ⟨plO l i j k, ?_, hok, rfl⟩, (ixL_on12 _ _ hl).symm⟩
      rw [List.take_length]
      exact (hall _).2 ⟨i, j, k, a1, a2, a3, a4, rfl⟩
abbrev actC (A : Option Addr) (n cap M O gr N cap1 k : Nat) (p : Tm × Tm) (u7 u8 u9 u22 u23 u24 u25 u26 u27 u28 u29 u30 u31 u32 u33 u34 u39 : Value) (s35 s36 s37 s38 : Value) : Act := { tmps := #[.slice A n cap, undef, .slice none 0 0, .map (some M), undef, .pointer (some ⟨O, 0, none⟩), .pointer (some ⟨O + 1, 0, none⟩), u7, u8, u9, .map (some M), .slice A n cap, .slice (some ⟨gr, 0, none⟩) N cap1, .int .i64 (N : Int), .int .i64 (k : Int), .bool true, .pointer (some ⟨gr, k * 6, none⟩), lpV p, .slice A n cap, .int .i64 (n : Int), .int .i64 (n : Int), .bool false, u22, u23, u24, u25, u26, u27, u28, u29, u30, u31, u32, u33, u34, s35, s36, s37, s38, u39, undef, undef, undef], defers := [] }
/-- What is known when some operations of the map's store are done. -/
structure IvC (wr : World) (O : Nat) (M : Nat) (on : List Bool) (Fin : World → Prop) (L : Array Bool) (s35 s36 s37 s38 : Value) (w : World) : Prop where
  z : L.size = 5
  c0 : L.getD 0 false = true → s35 = .map (some M)
  c1 : L.getD 1 false = true → s36 = tsV on
  c2 : L.getD 2 false = true → s37 = tsV on
  rg : w.rangeAt (O + 1) 0 (on.map Value.bool)
  ph : (L.getD 3 false = false ∧ L.getD 4 false = false ∧ w = wr.drew) ∨ (L.getD 3 false = true ∧ L.getD 4 false = false ∧ Below wr.heap.size wr w ∧ IsSl s38 ∧ IS w wr.heap.size s38 (ixL on 12)) ∨ (L.getD 3 false = true ∧ L.getD 4 false = true ∧ Fin w)
set_option maxHeartbeats 4000000 in
set_option maxRecDepth 100000 in
theorem cellsOf_any (w : World) (B : Nat) (v : Value) (l : List Tm) (h : TmS w B v l) (hl : plB l = true) : Calls Tryz.prog 43 #[v] w fun e w' => GivesL (ceL l) w e w' := by
  have H0 := Lib.hid h
  obtain ⟨A, cap, rfl, hm, hp⟩ := TmS.parts h
  have HP := Lib.hid hp
  have hle := (plB_le hl).2
  have HL := Lib.hid hl
  obtain ⟨n, hn⟩ : ∃ n, n = l.length := ⟨_, rfl⟩
  have HN := Lib.hid hn
  rw [← hn] at hm hle ⊢
  have HPT := Lib.hid (planesThrough_any (w.alloc (.map #[] 0)) B (.slice A n cap) l (by rw [HN.out]; exact FS.below h ((Below.refl _ _).alloc (Nat.le_refl _) _)) hl)
  have hmm := @run_makeMap Tryz.prog
  have hbM : Below w.heap.size w (w.alloc (.map #[] 0)) := (Below.refl _ _).alloc (Nat.le_refl _) _
  have HF0 := Lib.hid (World.ownsMap_made w Tryz.prog 93 hR)
  clear hp h hn hl
  go_enter Tryz.func43, Tryz.ntmps43
  go_wp2
  go_step3
  go_wp2
  go_step3
  go_wp2_with fail
  refine HPT.out.mono ?_
  rintro e w1 ⟨ps, hall, hpn, r, rfl, hr, b1⟩
  have HF := Lib.hid (show FoundI l ps w.heap.size w.heap.size 0 w1 from ⟨.map [], [], fun _ => undef, own_below HF0.out b1, fun on => by simp, fun x => by simp [has], fun on h => by simp at h, fun on h => by simp at h, by simp⟩)
  have hb1 := bel2 hbM b1
  have HALL := Lib.hid hall
  have HR := Lib.hid hr
  obtain ⟨A1, cap1, rfl, -, -⟩ := PlS.at hr
  obtain ⟨N, hN⟩ : ∃ N, N = ps.length := ⟨_, rfl⟩
  have HNN := Lib.hid hN
  rw [← hN] at hpn ⊢
  have hsM : (w.alloc (.map #[] 0)).heap.size = w.heap.size + 1 := by simp
  rw [hsM] at HR
  clear hall hr b1 hbM HF0 HPT hsM hmm hN
  go_wp2_with fail
  go_loopg [14] N (fun gk q wr => ∃ k : Nat, k ≤ N ∧ gk = N - k ∧ q = .int .i64 k ∧ Hid (FoundI l ps w.heap.size w.heap.size k wr) ∧ Hid (PlS wr (w.heap.size + 1) (.slice A1 N cap1) ps) ∧ Below w.heap.size w wr)
  case atStart => exact ⟨0, by omega, by omega, rfl, HF, by rw [HNN.out]; exact HR, hb1⟩
  case round =>
    rename World => wO
    obtain ⟨k, hk, hgk, rfl, hF, hR1, hb⟩ := hrel
    have HGK := Lib.hid hgk
    clear hgk
    clear HF HR hb1
    by_cases hlt : k < N
    · have hkl : k < ps.length := by rw [← HNN.out]; exact hlt
      obtain ⟨p, hp⟩ : ∃ p, p = ppd ps k := ⟨_, rfl⟩
      have HPD := Lib.hid hp
      obtain ⟨hp1, hp2⟩ := HALL.out.ok HL.out (ppd_mem hkl)
      obtain ⟨A2, cap2, hv2, -, hcs⟩ := PlS.at hR1.out
      obtain ⟨rfl, rfl⟩ : A1 = A2 ∧ cap1 = cap2 := by simp at hv2; exact ⟨hv2.1, hv2.2.2⟩
      obtain ⟨gr, rfl, hc6⟩ := hcs k hkl
      rw [← hp] at hp1 hp2 hc6
      have z0 := hc6 0 (by omega)
      have z1 := hc6 1 (by omega)
      have z2 := hc6 2 (by omega)
      have z3 := hc6 3 (by omega)
      have z4 := hc6 4 (by omega)
      have z5 := hc6 5 (by omega)
      simp only [gd, encL, List.getD_cons_zero, List.getD_cons_succ, Nat.add_zero] at z0 z1 z2 z3 z4 z5
      clear hv2 hcs hc6 hp
      go_wp2
      have q1 : IntKind.i64.wrap ((k : Int) + 1) = ((k + 1 : Nat) : Int) := by rw [IntWalk.i64_in _ (by omega)]; omega
      have HLb := Lib.hid (L6.new wO p)
      have hbA : Below wO.heap.size wO (wO.alloc (.cells #[.int .i64 p.1.1, .int .i64 p.1.2.1, .int .i64 p.1.2.2, .int .i64 p.2.1, .int .i64 p.2.2.1, .int .i64 p.2.2.2] 91)) := (Below.refl _ _).alloc (Nat.le_refl _) _
      have hsA : (wO.alloc (.cells #[.int .i64 p.1.1, .int .i64 p.1.2.1, .int .i64 p.1.2.2, .int .i64 p.2.1, .int .i64 p.2.2.1, .int .i64 p.2.2.2] 91)).heap.size = wO.heap.size + 1 := by simp
      generalize wO.alloc (.cells #[.int .i64 p.1.1, .int .i64 p.1.2.1, .int .i64 p.1.2.2, .int .i64 p.2.1, .int .i64 p.2.2.1, .int .i64 p.2.2.2] 91) = wA at HLb hbA hsA ⊢
      have HON0 := Lib.hid (show OnB (wA.alloc (.cells #[.bool false, .bool false, .bool false, .bool false, .bool false, .bool false, .bool false, .bool false, .bool false, .bool false, .bool false, .bool false] 93)) (wO.heap.size + 1) (onL p l 0) by
        rw [onL_zero, ← hsA]; exact heap_alloc_new wA _)
      have HBO0 := Lib.hid (show Below wA.heap.size wA (wA.alloc (.cells #[.bool false, .bool false, .bool false, .bool false, .bool false, .bool false, .bool false, .bool false, .bool false, .bool false, .bool false, .bool false] 93)) from (Below.refl _ _).alloc (Nat.le_refl _) _)
      have HFA := Lib.hid (hF.out.below hbA)
      have HRA := Lib.hid (FS.below hR1.out hbA)
      have HBA := Lib.hid (bel2 hb hbA)
      have HPV := Lib.hid (And.intro hp1 hp2)
      have HSA := Lib.hid hsA
      have HSO := Lib.hid hb.size
      clear z0 z1 z2 z3 z4 z5 hF hR1 hb hbA hp1 hp2 hsA
      go_loopg [20] n (fun gk q wq => ∃ m : Nat, m ≤ n ∧ gk = n - m ∧ q = .int .i64 m ∧ Hid (OnB wq (wO.heap.size + 1) (onL p l m)) ∧ Hid (okP p l m) ∧ Hid (Below wA.heap.size wA wq))
      case atStart => exact ⟨0, by omega, by omega, rfl, HON0, Lib.hid (fun m hm => absurd hm (Nat.not_lt_zero m)), HBO0⟩
      case round =>
        clear HON0 HBO0
        obtain ⟨m, hm, hgm, rfl, hON, hok, hBO⟩ := hrel
        have HGM := Lib.hid hgm
        clear hgm
        by_cases hltm : m < n
        · have hml : m < l.length := by rw [← HN.out]; exact hltm
          have hbW := bel2 HBA.out hBO.out
          obtain ⟨g, rfl, hc0⟩ := HP.out m hml
          obtain ⟨c0, c1, c2⟩ := X3.below hc0 hbW
          obtain ⟨⟨z0, z1, z2, z3, z4, z5⟩, -⟩ := (HLb.out.below hBO.out).cells
          have lt1 : wO.heap.size < wr.heap.size := cell_lt z0
          have q2 : IntKind.i64.wrap ((m : Int) + 1) = ((m + 1 : Nat) : Int) := by rw [IntWalk.i64_in _ (by omega)]; omega
          have HHT := Lib.hid (fun W => heightOf_any p (td l m) W HPV.out.1 HPV.out.2 (plB_at HL.out hml))
          have hBT : Below wA.heap.size wA (wr.alloc (.cells #[.int .i64 (td l m).1, .int .i64 (td l m).2.1, .int .i64 (td l m).2.2] 42)) := hBO.out.alloc hBO.out.size _
          have HBT := Lib.hid hBT
          have HONT := Lib.hid (hON.out.below ((Below.refl wr.heap.size wr).alloc (Nat.le_refl _) (.cells #[.int .i64 (td l m).1, .int .i64 (td l m).2.1, .int .i64 (td l m).2.2] 42)))
          have HNX := Lib.hid (show (0 ≤ hgtP p (td l m) → okP p l (m + 1)) ∧ (hgtP p (td l m) < 0 → ¬ okP p l l.length) from ⟨okP_next hok.out, fun h => okP_bad hml h⟩)
          have HSET := Lib.hid (onL_set p l m (by omega))
          clear hc0 hbW hBT hON hok hBO
          go_wp2_with fail
          refine (HHT.out _).mono ?_
          rintro e w3 ⟨rfl, bh⟩
          have HON3 := Lib.hid (HONT.out.below bh)
          have HB3 := Lib.hid (bel2 HBT.out bh)
          clear c0 c1 c2 z0 z1 z2 z3 z4 z5 bh HONT HBT HHT lt1
          obtain ⟨H, hH⟩ : ∃ H, H = hgtP p (td l m) := ⟨_, rfl⟩
          rw [← hH] at HNX HSET ⊢
          clear hH
          by_cases hneg : H < 0
          · have HNO := Lib.hid (HNX.out.2 hneg)
            clear HNX HSET HON3
            go_wp2
            go_roundg (N - (k + 1))
            case measure => have := HGK.out; omega
            case rel => exact ⟨k + 1, by omega, by omega, by go_num, Lib.hid ((HFA.out.below HB3.out).skip hkl (by rw [← HPD.out]; exact HNO.out)), Lib.hid (FS.below HRA.out HB3.out), bel2 HBA.out HB3.out⟩
          · have HOK := Lib.hid (HNX.out.1 (by omega))
            have hm12 : (m : Int) < 12 := by omega
            obtain ⟨d0, f0⟩ := HON3.out.at (j := m) (by rw [onL_len]; omega)
            have hB3 := HB3.out
            clear HNX
            by_cases h0 : H = 0
            · subst h0
              go_wp2
              go_roundg (n - (m + 1))
              case measure => have := HGM.out; omega
              case rel => exact ⟨m + 1, by omega, by omega, by go_num, Lib.hid (by
                have h1 := HON3.out.set m true
                rwa [show (onL p l m).set m true = onL p l (m + 1) by rw [← HSET.out]; simp] at h1), HOK, Lib.hid (hB3.setCell (p := ⟨wO.heap.size + 1, m, none⟩) (by rw [HSA.out]; exact Nat.le_refl _) _)⟩
            · have h0' : (H == 0) = false := by simp [h0]
              go_wp2
              go_roundg (n - (m + 1))
              case measure => have := HGM.out; omega
              case rel => exact ⟨m + 1, by omega, by omega, by go_num, Lib.hid (by
                have h1 := HON3.out.set m false
                rwa [show (onL p l m).set m false = onL p l (m + 1) by rw [← HSET.out]; simp [h0]] at h1), HOK, Lib.hid (hB3.setCell (p := ⟨wO.heap.size + 1, m, none⟩) (by rw [HSA.out]; exact Nat.le_refl _) _)⟩
        · obtain rfl : m = n := by omega
          have hOK := hok.out
          rw [HN.out] at hOK
          obtain ⟨on, hon⟩ : ∃ on, on = onL p l l.length := ⟨_, rfl⟩
          have HONE := Lib.hid hon
          have ho12 : on.length = 12 := by rw [hon]; exact onL_len _ _ _
          have HO12 := Lib.hid ho12
          have hONr : OnB wr (wO.heap.size + 1) on := by rw [hon, ← HN.out]; exact hON.out
          have hRng := hONr.range
          have hS0 : Below w.heap.size w wr := bel2 HBA.out hBO.out
          have HFR := Lib.hid (HFA.out.below hBO.out)
          have HRR := Lib.hid (FS.below HRA.out hBO.out)
          have HOK := Lib.hid hOK
          have HLT := Lib.hid hONr.lt
          have ua : Tryz.prog.underlying 93 = some (.array 12 4) := Tryz.underlying93
          have ub : (Tryz.prog.info? 93).map (·.size) = some (on.map Value.bool).length := by rw [List.length_map, ho12]; kernel_rfl
          clear hok hOK hON hBO hon ho12 hONr
          obtain ⟨D, os, vf, f1, f2, f3, f4, f5, f6⟩ := HFR.out
          have HF2 := Lib.hid f2
          have HF3 := Lib.hid f3
          have HF4 := Lib.hid f4
          have HF5 := Lib.hid f5
          have HIX := Lib.hid (fun W => show Calls Tryz.prog 65 #[.agg (on.map Value.bool).toArray] W fun e w' => GivesI (ixL on 12) W e w' from indices_any on W HO12.out)
          have HOW := Lib.hid f1
          have HKM := Lib.hid (show k < maxLen by unfold maxLen; omega)
          clear f1 f2 f3 f4 f5
          obtain ⟨Fin, hFin⟩ : ∃ Fin : World → Prop, Fin = fun w' => FoundI l ps w.heap.size w.heap.size (k + 1) w' ∧ PlS w' (w.heap.size + 1) (.slice (some ⟨gr, 0, none⟩) N cap1) ps ∧ Below w.heap.size w w' := ⟨_, rfl⟩
          have HFD := Lib.hid hFin
          have HFIN := Lib.hid (show ∀ (w1 w2 : World) (v : Value), Below wr.heap.size wr w1 → IS w1 wr.heap.size v (ixL on 12) → w2.ownsMap Tryz.prog 93 hR w.heap.size (k + 1) (D.put (tkL on) (.held v)) → w1.grownBy w2 (some w.heap.size) →
              w1.ownsMap Tryz.prog 93 hR w.heap.size k D → PlS w2 (w.heap.size + 1) (.slice (some ⟨gr, 0, none⟩) N cap1) ps → Fin w2 from fun w1 w2 v b1 hv hown2 hg2 hown1 hpl => by
            have e := HONE.out
            rw [HPD.out] at e
            have hok2 := HOK.out
            rw [HPD.out] at hok2
            rw [e] at hv hown2
            rw [hFin]
            exact ⟨FoundI.put hkl hok2 hS0.size HOW.out.isMap HF2.out HF3.out HF4.out HF5.out f6 b1 hv hown2 hg2 (by obtain ⟨es, c, h, -⟩ := hown1; exact ⟨es, c, h⟩), hpl, (bel2 hS0 b1).grown hg2 (bel2 hS0 b1).size (fun j e => by cases e; exact Nat.le_refl _)⟩)
          clear hFin
          go_wp2_with fail
          refine wp_region_inv (by kernel_rfl) (fun L a' w' => ∃ s35 s36 s37 s38, a' = actC A m cap w.heap.size wO.heap.size gr N cap1 k p u7 u8 u9 u22 u23 u24 u25 u26 u27 u28 u29 u30 u31 u32 u33 u34 u39 s35 s36 s37 s38 ∧ IvC wr wO.heap.size w.heap.size on Fin L s35 s36 s37 s38 w') ?_ ?_ ?_
          · exact ⟨_, _, _, _, rfl, rfl, fun h => by simp at h, fun h => by simp at h, fun h => by simp at h, hRng, .inl ⟨by simp, by simp, rfl⟩⟩
          · rintro L a' w' i ⟨s35, s36, s37, s38, rfl, H⟩ hi
            obtain ⟨hL, o, ho, haf⟩ := mem_ready.1 hi
            have hiN : i < 5 := (Array.getElem?_eq_some_iff.1 ho).1
            clear hi
            have hRg := H.rg
            have hcs : i = 0 ∨ i = 1 ∨ i = 2 ∨ i = 3 ∨ i = 4 := by omega
            rcases hcs with rfl | rfl | rfl | rfl | rfl
            · refine wpOp_step rfl fun K' hK => ?_
              rw [if_pos (by rfl)]
              go_simp
              exact hK _ _ ⟨_, _, _, _, rfl, by rw [Array.size_setIfInBounds]; exact H.z, fun _ => rfl, fun h => H.c1 (by rwa [getD_set_ne _ (by decide)] at h), fun h => H.c2 (by rwa [getD_set_ne _ (by decide)] at h), H.rg, by simpa only [getD_set_ne _ (show (0 : Nat) ≠ 3 by decide), getD_set_ne _ (show (0 : Nat) ≠ 4 by decide)] using H.ph⟩
            · refine wpOp_step rfl fun K' hK => ?_
              rw [if_pos (by rfl)]
              refine wp_load_mid _ _ rfl _ _ rfl _ _ hRg ua rfl ub ?_
              exact hK _ _ ⟨_, _, _, _, rfl, by rw [Array.size_setIfInBounds]; exact H.z, fun h => H.c0 (by rwa [getD_set_ne _ (by decide)] at h), fun _ => rfl, fun h => H.c2 (by rwa [getD_set_ne _ (by decide)] at h), H.rg, by simpa only [getD_set_ne _ (show (1 : Nat) ≠ 3 by decide), getD_set_ne _ (show (1 : Nat) ≠ 4 by decide)] using H.ph⟩
            · refine wpOp_step rfl fun K' hK => ?_
              rw [if_pos (by rfl)]
              refine wp_load_mid _ _ rfl _ _ rfl _ _ hRg ua rfl ub ?_
              exact hK _ _ ⟨_, _, _, _, rfl, by rw [Array.size_setIfInBounds]; exact H.z, fun h => H.c0 (by rwa [getD_set_ne _ (by decide)] at h), fun h => H.c1 (by rwa [getD_set_ne _ (by decide)] at h), fun _ => rfl, H.rg, by simpa only [getD_set_ne _ (show (2 : Nat) ≠ 3 by decide), getD_set_ne _ (show (2 : Nat) ≠ 4 by decide)] using H.ph⟩
            · cases ho
              have e2 := H.c2 (haf_of haf 2 (by kernel_rfl))
              subst e2
              rcases H.ph with ⟨-, h4, rfl⟩ | ⟨h3, -⟩ | ⟨h3, -⟩
              · refine wpOp_step rfl fun K' hK => ?_
                rw [if_pos (by rfl)]
                go_simp
                refine (HIX.out _).mono ?_
                rintro e w1 ⟨r, rfl, hr1, bi⟩
                have bw1 : Below wr.heap.size wr w1 := bel2 (belN (Below.refl wr.heap.size wr) 1) bi
                obtain ⟨A2, cap2, hrv, -⟩ := hr1.parts
                exact hK _ _ ⟨_, _, _, _, rfl, by rw [Array.size_setIfInBounds]; exact H.z, fun h => H.c0 (by rwa [getD_set_ne _ (by decide)] at h), fun h => H.c1 (by rwa [getD_set_ne _ (by decide)] at h), fun h => rfl, rangeAt_below hRng HLT.out bw1, .inr (.inl ⟨getD_set_same H.z (by decide), by rw [getD_set_ne _ (by decide)]; exact h4, bw1, ⟨_, _, _, hrv⟩, hr1⟩)⟩
              · exact (notl hL h3).elim
              · exact (notl hL h3).elim
            · cases ho
              have e0 := H.c0 (haf_of haf 0 (by kernel_rfl))
              have e1 := H.c1 (haf_of haf 1 (by kernel_rfl))
              have h3 : L.getD 3 false = true := (haf_of haf 3 (by kernel_rfl))
              subst e0
              subst e1
              rcases H.ph with ⟨h3', -⟩ | ⟨-, -, bw1, hsl, hr1⟩ | ⟨-, h4, -⟩
              · rw [h3] at h3'; cases h3'
              · obtain ⟨A2, nr, cap2, rfl⟩ := id hsl
                have hown1 := own_below HOW.out bw1
                refine wpOp_step rfl fun K' hK => ?_
                refine step_mapUpdate (by rfl) (.tmp 35) (.tmp 36) (.tmp 38) 87 (by rfl) 93 36 tsKeyed Tryz.underlying87 w.heap.size k D (by rfl) hown1 HKM.out (tsV on) (.slice A2 nr cap2) (tkL on) (by rfl) (by rfl) (tk_key HO12.out) ⟨_, _, _, rfl⟩ ?_
                intro w2 hown2 hg2
                have hne : ∀ {u : Value} {T : TypeId} {s q : Nat} {zs : List Int}, FS T s w' (w.heap.size + 1) u q zs → FS T s w2 (w.heap.size + 1) u q zs := fun {u T s q zs} h => h.other hg2 fun g hg' e => by
                  have := (FS.lt h g hg').1
                  have e2 : g = w.heap.size := by simpa using e
                  omega
                refine hK _ _ ⟨_, _, _, _, rfl, by rw [Array.size_setIfInBounds]; exact H.z, fun h => rfl, fun h => rfl, fun h => H.c2 (by rwa [getD_set_ne _ (by decide)] at h), rangeAt_grown H.rg hg2 (by have := HSO.out; omega), .inr (.inr ⟨by rw [getD_set_ne _ (by decide)]; exact h3, getD_set_same H.z (by decide), HFIN.out w' w2 _ bw1 hr1 hown2 hg2 hown1 (hne (FS.below HRR.out bw1))⟩)⟩
              · exact (notl hL h4).elim
          · rintro L a' w' ⟨s35, s36, s37, s38, rfl, H⟩ hr
            have hall := ready_nil H.z (by kernel_rfl) hr
            have h4 := hall 4 (by decide)
            rcases H.ph with ⟨-, h4', -⟩ | ⟨-, h4', -⟩ | ⟨-, -, hfin⟩
            · rw [h4] at h4'; cases h4'
            · rw [h4] at h4'; cases h4'
            · have HFW := Lib.hid hfin
              clear hfin hall h4 hr H
              go_wp2
              go_roundg (N - (k + 1))
              case measure => have := HGK.out; omega
              case rel =>
                have hfin := HFW.out
                rw [HFD.out] at hfin
                exact ⟨k + 1, by omega, by omega, by go_num, Lib.hid hfin.1, Lib.hid hfin.2.1, hfin.2.2⟩
    · obtain rfl : k = N := by omega
      obtain ⟨D, os, vf, f1, f2, f3, f4, f5, f6⟩ := hF.out
      have hos : ∀ on ∈ os, on.length = 12 := fun on h => by
        obtain ⟨P, _, _, rfl⟩ := (f2 on).1 h; exact onL_len _ _ _
      have bV : Below wO.heap.size wO (wO.alloc (.cells #[.map (some w.heap.size)] 87)) := (Below.refl _ _).alloc (Nat.le_refl _) _
      have HSF := Lib.hid (sortedFunc_any 95 #[.pointer (some ⟨wO.heap.size, 0, none⟩)] (enters_of Tryz.func95 (by kernel_rfl) rfl)
        (fun xs => ∃ qs, AllOf D qs ∧ xs = qs.map (·.2)) (fun _ => True) (Maps.size D) (by have := f1.size_le; omega) (wO.alloc (.cells #[.map (some w.heap.size)] 87))
        (fun F hF hro => values_stops F 3 (hF _) hro (by omega) wO.heap.size w.heap.size k D _ (by simp) (by simp [go_sem]) (own_below f1 bV)) w.heap.size (bel2 hb bV).size
        (fun P => (lls P).Nodup ∧ ∀ x, x ∈ lls P ↔ ∃ on ∈ os, x = ixL on 12) (fun xs hx => by
          obtain ⟨qs, hq, rfl⟩ := hx
          obtain ⟨a1, P, a2, a3, a4, a5⟩ := found_all hos f3 (fun on ho => ⟨(f4 on ho).1, (f4 on ho).2.below bV⟩) f5 hq
          exact ⟨by rw [List.length_map]; omega, P, a2, a3, a4, a5⟩))
      have HF2 := Lib.hid f2
      have hbV := bel2 hb bV
      clear f1 f2 f3 f4 f5 hos bV hF hR1
      go_wp2_with fail
      refine (values_any _ _).mono ?_
      rintro e w2 ⟨rfl, rfl⟩
      go_wp2_with fail
      refine HSF.out.mono ?_
      rintro e w3 ⟨v, P, P', rfl, ⟨hnd, hm'⟩, hLS, hperm, hpw, b3⟩
      go_wp2
      try rw [Exit.noGoto_ret]
      go_ret
      have h2 := HF2.out
      rw [HNN.out] at h2
      exact ⟨v, P', rfl, hLS, sorted_cells (by rw [← HN.out]; exact hle) HALL.out h2 hnd hm' hperm hpw, bel2 hbV b3⟩
end Go.Proofs.YtcfplfjllnojoaaGreat

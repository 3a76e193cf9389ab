/-
  The edges of cells: plain mathematics.
-/
import Derived.Test.YtcfplfjllnojoaaGreatCePg
import Derived.Test.YtcfplfjllnojoaaGreatGcd
namespace Go.Proofs.YtcfplfjllnojoaaGreat
set_option linter.unusedSimpArgs false
set_option linter.unusedVariables false

/-- The place of a point among the terms'. -/
def fnI (l : List Tm) (p : Pt) : Nat := (ptsL l).idxOf p
theorem fnI_lt {l : List Tm} {p : Pt} (h : p ∈ ptsL l) : fnI l p < l.length := by
  have := List.idxOf_lt_length_iff.2 h
  rwa [ptsL_len] at this
theorem pts_pd {l : List Tm} {k : Nat} (hk : k < l.length) : (ptsL l)[k]'(by rw [ptsL_len]; exact hk) = ptO (td l k) := by
  rw [td_eq l k hk]; simp [ptsL, ptO]
theorem fnI_at {l : List Tm} {p : Pt} (h : p ∈ ptsL l) : ptO (td l (fnI l p)) = p := by
  rw [← pts_pd (fnI_lt h)]
  exact List.getElem_idxOf _
theorem fnI_first {l : List Tm} {p : Pt} {k : Nat} (hk : k < fnI l p) (hl : k < l.length) : ptO (td l k) ≠ p := by
  rw [← pts_pd hl]
  intro e
  have := List.not_of_lt_findIdx (xs := ptsL l) (p := (· == p)) (i := k) hk
  simp [e] at this
/-- Terms' points differ. -/
theorem pt_inj {l : List Tm} (hl : plB l = true) {i j : Nat} (hi : i < l.length) (hj : j < l.length) (h : ptO (td l i) = ptO (td l j)) : i = j := by
  have hs := ((plB_iff l).1 hl).2.2
  have key : ∀ a b : Nat, a < b → b < l.length → ptO (td l a) ≠ ptO (td l b) := fun a b hab hb e => by
    have h1 := List.pairwise_iff_getElem.1 hs a b (by omega) hb hab
    rw [← td_eq l a (by omega), ← td_eq l b hb] at h1
    unfold plLt at h1
    unfold ptO at e
    simp only [Prod.mk.injEq] at e
    simp only [Bool.or_eq_true, Bool.and_eq_true, decide_eq_true_eq] at h1
    omega
  rcases Nat.lt_trichotomy i j with h' | h' | h'
  · exact absurd h (key i j h' hj)
  · exact h'
  · exact absurd h.symm (key j i h' hi)
theorem fnI_is {l : List Tm} (hl : plB l = true) {m : Nat} (hm : m < l.length) : fnI l (ptO (td l m)) = m := by
  have hmem : ptO (td l m) ∈ ptsL l := by rw [← pts_pd hm]; exact List.getElem_mem _
  exact pt_inj hl (fnI_lt hmem) hm (fnI_at hmem)
/-- The polygon of a cell and its sides, as pairs of terms, the less one first. -/
def hcL (l : List Tm) (x : List Int) : List Pt := hulL (cptL l x)
def sdP (l : List Tm) (H : List Pt) (n : Nat) : List Int := [(min (fnI l (pd H n)) (fnI l (nxP H n)) : Nat), (max (fnI l (pd H n)) (fnI l (nxP H n)) : Nat)]
def sdL (l : List Tm) (x : List Int) : List (List Int) := (List.range (hcL l x).length).map (sdP l (hcL l x))
theorem sdL_len (l : List Tm) (x : List Int) : (sdL l x).length = (hcL l x).length := by simp [sdL]
theorem sdL_next (l : List Tm) (x : List Int) {k : Nat} (hk : k < (hcL l x).length) : (sdL l x).take (k + 1) = (sdL l x).take k ++ [sdP l (hcL l x) k] := by
  rw [List.take_add_one, List.getElem?_eq_getElem (by rw [sdL_len]; exact hk)]
  simp [sdL]
theorem cpt_ne {l : List Tm} {x : List Int} (h : x ∈ ceL l) : cptL l x ≠ [] := fun e => by
  have h1 := cptL_len l x
  have := cell_3 h
  rw [e] at h1; simp at h1; omega
theorem hc_mem {l : List Tm} {x : List Int} (hx : x ∈ ceL l) {q : Pt} (hq : q ∈ hcL l x) : ∃ m : Nat, (m : Int) ∈ x ∧ m < l.length ∧ ptO (td l m) = q := by
  have h1 := hul_sub (cpt_ne hx) hq
  obtain ⟨n, hn, rfl⟩ := List.mem_map.1 h1
  have := (ceL_bd hx).1 n hn
  exact ⟨n.toNat, by rwa [Int.toNat_of_nonneg this.1], by omega, rfl⟩
theorem hc_pts {l : List Tm} {x : List Int} (hx : x ∈ ceL l) {q : Pt} (hq : q ∈ hcL l x) : q ∈ ptsL l := by
  obtain ⟨m, -, hm, rfl⟩ := hc_mem hx hq
  rw [← pts_pd hm]; exact List.getElem_mem _
theorem fnI_inj {l : List Tm} {p q : Pt} (hp : p ∈ ptsL l) (hq : q ∈ ptsL l) (h : fnI l p = fnI l q) : p = q := by
  rw [← fnI_at hp, ← fnI_at hq, h]
theorem nx_of {l : List Pt} {k : Nat} (hk : k < l.length) : nxP l k = pd l ((k + 1) % l.length) := rfl
theorem hc_3 {l : List Tm} {x : List Int} (hx : x ∈ ceL l) : 3 ≤ (hcL l x).length := by
  have h := cell_area hx
  unfold hcL
  obtain ⟨H, hH⟩ : ∃ H, H = hulL (cptL l x) := ⟨_, rfl⟩
  rw [← hH] at h ⊢
  have h0 : H.length ≠ 0 := fun e => by
    rw [List.eq_nil_of_length_eq_zero e] at h
    simp [arL, arS] at h
  have h1 : H.length ≠ 1 := fun e => by
    obtain ⟨a, rfl⟩ := List.length_eq_one_iff.1 e
    simp only [arL, arS, nxP, List.length_cons, List.length_nil] at h
    rw [show (0 + 1) % (0 + 1) = 0 from rfl, crP_self] at h
    omega
  have h2 : H.length ≠ 2 := fun e => by
    match H, e with
    | [a, b], _ =>
      have : arL [a, b] = 0 + crP a b + crP b a := by simp [arL, arS, nxP, pd]
      rw [this, crP_anti a b] at h
      omega
  omega
theorem hc_le {l : List Tm} {x : List Int} (hx : x ∈ ceL l) (hl : l.length ≤ 12) : (hcL l x).length ≤ 12 := by
  have h1 := hul_le (cpt_ne hx)
  rw [cptL_len] at h1
  have := (ceL_bd hx).2.2
  unfold hcL; omega
theorem pd_inj {H : List Pt} (hn : H.Nodup) {i j : Nat} (hi : i < H.length) (hj : j < H.length) (h : pd H i = pd H j) : i = j := by
  rw [pd_eq H i hi, pd_eq H j hj] at h
  rcases Nat.lt_trichotomy i j with h' | h' | h'
  · exact absurd h (List.pairwise_iff_getElem.1 (List.nodup_iff_pairwise_ne.1 hn) i j hi hj h')
  · exact h'
  · exact absurd h.symm (List.pairwise_iff_getElem.1 (List.nodup_iff_pairwise_ne.1 hn) j i hj hi h')
theorem mod_succ {k n : Nat} (hk : k < n) : (k + 1) % n = if k + 1 = n then 0 else k + 1 := by
  split
  · next h => rw [h, Nat.mod_self]
  · exact Nat.mod_eq_of_lt (by omega)
/-- A cell's sides differ. -/
theorem sd_nodup {l : List Tm} {x : List Int} (hx : x ∈ ceL l) : (sdL l x).Nodup := by
  have h3 := hc_3 hx
  have hn : (hcL l x).Nodup := hul_nodup _
  obtain ⟨H, hH⟩ : ∃ H, H = hcL l x := ⟨_, rfl⟩
  have hp : ∀ q ∈ H, q ∈ ptsL l := fun q hq => hc_pts hx (by rw [← hH]; exact hq)
  unfold sdL
  rw [← hH] at h3 hn ⊢
  rw [List.nodup_iff_pairwise_ne, List.pairwise_map]
  refine List.Pairwise.imp_of_mem (R := fun a b : Nat => a ≠ b) ?_ (List.nodup_iff_pairwise_ne.1 List.nodup_range)
  intro a b ha hb hab e
  rw [List.mem_range] at ha hb
  unfold sdP at e
  simp only [List.cons.injEq, and_true] at e
  obtain ⟨e1, e2⟩ := e
  have ma : (a + 1) % H.length < H.length := Nat.mod_lt _ (by omega)
  have mb : (b + 1) % H.length < H.length := Nat.mod_lt _ (by omega)
  have ia : ∀ {i j : Nat}, i < H.length → j < H.length → fnI l (pd H i) = fnI l (pd H j) → i = j := fun hi hj he =>
    pd_inj hn hi hj (fnI_inj (hp _ (pd_mem hi)) (hp _ (pd_mem hj)) he)
  rw [nx_of ha, nx_of hb] at e1 e2
  have hc : (fnI l (pd H a) = fnI l (pd H b) ∧ fnI l (pd H ((a + 1) % H.length)) = fnI l (pd H ((b + 1) % H.length))) ∨ (fnI l (pd H a) = fnI l (pd H ((b + 1) % H.length)) ∧ fnI l (pd H ((a + 1) % H.length)) = fnI l (pd H b)) := by omega
  rcases hc with ⟨h1, -⟩ | ⟨h1, h2⟩
  · exact hab (ia ha hb h1)
  · have e3 := ia ha mb h1
    have e4 := ia ma hb h2
    rw [mod_succ hb] at e3
    rw [mod_succ ha] at e4
    split at e3 <;> split at e4 <;> omega
/-- How many of the first cells have an edge; and with some sides of one more. -/
def cntN (l : List Tm) (k : Nat) (e : List Int) : Nat := ((ceL l).take k).countP fun x => decide (e ∈ sdL l x)
def cntM (l : List Tm) (k : Nat) (X : List (List Int)) (e : List Int) : Nat := cntN l k e + if e ∈ X then 1 else 0
theorem cntN_zero (l : List Tm) (e : List Int) : cntN l 0 e = 0 := by simp [cntN]
theorem cntM_nil (l : List Tm) (k : Nat) (e : List Int) : cntM l k [] e = cntN l k e := by simp [cntM]
theorem cntM_next {l : List Tm} {k : Nat} {X : List (List Int)} {s : List Int} (hs : s ∉ X) (e : List Int) : cntM l k (X ++ [s]) e = cntM l k X e + if e = s then 1 else 0 := by
  unfold cntM
  by_cases h : e = s
  · subst h; simp [hs]
  · simp [h]
theorem cntN_next {l : List Tm} {k : Nat} (hk : k < (ceL l).length) {X : List (List Int)} (hX : ∀ e, e ∈ X ↔ e ∈ sdL l ((ceL l).getD k [])) (e : List Int) : cntM l k X e = cntN l (k + 1) e := by
  unfold cntM cntN
  rw [List.take_add_one, List.getElem?_eq_getElem hk, List.countP_append]
  have : (ceL l).getD k [] = (ceL l)[k] := by rw [List.getD_eq_getElem?_getD, List.getElem?_eq_getElem hk]; rfl
  rw [this] at hX
  congr 1
  by_cases h : e ∈ X
  · rw [if_pos h]; simp [(hX e).1 h]
  · rw [if_neg h]
    have h' : ¬ e ∈ sdL l (ceL l)[k] := fun h' => h ((hX e).2 h')
    simp [h']
/-- ALL EDGES, in order; those of so many cells at least. -/
def eaL (l : List Tm) : List (List Int) := setX lxL ((ceL l).flatMap (sdL l))
def edM2 (l : List Tm) (n : Nat) : List (List Int) := (eaL l).filter fun e => decide (n ≤ cntN l (ceL l).length e)
theorem edM2_inc (l : List Tm) (n : Nat) : Inc lxL (edM2 l n) := List.Pairwise.filter _ (setX_inc totLx _)
theorem cntN_pos {l : List Tm} {e : List Int} : 1 ≤ cntN l (ceL l).length e ↔ e ∈ eaL l := by
  unfold cntN eaL
  rw [List.take_length, setX_mem totLx, List.mem_flatMap]
  constructor
  · intro h
    obtain ⟨x, hx, hp⟩ := List.countP_pos_iff.1 (Nat.lt_of_lt_of_le Nat.zero_lt_one h)
    exact ⟨x, hx, of_decide_eq_true hp⟩
  · rintro ⟨x, hx, he⟩
    have : 0 < List.countP (fun x => decide (e ∈ sdL l x)) (ceL l) := List.countP_pos_iff.2 ⟨x, hx, decide_eq_true he⟩
    omega
theorem edM2_mem {l : List Tm} {n : Nat} (hn : 1 ≤ n) (e : List Int) : e ∈ edM2 l n ↔ n ≤ cntN l (ceL l).length e := by
  unfold edM2
  rw [List.mem_filter, decide_eq_true_iff]
  constructor
  · exact fun h => h.2
  · exact fun h => ⟨cntN_pos.1 (by omega), h⟩
theorem edM2_is {l : List Tm} {n : Nat} (hn : 1 ≤ n) {out : List (List Int)} (h : Inc lxL out) (hm : ∀ e, e ∈ out ↔ n ≤ cntN l (ceL l).length e) : out = edM2 l n :=
  inc_ext totLx h (edM2_inc l n) fun e => by rw [hm, edM2_mem hn]
theorem flat_len12 {l : List Tm} (h12 : l.length ≤ 12) : ((ceL l).flatMap (sdL l)).length ≤ 20736 := by
  have h1 := flat_le (sdL l) 12 (ceL l) (fun x hx => by rw [sdL_len]; exact hc_le hx h12)
  have h2 := ceL_len h12
  omega
theorem inc_le2 {out : List (List Int)} {l : List Tm} (h12 : l.length ≤ 12) (h : Inc lxL out) (hs : ∀ e ∈ out, e ∈ eaL l) : out.length ≤ 20736 := by
  have h1 := inc_le h (setX_inc totLx ((ceL l).flatMap (sdL l))) hs
  have h2 := setX_len ((ceL l).flatMap (sdL l))
  have h3 := flat_len12 h12
  omega
theorem cntN_mono (l : List Tm) (e : List Int) {k n : Nat} (h : k ≤ n) : cntN l k e ≤ cntN l n e := by
  unfold cntN
  exact List.Sublist.countP_le (List.take_sublist_take_left h)
theorem edM2_le {l : List Tm} {n : Nat} (h12 : l.length ≤ 12) : (edM2 l n).length ≤ 20736 :=
  inc_le2 h12 (edM2_inc l n) fun e he => (List.mem_filter.1 he).1
/-- Edges are pairs of terms. -/
theorem ea_pair {l : List Tm} {e : List Int} (h : e ∈ eaL l) : ∃ i k : Nat, i < k ∧ k < l.length ∧ e = [(i : Int), (k : Int)] := by
  unfold eaL at h
  rw [setX_mem totLx, List.mem_flatMap] at h
  obtain ⟨x, hx, he⟩ := h
  obtain ⟨n, hn, rfl⟩ := List.mem_map.1 he
  rw [List.mem_range] at hn
  have h3 := hc_3 hx
  have mn : (n + 1) % (hcL l x).length < (hcL l x).length := Nat.mod_lt _ (by omega)
  have p1 := hc_pts hx (pd_mem hn)
  have p2 := hc_pts hx (pd_mem mn)
  have l1 := fnI_lt p1
  have l2 := fnI_lt p2
  have hne : fnI l (pd (hcL l x) n) ≠ fnI l (pd (hcL l x) ((n + 1) % (hcL l x).length)) := fun e => by
    have := pd_inj (hul_nodup _ : (hcL l x).Nodup) hn mn (fnI_inj p1 p2 e)
    rw [mod_succ hn] at this
    split at this <;> omega
  refine ⟨_, _, ?_, ?_, rfl⟩
  · rw [nx_of hn]; omega
  · rw [nx_of hn]; omega
end Go.Proofs.YtcfplfjllnojoaaGreat
/-
  The model of edges: what its calls return.
  Condition: the slice reads as the terms that are named; they are valid.
-/
namespace Go.Proofs.YtcfplfjllnojoaaGreat
set_option linter.unusedSimpArgs false
set_option linter.unusedVariables false
open Go.ChangeShapes Go.WideShapes Go.ChangeAt Go.RowKit
open Go.Sort (grow)

theorem putX_length (s : List Int) : ∀ L : List (List Int), s ∉ L → (putX lxL s L).length = L.length + 1
  | [], _ => rfl
  | a :: t, h => by
    have h1 : a ≠ s := fun e => h (by simp [e])
    have h2 : s ∉ t := fun e => h (by simp [e])
    unfold putX
    split
    · rw [List.length_cons, putX_length s t h2, List.length_cons]
    · split
      · simp
      · next h3 h4 => exact absurd (totLx.tot (by simpa using h3) (by simpa using h4)) h1
theorem putX_same {s : List Int} {L : List (List Int)} (hL : Inc lxL L) (h : s ∈ L) : putX lxL s L = L :=
  inc_ext totLx (putX_inc totLx s hL) hL fun x => by
    rw [putX_mem totLx]
    exact ⟨fun hx => by rcases hx with rfl | hx; exact h; exact hx, .inr⟩
theorem inc_nodup {L : List (List Int)} (h : Inc lxL L) : L.Nodup := List.nodup_iff_pairwise_ne.2 (h.imp fun {a b} hab e => by rw [e, totLx.irr] at hab; cases hab)
theorem IS2.new (w : World) (a b : Int) : IS (w.alloc (.cells #[.int .i64 a, .int .i64 b] 3)) w.heap.size (.slice (some ⟨w.heap.size, 0, none⟩) 2 2) [a, b] :=
  ⟨rfl, .inr ⟨w.heap.size, 2, _, rfl, Nat.le_refl _, heap_alloc_new w _, Nat.le_refl _, by unfold maxLen; omega, rfl, rfl⟩⟩
theorem cellU' {l : List Tm} {P : VL} (hP : lls P = ceL l) {k : Nat} (hk : k < P.length) : pll P k ∈ ceL l := by
  rw [← hP, ← lls_get hk (by rw [lls_len]; exact hk)]; exact List.getElem_mem _
set_option maxHeartbeats 1000000 in
set_option maxRecDepth 100000 in
theorem ceFind_any (w : World) (B : Nat) (v : Value) (l : List Tm) (p : Pt) (h : TmS w B v l) (hp : p ∈ ptsL l) (hle : l.length ≤ 12) : Calls Tryz.prog 53 #[v, ptV p] w fun e w' => e = .returned (.int .i64 (fnI l p)) ∧ Gr w w' := by
  obtain ⟨A, cap, rfl, -, hq⟩ := TmS.parts h
  have HP := Lib.hid hq
  have hlt := fnI_lt hp
  obtain ⟨F, hF⟩ : ∃ F, F = fnI l p := ⟨_, rfl⟩
  have HF := Lib.hid (show ∀ k, k < l.length → (k < F → ptO (td l k) ≠ p) ∧ (k = F → ptO (td l k) = p) from fun k hk => ⟨fun h => fnI_first (by rw [← hF]; exact h) hk, fun h => by rw [h, hF]; exact fnI_at hp⟩)
  obtain ⟨n, hn⟩ : ∃ n, n = l.length := ⟨_, rfl⟩
  have HN := Lib.hid hn
  rw [← hF] at hlt
  rw [← hF, ← hn]
  rw [← hn] at hlt hle
  have HX := Lib.hid (P2.new w p 64)
  have HG0 := Lib.hid (gr1 w (.cells #[.int .i64 p.1, .int .i64 p.2] 64))
  clear h hq hp hF hn
  go_enter Tryz.func53, Tryz.ntmps53
  go_wp2
  go_loopw [5] (fun i wr => ∃ k : Nat, k ≤ F ∧ i = .int .i64 k ∧ Hid (Gr w wr) ∧ Hid (P2 wr w.heap.size p)) (fun i _ => F - (intOf i).toNat)
  case atStart => exact ⟨0, by omega, rfl, HG0, HX⟩
  case round =>
    clear HG0 HX
    obtain ⟨k, hk, rfl, hg, hx⟩ := hrel
    have hkl : k < l.length := by rw [← HN.out]; omega
    have hkn : (k : Int) < (n : Int) := by omega
    obtain ⟨g, rfl, hc0⟩ := HP.out k hkl
    obtain ⟨a0, a1, a2⟩ := X3.grown (X3.below hc0 hg.out.below)
    obtain ⟨b0, b1⟩ := X2.grown (i := 0) hx.out
    have HC := Lib.hid (fun W => cePoint_any (td l k) W)
    have hk0 := HF.out k hkl
    clear hc0
    by_cases he : k = F
    · have hne : ∀ W, Sem.run Tryz.prog (binOp .neq 64 (ptV (ptO (td l k))) (ptV p)) W = .ok (.bool false) W := fun W => by
        rw [nePt, (eqB_iff _ _).2 (hk0.2 he)]; rfl
      clear hk0
      subst he
      go_wp2
      refine wp_region_quiet_grown (by kernel_rfl) (by kernel_rfl) ?_
      repeat (go_big_quiet_step ((first | (go_at_call 37; refine Calls.grown_of (HC.out _)))))
      refine wpQuiet_nil ?_
      intro _ hw'
      obtain ⟨⟨nq, osq⟩, hw''⟩ := hw'
      subst hw''
      go_wp2
      go_ret
      exact ⟨rfl, hg.out.trans ⟨_, _, rfl⟩⟩
    · have hne : ∀ W, Sem.run Tryz.prog (binOp .neq 64 (ptV (ptO (td l k))) (ptV p)) W = .ok (.bool true) W := fun W => by
        rw [nePt, show eqB (ptO (td l k)) p = false by
          cases e : eqB (ptO (td l k)) p
          · rfl
          · exact absurd ((eqB_iff _ _).1 e) (hk0.1 (by omega))]
        rfl
      clear hk0
      go_wp2
      refine wp_region_quiet_grown (by kernel_rfl) (by kernel_rfl) ?_
      repeat (go_big_quiet_step ((first | (go_at_call 37; refine Calls.grown_of (HC.out _)))))
      refine wpQuiet_nil ?_
      intro _ hw'
      obtain ⟨⟨nq, osq⟩, hw''⟩ := hw'
      subst hw''
      go_wp2
      go_roundw
      case rel => exact ⟨k + 1, by omega, by go_num, Lib.hid (hg.out.trans ⟨_, _, rfl⟩), Lib.hid (X2.below (i := 0) hx.out (Gr.below ⟨_, _, rfl⟩))⟩
      case measure => simp [intOf]; omega
/-- Some of the sides, in order. -/
def SidO (l : List Tm) (x : List Int) (B k : Nat) (o : Value) (w : World) : Prop := ∃ P, LS w B o P ∧ lls P = setX lxL ((sdL l x).take k) ∧ (P.length = 0 → o = .slice none 0 0)
set_option maxHeartbeats 2000000 in
set_option maxRecDepth 100000 in
theorem ceSides_any (w : World) (B B' : Nat) (v c : Value) (l : List Tm) (x : List Int) (h : TmS w B v l) (hc : IS w B' c x) (hl : plB l = true) (hx : x ∈ ceL l) :
    Calls Tryz.prog 34 #[v, c] w fun e w' => GivesL (setX lxL (sdL l x)) w e w' := by
  have h12 := (plB_le hl).2
  have H12 := Lib.hid h12
  have H0 := Lib.hid h
  have HX := Lib.hid hx
  have hz := (ceL_bd hx).1
  have hz2 := (ceL_bd hx).2.2
  have HPT := Lib.hid (fun q (hq : q ∈ hcL l x) => hc_pts hx hq)
  have hn3 := hc_3 hx
  have hn12 := hc_le hx h12
  go_enter Tryz.func34, Tryz.ntmps34
  go_wp2_with fail
  refine (cePolygon_any w B B' v c l x h hc hl hz (by omega)).mono ?_
  rintro e w2 ⟨r, rfl, hr, b2⟩
  rw [show hulL (cptL l x) = hcL l x from rfl] at hr
  obtain ⟨H, hH⟩ : ∃ H, H = hcL l x := ⟨_, rfl⟩
  rw [← hH] at hr HPT hn3 hn12
  have HSL := Lib.hid (show (sdL l x).length = H.length by rw [hH]; exact sdL_len l x)
  have HSN := Lib.hid (fun (k : Nat) (hk : k < H.length) => show (sdL l x).take (k + 1) = (sdL l x).take k ++ [sdP l H k] by rw [hH] at hk ⊢; exact sdL_next l x hk)
  have H2 := Lib.hid (FS.below h b2)
  obtain ⟨A, cap, rfl, -, hp⟩ := PtS.parts hr
  have HP := Lib.hid hp
  obtain ⟨n, hn⟩ : ∃ n, n = H.length := ⟨_, rfl⟩
  have HN := Lib.hid hn
  rw [← hn] at hn3 hn12 ⊢
  have HB := Lib.hid b2
  have HO0 := Lib.hid (show SidO l x w2.heap.size 0 (.slice none 0 0) w2 from ⟨[], LS.nil_ _ _, by simp [lls, setX], fun _ => rfl⟩)
  clear h hc hz hz2 hr hp hH hn hx h12 b2
  go_wp2
  go_loopw [5, 16] (fun o i wr => ∃ k : Nat, k ≤ n ∧ i = .int .i64 k ∧ Hid (SidO l x w2.heap.size k o wr) ∧ Below w2.heap.size w2 wr) (fun _ i _ => n - (intOf i).toNat)
  case atStart => exact ⟨0, by omega, rfl, HO0, Below.refl _ _⟩
  case round =>
    clear HO0
    obtain ⟨k, hk, rfl, ho, hb⟩ := hrel
    by_cases hlt : k < n
    · have hkH : k < H.length := by rw [← HN.out]; exact hlt
      obtain ⟨m, hm⟩ : ∃ m, m = (k + 1) % n := ⟨_, rfl⟩
      have HMM := Lib.hid (show ((k : Int) + 1).tmod (n : Int) = (m : Int) by rw [rem_nat, hm])
      have hmn : m < n := by rw [hm]; exact Nat.mod_lt _ (by omega)
      have hmH : m < H.length := by rw [← HN.out]; exact hmn
      obtain ⟨p, hpe⟩ : ∃ p, p = pd H k := ⟨_, rfl⟩
      obtain ⟨q, hqe⟩ : ∃ q, q = pd H m := ⟨_, rfl⟩
      have HSD := Lib.hid (show sdP l H k = [((min (fnI l p) (fnI l q) : Nat) : Int), ((max (fnI l p) (fnI l q) : Nat) : Int)] by unfold sdP nxP; rw [← HN.out, ← hm, ← hpe, ← hqe])
      have hpp : p ∈ ptsL l := by rw [hpe]; exact HPT.out _ (pd_mem hkH)
      have hqp : q ∈ ptsL l := by rw [hqe]; exact HPT.out _ (pd_mem hmH)
      obtain ⟨g, rfl, hc0⟩ := HP.out k hkH
      obtain ⟨g', hg', hd0⟩ := HP.out m hmH
      cases hg'
      rw [← hpe] at hc0
      rw [← hqe] at hd0
      have hbA := hb.alloc hb.size (.cells #[.int .i64 p.1, .int .i64 p.2] 64)
      obtain ⟨c0, c1⟩ := X2.below hc0 hb
      obtain ⟨d0, d1⟩ := X2.grown (X2.below hd0 hbA)
      obtain ⟨x0, x1⟩ := X2.grown (i := 0) (P2.new wr p 64)
      have HBA := Lib.hid hbA
      have HTM := Lib.hid (FS.below H2.out hbA)
      clear hc0 hd0 hpe hqe hm
      go_wp2
      generalize hX : wr.alloc (.cells #[.int .i64 p.1, .int .i64 p.2] 64) = X at d0 d1 x0 x1 HBA HTM ⊢
      have HCF := Lib.hid (fun W r (hr : r ∈ ptsL l) (hg : Gr X W) => ceFind_any W B v l r (FS.below HTM.out hg.below) hr H12.out)
      have q1 : IntKind.i64.wrap ((k : Int) + 1) = (k : Int) + 1 := IntWalk.i64_in _ (by omega)
      have q2 : ((k : Int) + 1).tmod (n : Int) = (m : Int) := HMM.out
      have q3 : ((n : Int) == 0) = false := by simp; omega
      have q4 : ¬ (n : Int) = 0 := by omega
      have q5 : IntKind.i64.wrap (m : Int) = (m : Int) := IntWalk.i64_in _ (by omega)
      have q6 : ¬ n = 0 := by omega
      have z1 : (0 : Int) ≤ (m : Int) := by omega
      refine wp_region_quiet_grown (by kernel_rfl) (by kernel_rfl) ?_
      repeat (go_big_quiet_step ((first | (go_at_call 53; refine Calls.grown_of (HCF.out _ _ (by assumption) ⟨_, _, rfl⟩)))))
      refine wpQuiet_nil ?_
      intro _ hw'
      obtain ⟨⟨nq, osq⟩, hw''⟩ := hw'
      subst hw''
      have hG : Gr X (grow (X.drewN nq) osq) := ⟨_, _, rfl⟩
      have hsz : (grow (X.drewN nq) osq).heap.size = X.heap.size + osq.size := by simp
      have HBY := Lib.hid (bel2 HBA.out hG.below)
      have HBW := Lib.hid (show Below wr.heap.size wr (grow (X.drewN nq) osq) from bel2 (by rw [← hX]; exact (Below.refl _ wr).alloc (Nat.le_refl _) _) hG.below)
      clear hG HCF d0 d1 x0 x1 HTM HBA hX c0 c1
      go_wp2_with (first | (go_at_call 54; refine (l1Least_any _ _ _).mono ?_; rintro e w' ⟨rfl, rfl⟩) | (go_at_call 55; refine (l1Most_any _ _ _).mono ?_; rintro e w' ⟨rfl, rfl⟩) | (fail))
      rw [← hsz]
      generalize grow (X.drewN nq) osq = Y at HBY HBW hsz ⊢
      have hs1 := IS2.new Y (lessI ((fnI l p : Nat) : Int) ((fnI l q : Nat) : Int)) (max ((fnI l p : Nat) : Int) ((fnI l q : Nat) : Int))
      have hbY2 := belA1 HBY.out (.cells #[.int .i64 (lessI ((fnI l p : Nat) : Int) ((fnI l q : Nat) : Int)), .int .i64 (max ((fnI l p : Nat) : Int) ((fnI l q : Nat) : Int))] 3)
      obtain ⟨P, h1, h2, h3⟩ := ho.out
      have hP2 := (h1.below HBW.out).below ((Below.refl _ Y).alloc (Nat.le_refl _) (.cells #[.int .i64 (lessI ((fnI l p : Nat) : Int) ((fnI l q : Nat) : Int)), .int .i64 (max ((fnI l p : Nat) : Int) ((fnI l q : Nat) : Int))] 3))
      have HLT := Lib.hid (fun p' (hp' : p' ∈ P) g' (hg' : p'.1.ownBlock = some g') => ((h1.2.1 p' hp').lt g' hg').2)
      have hYs := HBW.out.size
      have hPl : P.length ≤ 12 := by
        have := setX_len ((sdL l x).take k)
        rw [← h2, lls_len, List.length_take] at this
        omega
      have HE := Lib.hid (show [lessI ((fnI l p : Nat) : Int) ((fnI l q : Nat) : Int), max ((fnI l p : Nat) : Int) ((fnI l q : Nat) : Int)] = sdP l H k by
        rw [HSD.out]
        have e1 : lessI ((fnI l p : Nat) : Int) ((fnI l q : Nat) : Int) = ((min (fnI l p) (fnI l q) : Nat) : Int) := by unfold lessI; split <;> omega
        have e2 : max ((fnI l p : Nat) : Int) ((fnI l q : Nat) : Int) = ((max (fnI l p) (fnI l q) : Nat) : Int) := by omega
        rw [e1, e2])
      have HPUT := Lib.hid (cePut_any _ w2.heap.size u5 _ P _ hP2 hbY2.size h3 (hs1.base HBY.out.size) (fun p' hp' g' hg' e => by
        have := HLT.out p' hp' g' hg'
        simp only [Value.ownBlock, Option.some.injEq] at e
        omega) (by omega))
      have HQ := Lib.hid (show ∀ P' : VL, lls P' = putX lxL [lessI ((fnI l p : Nat) : Int) ((fnI l q : Nat) : Int), max ((fnI l p : Nat) : Int) ((fnI l q : Nat) : Int)] (lls P) → lls P' = setX lxL ((sdL l x).take (k + 1)) from fun P' hP' => by
        rw [hP', HE.out, h2, HSN.out k hkH, setX_snoc])
      have HBF := Lib.hid hbY2
      clear hs1 hbY2 h1 h2 h3 hP2 HLT
      refine HPUT.out.mono ?_
      rintro e w3 ⟨r, P', rfl, hLS, hput, hnil, -, b3⟩
      have HO := Lib.hid (show SidO l x w2.heap.size (k + 1) r w3 from ⟨P', hLS, HQ.out P' hput, hnil⟩)
      have hb3 := bel2 HBF.out b3
      clear hLS hput hnil b3 HPUT HQ
      go_wp2
      go_roundw
      case rel => exact ⟨k + 1, by omega, by go_num, HO, hb3⟩
      case measure => simp [intOf]; omega
    · obtain rfl : k = n := by omega
      go_wp2
      go_ret
      obtain ⟨P, h1, h2, -⟩ := ho.out
      exact ⟨_, P, rfl, h1.base HB.out.size, by rw [h2, HN.out, ← HSL.out, List.take_length], bel2 HB.out hb⟩
/-- Both lists of edges, when the first k cells and some sides X of the next one have been looked at; the sides of R from j on lie elsewhere. -/
def EI (l : List Tm) (B k : Nat) (X : List (List Int)) (R : VL) (j : Nat) (o1 o2 : Value) (w : World) : Prop := ∃ P Q, (LS w B o1 P ∧ LS w B o2 Q) ∧ ((P.length = 0 → o1 = .slice none 0 0) ∧ (Q.length = 0 → o2 = .slice none 0 0)) ∧
  (Inc lxL (lls P) ∧ Inc lxL (lls Q)) ∧ (∀ e, (e ∈ lls P ↔ 1 ≤ cntM l k X e) ∧ (e ∈ lls Q ↔ 2 ≤ cntM l k X e)) ∧
  ∀ p, p ∈ P ∨ p ∈ Q → ∀ m, j ≤ m → m < R.length → ∀ g, p.1.ownBlock = some g → (pvl R m).ownBlock ≠ some g
theorem EI.below {l : List Tm} {B k : Nat} {X : List (List Int)} {R : VL} {j : Nat} {o1 o2 : Value} {w w' : World} (h : EI l B k X R j o1 o2 w) (hb : Below w.heap.size w w') : EI l B k X R j o1 o2 w' := by
  obtain ⟨P, Q, ⟨h1, h2⟩, h3⟩ := h
  exact ⟨P, Q, ⟨h1.below hb, h2.below hb⟩, h3⟩
theorem EI.start {l : List Tm} {B k : Nat} {o1 o2 : Value} {w w' : World} {r : Value} {R : VL} (h : EI l B k [] [] 0 o1 o2 w) (hb : Below w.heap.size w w') (hR : LS w' w.heap.size r R) : EI l B k [] R 0 o1 o2 w' := by
  obtain ⟨P, Q, ⟨h1, h2⟩, h3, h4, h5, -⟩ := h
  refine ⟨P, Q, ⟨h1.below hb, h2.below hb⟩, h3, h4, h5, fun p hp m _ hm g hg e => ?_⟩
  have a1 := (hR.2.at hm).lt g e
  have a2 : g < w.heap.size := by
    rcases hp with hp | hp
    · exact ((h1.2.1 p hp).lt g hg).2
    · exact ((h2.2.1 p hp).lt g hg).2
  omega
theorem EI.close {l : List Tm} {B k : Nat} {X : List (List Int)} {R : VL} {j : Nat} {o1 o2 : Value} {w : World} (h : EI l B k X R j o1 o2 w) (hk : k < (ceL l).length) (hX : ∀ e, e ∈ X ↔ e ∈ sdL l ((ceL l).getD k [])) : EI l B (k + 1) [] [] 0 o1 o2 w := by
  obtain ⟨P, Q, h1, h2, h3, h4, -⟩ := h
  refine ⟨P, Q, h1, h2, h3, fun e => ?_, fun p _ m _ hm => by simp at hm⟩
  rw [cntM_nil, ← cntN_next hk hX e]
  exact h4 e
theorem EI.zero (l : List Tm) (B : Nat) (w : World) : EI l B 0 [] [] 0 (.slice none 0 0) (.slice none 0 0) w :=
  ⟨[], [], ⟨LS.nil_ _ _, LS.nil_ _ _⟩, ⟨fun _ => rfl, fun _ => rfl⟩, ⟨List.Pairwise.nil, List.Pairwise.nil⟩, fun e => by simp [lls, cntM_nil, cntN_zero], fun p _ m _ hm => by simp at hm⟩
theorem cntM_le {l : List Tm} {k : Nat} {X : List (List Int)} (hk : k < (ceL l).length) (hX : ∀ e ∈ X, e ∈ sdL l ((ceL l).getD k [])) (e : List Int) : cntM l k X e ≤ cntN l (ceL l).length e := by
  have h1 : cntM l k X e ≤ cntM l k (sdL l ((ceL l).getD k [])) e := by
    unfold cntM
    by_cases h : e ∈ X
    · rw [if_pos h, if_pos (hX e h)]; exact Nat.le_refl _
    · rw [if_neg h]; split <;> omega
  rw [cntN_next hk (fun e => Iff.rfl)] at h1
  exact Nat.le_trans h1 (cntN_mono l e hk)
theorem ei_le {l : List Tm} (h12 : l.length ≤ 12) {k : Nat} {X : List (List Int)} (hk : k < (ceL l).length) (hX : ∀ e ∈ X, e ∈ sdL l ((ceL l).getD k [])) {P : VL} (hi : Inc lxL (lls P)) {n : Nat} (hn : 1 ≤ n) (hm : ∀ e, e ∈ lls P ↔ n ≤ cntM l k X e) : P.length ≤ 20736 := by
  rw [← lls_len]
  exact inc_le2 h12 hi fun e he => cntN_pos.1 (by have := (hm e).1 he; have := cntM_le hk hX e; omega)
theorem lv_apart {w : World} {B : Nat} {R : VL} (h : LV w B R) {i j : Nat} (hi : i < R.length) (hj : j < R.length) (hij : i < j) : ∀ g, (pvl R i).ownBlock = some g → (pvl R j).ownBlock ≠ some g := by
  have := List.pairwise_iff_getElem.1 h.2 i j hi hj hij
  rw [← p_eq hi, ← p_eq hj] at this
  exact this
set_option maxHeartbeats 2000000 in
set_option maxRecDepth 100000 in
theorem ceEdges_any (w : World) (B : Nat) (v : Value) (l : List Tm) (inner : Bool) (h : TmS w B v l) (hl : plB l = true) :
    Calls Tryz.prog 14 #[v, .bool inner] w fun e w' => GivesL (edM2 l (if inner = true then 2 else 1)) w e w' := by
  have HL := Lib.hid hl
  have H12 := Lib.hid (plB_le hl).2
  clear hl
  go_enter Tryz.func14, Tryz.ntmps14
  go_wp2_with fail
  refine (ceOf_any w B _ l h HL.out).mono ?_
  rintro e w2 ⟨r, C, rfl, hC, eC, b2⟩
  have H2 := Lib.hid (FS.below h b2)
  obtain ⟨A, cap, rfl, -, hp⟩ := hC.parts
  have HP := Lib.hid hp
  have HV := Lib.hid hC.2
  have HEC := Lib.hid eC
  have HB := Lib.hid b2
  have hle := ceL_len H12.out
  obtain ⟨n, hn⟩ : ∃ n, n = C.length := ⟨_, rfl⟩
  have hnc : n = (ceL l).length := by rw [hn, ← eC, lls_len]
  rw [← hnc] at hle
  have HN := Lib.hid hn
  have HNC := Lib.hid hnc
  rw [← hn]
  have HE0 := Lib.hid (EI.zero l w2.heap.size w2)
  clear h hC eC hp b2 hn hnc
  go_wp2
  go_loopw [5, 6, 15] (fun o1 o2 i wr => ∃ k : Nat, k ≤ n ∧ i = .int .i64 k ∧ Hid (EI l w2.heap.size k [] [] 0 o1 o2 wr) ∧ Below w2.heap.size w2 wr) (fun _ _ i _ => n - (intOf i).toNat)
  case atStart => exact ⟨0, by omega, rfl, HE0, Below.refl _ _⟩
  case round =>
    clear HE0
    obtain ⟨k, hk, rfl, hst, hb⟩ := hrel
    by_cases hlt : k < n
    · obtain ⟨wO, hwO⟩ : ∃ wO, wO = wr := ⟨_, rfl⟩
      rw [← hwO] at hst hb ⊢
      clear hwO wr
      have hkc : k < C.length := by rw [← HN.out]; exact hlt
      have HKL := Lib.hid (show k < (ceL l).length by rw [← HNC.out]; exact hlt)
      obtain ⟨g, rfl, hc0⟩ := HP.out k hkc
      have hc := X3.below.box_old3 hc0 hb
      have his := (HV.out.at hkc).below hb
      have hcl := cellU' HEC.out hkc
      have hcg := pll_get HEC.out hkc
      have htm := FS.below H2.out hb
      obtain ⟨cv, hcv⟩ : ∃ cv, cv = pvl C k := ⟨_, rfl⟩
      obtain ⟨zs, hzs⟩ : ∃ zs, zs = pll C k := ⟨_, rfl⟩
      rw [← hcv] at hc his
      rw [← hzs] at his hcl hcg
      clear hc0 hcv hzs
      go_wp2_with fail
      refine (ceSides_any wO B _ _ _ l zs htm his HL.out hcl).mono ?_
      rintro e w3 ⟨rs, R, rfl, hRS, hR, b3⟩
      have hX3 := Lib.hid (hst.out.start b3 hRS)
      have HRM := Lib.hid (show ∀ e, e ∈ lls R ↔ e ∈ sdL l ((ceL l).getD k []) from fun e => by rw [hR, setX_mem totLx, hcg])
      have HRN := Lib.hid (show (lls R).Nodup by rw [hR]; exact inc_nodup (setX_inc totLx _))
      obtain ⟨A3, cap3, rfl, -, hp3⟩ := hRS.parts
      have HP3 := Lib.hid hp3
      have HV3 := Lib.hid hRS.2
      have hrl : R.length ≤ 12 := by
        rw [← lls_len, hR]
        have h1 := setX_len (sdL l zs)
        have h2 := hc_le hcl H12.out
        rw [← sdL_len] at h2
        omega
      obtain ⟨nr, hnr⟩ : ∃ nr, nr = R.length := ⟨_, rfl⟩
      have HNR := Lib.hid hnr
      rw [← hnr] at hrl ⊢
      have HB3 := Lib.hid (bel2 hb b3)
      have hB3 : w2.heap.size ≤ wO.heap.size := hb.size
      have hs3 := b3.size
      clear hst hc his htm hcl hcg hRS hR hp3 b3 hb hnr
      go_wp2
      go_loopw [5, 6, 23] (fun o1 o2 i wr => ∃ j : Nat, j ≤ nr ∧ i = .int .i64 j ∧ Hid (EI l w2.heap.size k ((lls R).take j) R j o1 o2 wr) ∧ Below w3.heap.size w3 wr) (fun _ _ i _ => nr - (intOf i).toNat)
      case atStart => exact ⟨0, by omega, rfl, hX3, Below.refl _ _⟩
      case round =>
        clear hX3
        obtain ⟨j, hj, rfl, hst, hb⟩ := hrel
        by_cases hltj : j < nr
        · have hjr : j < R.length := by rw [← HNR.out]; exact hltj
          have hjl : j < (lls R).length := by rw [lls_len]; exact hjr
          obtain ⟨g3, rfl, hd0⟩ := HP3.out j hjr
          have hd := X3.below.box_old3 hd0 hb
          have his := (HV3.out.at hjr).below hb
          have HTK := Lib.hid (show (lls R).take (j + 1) = (lls R).take j ++ [pll R j] by
            rw [List.take_add_one, List.getElem?_eq_getElem hjl, lls_get hjr hjl]; rfl)
          have HNI := Lib.hid (show pll R j ∉ (lls R).take j from fun hm => by
            obtain ⟨i, hi, e⟩ := List.getElem_of_mem hm
            rw [List.length_take] at hi
            rw [List.getElem_take] at e
            have h1 : i < (lls R).length := by omega
            have := List.pairwise_iff_getElem.1 (List.nodup_iff_pairwise_ne.1 HRN.out) i j h1 hjl (by omega)
            rw [e, lls_get hjr hjl] at this
            exact this rfl)
          have HXS := Lib.hid (show ∀ e ∈ (lls R).take j, e ∈ sdL l ((ceL l).getD k []) from fun e he => (HRM.out e).1 (List.mem_of_mem_take he))
          have HAP := Lib.hid (fun m (h1 : j < m) (h2 : m < R.length) => lv_apart HV3.out hjr h2 h1)
          obtain ⟨xv, hxv⟩ : ∃ xv, xv = pvl R j := ⟨_, rfl⟩
          obtain ⟨s, hs⟩ : ∃ s, s = pll R j := ⟨_, rfl⟩
          obtain ⟨X, hX⟩ : ∃ X, X = (lls R).take j := ⟨_, rfl⟩
          rw [← hxv] at hd his HAP
          rw [← hs] at his HTK HNI
          rw [← hX] at HTK HNI HXS hst
          obtain ⟨P, Q, ⟨h1, h2⟩, ⟨n1, n2⟩, ⟨i1, i2⟩, hm, hap⟩ := hst.out
          have hPl := ei_le H12.out HKL.out HXS.out i1 (Nat.le_refl 1) (fun e => (hm e).1)
          have hQl := ei_le H12.out HKL.out HXS.out i2 (by omega : 1 ≤ 2) (fun e => (hm e).2)
          have hbW := bel2 HB3.out hb
          have hap' : ∀ p, p ∈ P ∨ p ∈ Q → ∀ g, p.1.ownBlock = some g → xv.ownBlock ≠ some g := fun p hp g hg => by rw [hxv]; exact hap p hp j (Nat.le_refl _) hjr g hg
          have his2 : IS wr w2.heap.size xv s := his.base hB3
          have HPUT := Lib.hid (cePut_any wr w2.heap.size _ xv P s h1 hbW.size n1 his2 (fun p hp => hap' p (.inl hp)) (by omega))
          have HI := Lib.hid (show (Inc lxL (lls P) ∧ Inc lxL (lls Q)) ∧ ∀ e, (e ∈ lls P ↔ 1 ≤ cntM l k X e) ∧ (e ∈ lls Q ↔ 2 ≤ cntM l k X e) from ⟨⟨i1, i2⟩, hm⟩)
          have HQ0 := Lib.hid (And.intro h2 n2)
          have HAP0 := Lib.hid hap
          have HAP1 := Lib.hid hap'
          have HIS := Lib.hid his2
          obtain ⟨A1, c1, rfl, -, -⟩ := h1.parts
          obtain ⟨p0, hp0⟩ : ∃ p0, p0 = P.length := ⟨_, rfl⟩
          have HP0 := Lib.hid hp0
          rw [← hp0] at HPUT ⊢
          clear hd0 his hxv hs hX hst h1 h2 n1 n2 i1 i2 hm hap hap' his2 hp0
          go_wp2_with fail
          refine HPUT.out.mono ?_
          rintro e w4 ⟨r4, P', rfl, hLS, hput, hnil, hsub, b4⟩
          have hb4 := bel2 hb b4
          have hQ4 := HQ0.out.1.below b4
          have hIS4 := HIS.out.below b4
          obtain ⟨A4, c4, hr4, -, -⟩ := hLS.parts
          have hlen : P'.length = (putX lxL s (lls P)).length := by rw [← hput, lls_len]
          by_cases hin : s ∈ lls P
          · have hpe : P'.length = p0 := by rw [hlen, putX_same HI.out.1.1 hin, lls_len, HP0.out]
            have HPUT2 := Lib.hid (cePut_any w4 w2.heap.size _ xv Q s hQ4 (bel2 HB3.out hb4).size HQ0.out.2 hIS4 (fun p hp => HAP1.out p (.inr hp)) (by omega))
            have HST := Lib.hid (And.intro hLS (And.intro hnil (And.intro hsub hput)))
            have HPE := Lib.hid hpe
            have HIN := Lib.hid hin
            obtain ⟨AQ, cQ, rfl, -, -⟩ := hQ4.parts
            obtain ⟨q0, hq0⟩ : ∃ q0, q0 = Q.length := ⟨_, rfl⟩
            rw [← hq0] at HPUT2 ⊢
            subst hr4
            rw [hpe] at HST ⊢
            clear hlen hin hLS hnil hsub hput hQ4 hIS4 hpe HPUT hq0 HQ0
            go_wp2_with fail
            refine HPUT2.out.mono ?_
            rintro e w5 ⟨r5, Q', rfl, hLS5, hput5, hnil5, hsub5, b5⟩
            have HE := Lib.hid (show EI l w2.heap.size k ((lls R).take (j + 1)) R (j + 1) (.slice A4 p0 c4) r5 w5 by
              obtain ⟨hLS, hnil, hsub, hput⟩ := HST.out
              obtain ⟨⟨i1, i2⟩, hm⟩ := HI.out
              refine ⟨P', Q', ⟨hLS.below b5, hLS5⟩, ⟨fun h0 => hnil (by rw [← HPE.out]; exact h0), hnil5⟩, ⟨by rw [hput]; exact putX_inc totLx _ i1, by rw [hput5]; exact putX_inc totLx _ i2⟩, fun e => ?_, fun p hp m h1 h2 g hg => ?_⟩
              · rw [hput, hput5, putX_mem totLx, putX_mem totLx, HTK.out, cntM_next HNI.out e, (hm e).1, (hm e).2]
                have := (hm s).1.1 HIN.out
                by_cases he : e = s
                · subst he; simp; omega
                · simp [he]
              · have hp' : p = (xv, s) ∨ p ∈ P ∨ p ∈ Q := by
                  rcases hp with hp | hp
                  · rcases hsub p hp with h | h
                    · exact .inl h
                    · exact .inr (.inl h)
                  · rcases hsub5 p hp with h | h
                    · exact .inl h
                    · exact .inr (.inr h)
                rcases hp' with rfl | hp'
                · exact HAP.out m (by omega) h2 g hg
                · exact HAP0.out p hp' m (by omega) h2 g hg)
            have hb5 := bel2 hb4 b5
            clear HST HPUT2 hLS5 hput5 hnil5 hsub5 b5
            go_wp2
            go_roundw
            case rel => exact ⟨j + 1, by omega, by go_num, HE, hb5⟩
            case measure => simp [intOf]; omega
          · have hpe : P'.length = p0 + 1 := by rw [hlen, putX_length _ _ hin, lls_len, HP0.out]
            have HE := Lib.hid (show EI l w2.heap.size k ((lls R).take (j + 1)) R (j + 1) r4 u6 w4 by
              obtain ⟨⟨i1, i2⟩, hm⟩ := HI.out
              refine ⟨P', Q, ⟨hLS, hQ4⟩, ⟨hnil, HQ0.out.2⟩, ⟨by rw [hput]; exact putX_inc totLx _ i1, i2⟩, fun e => ?_, fun p hp m h1 h2 g hg => ?_⟩
              · rw [hput, putX_mem totLx, HTK.out, cntM_next HNI.out e, (hm e).1, (hm e).2]
                have hs0 := (hm s).1
                by_cases he : e = s
                · subst he
                  have h0 : ¬ 1 ≤ cntM l k X e := fun h => hin (hs0.2 h)
                  simp; omega
                · simp [he]
              · have hp' : p = (xv, s) ∨ p ∈ P ∨ p ∈ Q := by
                  rcases hp with hp | hp
                  · rcases hsub p hp with h | h
                    · exact .inl h
                    · exact .inr (.inl h)
                  · exact .inr (.inr hp)
                rcases hp' with rfl | hp'
                · exact HAP.out m (by omega) h2 g hg
                · exact HAP0.out p hp' m (by omega) h2 g hg)
            subst hr4
            rw [hpe] at HE ⊢
            have hne : ¬ (((p0 + 1 : Nat) : Int) = (p0 : Int)) := by omega
            clear hlen hin hLS hnil hsub hput hQ4 hIS4 hpe HPUT HQ0
            go_wp2
            go_roundw
            case rel => exact ⟨j + 1, by omega, by go_num, HE, hb4⟩
            case measure => simp [intOf]; omega
        · obtain rfl : j = nr := by omega
          have HE := Lib.hid (hst.out.close HKL.out (fun e => by rw [HNR.out, ← lls_len, List.take_length]; exact HRM.out e))
          go_wp2
          go_roundw
          case rel => exact ⟨k + 1, by omega, by go_num, HE, bel2 HB3.out hb⟩
          case measure => simp [intOf]; omega
    · obtain rfl : k = n := by omega
      obtain ⟨P, Q, ⟨h1, h2⟩, -, ⟨i1, i2⟩, hm, -⟩ := hst.out
      have e1 : lls P = edM2 l 1 := edM2_is (Nat.le_refl 1) i1 fun e => by rw [(hm e).1, cntM_nil, HNC.out]
      have e2 : lls Q = edM2 l 2 := edM2_is (by omega) i2 fun e => by rw [(hm e).2, cntM_nil, HNC.out]
      have H1 := Lib.hid (And.intro (h1.base HB.out.size) e1)
      have H2' := Lib.hid (And.intro (h2.base HB.out.size) e2)
      clear h1 h2 i1 i2 hm e1 e2 hst
      cases inner
      · go_wp2
        go_ret
        exact ⟨_, P, rfl, H1.out.1, H1.out.2, bel2 HB.out hb⟩
      · go_wp2
        go_ret
        exact ⟨_, Q, rfl, H2'.out.1, H2'.out.2, bel2 HB.out hb⟩
end Go.Proofs.YtcfplfjllnojoaaGreat

/-
  The program's sides of a cell: what sidesOfCell returns.
  Condition: the slice reads as the terms that are named; they are valid.
-/
import Derived.Test.YtcfplfjllnojoaaGreatEdM
import Derived.Deep.RegionHeld3
import Derived.Maps.Own
import Derived.Maps.OwnOps
import Derived.Maps.Views
import Derived.DeepKeys5
import Derived.Test.YtcfplfjllnojoaaGreatCells
import Derived.WideKeyEntry
import Derived.WideKeyPair
import Derived.Maps.AppendAt
import Derived.Maps.Range
import Derived.Deep.AppendLies
import Derived.Maps.RangeWalk
namespace Go.Proofs.YtcfplfjllnojoaaGreat
set_option linter.unusedSimpArgs false
set_option linter.unusedVariables false
open Go.ChangeShapes Go.WideShapes Go.ChangeAt Go.RowKit Go.Maps
open Go.Sort (grow)

theorem ptKeyed : Keyed Tryz.prog 64 := Keyed.of_law (deep_law_gate (by kernel_rfl) (of_decide_eq_true (by kernel_rfl)) (of_decide_eq_true (by kernel_rfl)) (by kernel_rfl) (by kernel_rfl))
/-- What a point reads as among a map's keys. -/
def ptK (p : Pt) : Lit := .string (keyBytes [Lit.int .i64 p.1, Lit.int .i64 p.2])
theorem wf_i64 {a : Int} (h : -1000000 ≤ a ∧ a ≤ 1000000) : (Lit.int .i64 a).wf = true := by
  show (decide (IntKind.i64.min ≤ a) && decide (a ≤ IntKind.i64.max)) = true
  have h1 : IntKind.i64.min = -9223372036854775808 := by decide
  have h2 : IntKind.i64.max = 9223372036854775807 := by decide
  rw [h1, h2]
  simp
  omega
set_option maxRecDepth 100000 in
theorem pt_key {p : Pt} (h : Sm 1000 p) : keyOf Tryz.prog 64 (ptV p) = some (ptK p) := by
  have wa : (Lit.int .i64 p.1).wf = true := wf_i64 (by unfold Sm at h; omega)
  have wb : (Lit.int .i64 p.2).wf = true := wf_i64 (by unfold Sm at h; omega)
  have hs := Tryz.underlying64
  have hk : Tryz.prog.keyType 64 = true := by kernel_rfl
  have hc : Tryz.prog.cellsOf 64 = 2 := by kernel_rfl
  have hu := Tryz.underlying3
  have hci : Tryz.prog.cellsOf 3 = 1 := by kernel_rfl
  have hz : ∃ m, Tryz.prog.types.size = m + 1 := ⟨Tryz.prog.types.size - 1, by kernel_rfl⟩
  obtain ⟨m, hm⟩ := hz
  unfold keyOf
  simp only [hs]
  rw [if_pos (by simp [hk, Value.formed, hs, hc]), hm]
  unfold Program.keyLits
  simp only [hs, Value.cells]
  rw [if_pos (by rw [hc]; exact ⟨rfl, by kernel_rfl⟩)]
  simp only [List.mapM_cons, List.mapM_nil, hci]
  simp [Program.keyLits, hu, wa, wb, ptK]
theorem ptK_inj {p q : Pt} (hp : Sm 1000 p) (hq : Sm 1000 q) (h : ptK p = ptK q) : p = q := by
  have := ptKeyed.inj (pt_key hp) (by rw [h]; exact pt_key hq)
  simp only [ptV, Value.agg.injEq] at this
  have h1 : (#[Value.int .i64 p.1, Value.int .i64 p.2]).toList = (#[Value.int .i64 q.1, Value.int .i64 q.2]).toList := by rw [this]
  simp only [List.cons.injEq, Value.int.injEq, true_and, and_true] at h1
  exact Prod.ext h1.1 h1.2
theorem zeroI (w : World) : (zeroValue 3).run Tryz.prog w = .ok (.int .i64 0) w := by kernel_rfl
theorem pt_sm {l : List Tm} (hl : plB l = true) {p : Pt} (h : p ∈ ptsL l) : Sm 1000 p := by
  rw [← fnI_at h]; exact ptO_sm (plB_at hl (fnI_lt h))
/-- What the map of the places holds, when the first k terms of the cell have been put in. -/
def MpI (l : List Tm) (x : List Int) (b k : Nat) (w : World) : Prop := ∃ D : DataW Nat, w.ownsMap Tryz.prog 64 (plainElem Tryz.prog 3) b k D ∧ ∀ j m : Nat, j < k → gd x j = m → ∀ zd, D.atKey (ptK (ptO (td l m))) zd = .lit (.int .i64 m)
theorem mp_below {w w' : World} {b k : Nat} {D : DataW Nat} (h : w.ownsMap Tryz.prog 64 (plainElem Tryz.prog 3) b k D) (hb : Below w.heap.size w w') : w'.ownsMap Tryz.prog 64 (plainElem Tryz.prog 3) b k D := by
  have hbl := h.lt
  obtain ⟨es, clock, h1, h2, h3, h4⟩ := h
  exact ⟨es, clock, (hb.block b hbl).trans h1, h2, h3, h4⟩
theorem MpI.below {l : List Tm} {x : List Int} {b k : Nat} {w w' : World} (h : MpI l x b k w) (hb : Below w.heap.size w w') : MpI l x b k w' := by
  obtain ⟨D, h1, h2⟩ := h
  exact ⟨D, mp_below h1 hb, h2⟩
theorem MpI.put {l : List Tm} (hl : plB l = true) {x : List Int} (hx : ∀ n ∈ x, 0 ≤ n ∧ n < l.length) {b k m : Nat} {w w' : World} {D : DataW Nat} (hk : k < x.length) (hm : gd x k = m)
    (h1 : w.ownsMap Tryz.prog 64 (plainElem Tryz.prog 3) b k D) (h2 : ∀ j m : Nat, j < k → gd x j = m → ∀ zd, D.atKey (ptK (ptO (td l m))) zd = .lit (.int .i64 m))
    (h3 : w'.ownsMap Tryz.prog 64 (plainElem Tryz.prog 3) b (k + 1) (D.put (ptK (ptO (td l m))) (.lit (.int .i64 m)))) : MpI l x b (k + 1) w' := by
  have hlt : ∀ j i : Nat, j < x.length → gd x j = i → i < l.length := fun j i hj hi => by
    have := hx _ (gd_mem hj); omega
  have hml := hlt k m hk hm
  refine ⟨_, h3, fun j i hj hi zd => ?_⟩
  have hil := hlt j i (by omega) hi
  by_cases e : i = m
  · subst e
    exact atKey_put_same h1.isMap (ptKeyed.key (pt_key (ptO_sm (plB_at hl hml)))) _ _
  · rw [atKey_put_other (fun h => e (pt_inj hl hil hml (ptK_inj (ptO_sm (plB_at hl hil)) (ptO_sm (plB_at hl hml)) h)))]
    refine h2 j i ?_ hi zd
    rcases Nat.lt_succ_iff_lt_or_eq.1 hj with h | rfl
    · exact h
    · rw [hm] at hi; exact absurd (by omega) e
theorem MpI.look {l : List Tm} {x : List Int} {b : Nat} {w : World} (hl : plB l = true) (h : MpI l x b x.length w) (hx : x ∈ ceL l) {p : Pt} (hp : p ∈ hcL l x) :
    (Instr.lookup 100 (.map (some b)) (.agg #[.int .i64 p.1, .int .i64 p.2]) false).run Tryz.prog w = .ok (.int .i64 (fnI l p)) w := by
  obtain ⟨D, h1, h2⟩ := h
  obtain ⟨m, hm, hml, rfl⟩ := hc_mem hx hp
  obtain ⟨j, hj, hjm⟩ := List.getElem_of_mem hm
  rw [← gd_eq x j hj] at hjm
  obtain ⟨c, hrun, hat, -⟩ := h1.lookup_int ptKeyed Tryz.underlying100 Tryz.underlying3 (zeroI w) (pt_key (ptO_sm (plB_at hl hml)))
  rw [h2 j m hj hjm] at hat
  simp only [DataW.lit.injEq, Lit.int.injEq, true_and] at hat
  rw [fnI_is hl hml]
  rw [← hat] at hrun
  exact hrun
/-- The sides of a cell, one behind the other. -/
def sdF (l : List Tm) (x : List Int) : List Int := (sdL l x).flatten
theorem infoPair : (Tryz.prog.info? 51).map (fun i => (i.zero, i.size, i.bytes)) = some (some (.agg #[.int .i64 0, .int .i64 0]), 2, 16) := by kernel_rfl
theorem flat2_gd : ∀ (L : List (List Int)) (a b : Nat → Int) (n : Nat), L = (List.range n).map (fun k => [a k, b k]) → L.flatten.length = n * 2 ∧ ∀ k, k < n → gd L.flatten (k * 2) = a k ∧ gd L.flatten (k * 2 + 1) = b k
  | _, a, b, 0, rfl => ⟨rfl, fun k hk => absurd hk (Nat.not_lt_zero k)⟩
  | _, a, b, n + 1, rfl => by
    obtain ⟨h1, h2⟩ := flat2_gd _ a b n rfl
    rw [List.range_succ, List.map_append, List.flatten_append]
    simp only [List.map_cons, List.map_nil, List.flatten_cons, List.flatten_nil, List.append_nil]
    refine ⟨by rw [List.length_append, h1]; simp; omega, fun k hk => ?_⟩
    rcases Nat.lt_succ_iff_lt_or_eq.1 hk with h | rfl
    · obtain ⟨e1, e2⟩ := h2 k h
      have l1 : k * 2 < ((List.range n).map (fun k => [a k, b k])).flatten.length := by rw [h1]; omega
      have l2 : k * 2 + 1 < ((List.range n).map (fun k => [a k, b k])).flatten.length := by rw [h1]; omega
      unfold gd at e1 e2 ⊢
      rw [List.getD_eq_getElem?_getD, List.getElem?_append_left l1, ← List.getD_eq_getElem?_getD, e1, List.getD_eq_getElem?_getD, List.getElem?_append_left l2, ← List.getD_eq_getElem?_getD, e2]
      exact ⟨rfl, rfl⟩
    · unfold gd
      rw [List.getD_eq_getElem?_getD, List.getElem?_append_right (by rw [h1]; exact Nat.le_refl _), List.getD_eq_getElem?_getD, List.getElem?_append_right (by rw [h1]; omega), h1]
      simp
theorem sdF_gd (l : List Tm) (x : List Int) : (sdF l x).length = (hcL l x).length * 2 ∧ ∀ k, k < (hcL l x).length → gd (sdF l x) (k * 2) = ((min (fnI l (pd (hcL l x) k)) (fnI l (nxP (hcL l x) k)) : Nat) : Int) ∧ gd (sdF l x) (k * 2 + 1) = ((max (fnI l (pd (hcL l x) k)) (fnI l (nxP (hcL l x) k)) : Nat) : Int) :=
  flat2_gd (sdL l x) _ _ _ rfl
set_option maxHeartbeats 2000000 in
set_option maxRecDepth 100000 in
theorem sidesOfCell_any (w : World) (B B' : Nat) (v c : Value) (l : List Tm) (x : List Int) (h : TmS w B v l) (hc : IS w B' c x) (hl : plB l = true) (hx : x ∈ ceL l) :
    Calls Tryz.prog 44 #[v, c] w fun e w' => ∃ r, e = .returned r ∧ FS 51 2 w' w.heap.size r (sdL l x).length (sdF l x) ∧ Below w.heap.size w w' := by
  have HL := Lib.hid hl
  have h12 := (plB_le hl).2
  have HX := Lib.hid hx
  have HZ := Lib.hid (ceL_bd hx).1
  have hz2 := (ceL_bd hx).2.2
  have H0 := Lib.hid h
  have HC0 := Lib.hid hc
  obtain ⟨A, cap, rfl, -, hp⟩ := TmS.parts h
  have HP := Lib.hid hp
  obtain ⟨A', cap', rfl, -, hp'⟩ := hc.parts
  have HPC := Lib.hid hp'
  obtain ⟨nl, hnl⟩ : ∃ nl, nl = l.length := ⟨_, rfl⟩
  have HNL := Lib.hid hnl
  obtain ⟨nz, hnz⟩ : ∃ nz, nz = x.length := ⟨_, rfl⟩
  have HNZ := Lib.hid hnz
  rw [← hnl] at h12 hz2 ⊢
  rw [← hnz] at hz2 ⊢
  have hmm := @run_makeMap Tryz.prog
  have hbM : Below w.heap.size w (w.alloc (.map #[] 0)) := (Below.refl _ _).alloc (Nat.le_refl _) _
  have HM0 := Lib.hid (show MpI l x w.heap.size 0 (w.alloc (.map #[] 0)) from ⟨.map [], World.ownsMap_made _ _ _ _, fun j m hj => absurd hj (Nat.not_lt_zero j)⟩)
  clear h hc hp hp' hl hx hnl hnz
  go_enter Tryz.func44, Tryz.ntmps44
  go_wp2
  go_loopw [17] (fun i wr => ∃ k : Nat, k ≤ nz ∧ i = .int .i64 k ∧ Hid (MpI l x w.heap.size k wr) ∧ Below w.heap.size w wr) (fun i _ => nz - (intOf i).toNat)
  case atStart => exact ⟨0, by omega, rfl, HM0, hbM⟩
  case round =>
    clear HM0 hbM hmm
    obtain ⟨k, hk, rfl, hmp, hb⟩ := hrel
    by_cases hlt : k < nz
    · have hkz : k < x.length := by rw [← HNZ.out]; exact hlt
      obtain ⟨m, hm⟩ : ∃ m : Nat, gd x k = m := ⟨(gd x k).toNat, by have := HZ.out _ (gd_mem hkz); omega⟩
      have hml : m < l.length := by have := HZ.out _ (gd_mem hkz); omega
      obtain ⟨g, rfl, hc0⟩ := HPC.out k hkz
      obtain ⟨g1, rfl, ht0⟩ := HP.out m hml
      have hc1 := X3.below.box_old3 hc0 hb
      obtain ⟨c0, c1, c2⟩ := X3.below ht0 hb
      rw [hm] at hc1
      have hmn : m < nl := by rw [HNL.out]; exact hml
      have l1 : ((m : Nat) : Int) < (nl : Int) := by omega
      have l2 : (0 : Int) ≤ (m : Int) := by omega
      have HSM := Lib.hid (ptO_sm (plB_at HL.out hml))
      have HM := Lib.hid hm
      have HKZ := Lib.hid hkz
      clear hc0 ht0 hm hkz
      go_wp2_with fail
      refine (pointOf_any _ _).mono ?_
      rintro e w3 ⟨rfl, hg⟩
      have hb3 := bel2 hb hg.below
      obtain ⟨D, hD1, hD2⟩ := hmp.out.below hg.below
      have HD2 := Lib.hid hD2
      clear hg c0 c1 c2 hc1 hb hmp hD2
      go_wp2_with (at_mapUpdate; refine wpList_mapUpdate_own _ rfl _ _ _ 100 rfl 64 3 ptKeyed Tryz.underlying100 _ w.heap.size k D rfl hD1 (by unfold maxLen; omega) _ _ (ptK (ptO (td l m))) rfl rfl (pt_key HSM.out) _ [] (plainElem_int Tryz.underlying3 (wf_i64 (by omega))) ?_; intro w4 hown4 hgrow4)
      have HMP := Lib.hid (MpI.put HL.out HZ.out HKZ.out HM.out hD1 HD2.out hown4)
      have hb4 : Below w.heap.size w w4 := hb3.grown hgrow4 hb3.size (fun j e => by cases e; exact Nat.le_refl _)
      clear hown4 hgrow4 hD1 HD2 hb3
      go_wp2
      go_roundw
      case rel => exact ⟨k + 1, by omega, by go_num, HMP, hb4⟩
      case measure => simp [intOf]; omega
    · obtain rfl : k = nz := by omega
      rw [HNZ.out] at hmp
      go_wp2_with fail
      refine (polygonOfCell_any wr B B' _ _ l x (by rw [HNL.out]; exact FS.below H0.out hb) (by rw [HNZ.out]; exact HC0.out.below hb) HL.out HZ.out (by rw [← HNZ.out]; omega)).mono ?_
      rintro e w2 ⟨r, rfl, hr, b2⟩
      rw [show hulL (cptL l x) = hcL l x from rfl] at hr
      have hn12 := hc_le HX.out (by rw [← HNL.out]; exact h12)
      have hn3 := hc_3 HX.out
      have HPT := Lib.hid (fun q (hq : q ∈ hcL l x) (W : World) (hW : MpI l x w.heap.size x.length W) => MpI.look HL.out hW HX.out hq)
      have HF := Lib.hid (sdF_gd l x)
      have HSL := Lib.hid (sdL_len l x)
      have HMP := Lib.hid (hmp.out.below b2)
      have HB := Lib.hid (bel2 hb b2)
      obtain ⟨H, hH⟩ : ∃ H, H = hcL l x := ⟨_, rfl⟩
      rw [← hH] at hr hn12 hn3 HPT HF HSL
      obtain ⟨AH, capH, rfl, -, hpH⟩ := PtS.parts hr
      have HPH := Lib.hid hpH
      obtain ⟨n, hn⟩ : ∃ n, n = H.length := ⟨_, rfl⟩
      have HN := Lib.hid hn
      rw [← hn] at hn12 hn3 ⊢
      obtain ⟨fs, hfs⟩ : ∃ fs, fs = sdF l x := ⟨_, rfl⟩
      rw [← hfs] at HF
      have HFS := Lib.hid hfs
      have HFL := Lib.hid (show fs.length = n * 2 by rw [hn]; exact HF.out.1)
      obtain ⟨i0, hi, hz0, hz1, hz2'⟩ := info_parts infoPair
      have hB2 : w2.heap.size ≤ w2.heap.size := Nat.le_refl _
      clear hmp hb b2 hr hH hpH hn hfs
      go_wp2_with (refine wpList_make_full _ rfl _ _ 71 rfl w2.heap.size 51 i0 (.agg #[.int .i64 0, .int .i64 0]) 2 Tryz.underlying71 hi hz0 hz1 .i64 .i64 _ _ n rfl rfl rfl rfl (by rw [hz2']; omega) (by simp only [maxLen]; omega) (Nat.le_refl _) ?_; intro w5 hown hgrow)
      have hrow0 : w5.ownsRow w2.heap.size 51 2 (.slice (some ⟨w2.heap.size, 0, none⟩) n n) n (ints (part fs 0)) := by
        rw [show (madeCells (.agg #[.int .i64 0, .int .i64 0] : Value).cells (n * 2)).toList = ints (part fs 0) from by
          rw [show part fs 0 = List.replicate (n * 2) 0 by simp [part, HFL.out]]
          exact made_ints 2 _ (by omega)] at hown
        exact hown
      have hb0 : Below w2.heap.size w2 w5 := (Below.refl _ _).grown hgrow (Nat.le_refl _) (fun _ h => by cases h)
      clear hown hgrow
      go_wp2
      go_loopw [37] (fun i wr => ∃ j : Nat, j ≤ n ∧ i = .int .i64 j ∧ wr.ownsRow w2.heap.size 51 2 (.slice (some ⟨w2.heap.size, 0, none⟩) n n) n (ints (part fs (j * 2))) ∧ Below w2.heap.size w2 wr) (fun i _ => n - (intOf i).toNat)
      case atStart => exact ⟨0, by omega, rfl, by rw [Nat.zero_mul]; exact hrow0, hb0⟩
      case round =>
        obtain ⟨j, hj, rfl, hrow, hb⟩ := hrel
        clear hrow0 hb0
        by_cases hlt : j < n
        · have hl := HFL.out
          have hjH : j < H.length := by rw [← HN.out]; exact hlt
          obtain ⟨m, hm⟩ : ∃ m, m = (j + 1) % n := ⟨_, rfl⟩
          have HMM := Lib.hid (show ((j : Int) + 1).tmod (n : Int) = (m : Int) by rw [rem_nat, hm])
          have hmn : m < n := by rw [hm]; exact Nat.mod_lt _ (by omega)
          have hmH : m < H.length := by rw [← HN.out]; exact hmn
          obtain ⟨p, hpe⟩ : ∃ p, p = pd H j := ⟨_, rfl⟩
          obtain ⟨q, hqe⟩ : ∃ q, q = pd H m := ⟨_, rfl⟩
          have HG := Lib.hid (show gd fs (j * 2) = ((min (fnI l p) (fnI l q) : Nat) : Int) ∧ gd fs (j * 2 + 1) = ((max (fnI l p) (fnI l q) : Nat) : Int) by
            have := HF.out.2 j hjH
            unfold nxP at this
            rw [← HN.out, ← hm, ← hpe, ← hqe] at this
            exact this)
          have HMW := Lib.hid (HMP.out.below (hb.alloc hb.size (.cells #[.int .i64 p.1, .int .i64 p.2] 64)))
          have hlp : ∀ k, (Instr.lookup 100 (.map (some w.heap.size)) (.agg #[.int .i64 p.1, .int .i64 p.2]) false).run Tryz.prog ((wr.alloc (.cells #[.int .i64 p.1, .int .i64 p.2] 64)).drewN k) = .ok (.int .i64 (fnI l p)) ((wr.alloc (.cells #[.int .i64 p.1, .int .i64 p.2] 64)).drewN k) := fun k => HPT.out p (by rw [hpe]; exact pd_mem hjH) _ (HMW.out.below (belN (Below.refl _ _) k))
          have hlq : ∀ k, (Instr.lookup 100 (.map (some w.heap.size)) (.agg #[.int .i64 q.1, .int .i64 q.2]) false).run Tryz.prog ((wr.alloc (.cells #[.int .i64 p.1, .int .i64 p.2] 64)).drewN k) = .ok (.int .i64 (fnI l q)) ((wr.alloc (.cells #[.int .i64 p.1, .int .i64 p.2] 64)).drewN k) := fun k => HPT.out q (by rw [hqe]; exact pd_mem hmH) _ (HMW.out.below (belN (Below.refl _ _) k))
          obtain ⟨g, rfl, hc0⟩ := HPH.out j hjH
          obtain ⟨g', hg', hd0⟩ := HPH.out m hmH
          cases hg'
          rw [← hpe] at hc0
          rw [← hqe] at hd0
          obtain ⟨c0, c1⟩ := X2.below hc0 hb
          obtain ⟨d0, d1⟩ := X2.below hd0 hb
          have lg : g < wr.heap.size := cell_lt d0
          have q1 : IntKind.i64.wrap ((j : Int) + 1) = (j : Int) + 1 := IntWalk.i64_in _ (by omega)
          have q2 : ((j : Int) + 1).tmod (n : Int) = (m : Int) := HMM.out
          have q3 : ((n : Int) == 0) = false := by simp; omega
          have q4 : ¬ (n : Int) = 0 := by omega
          have q5 : IntKind.i64.wrap (m : Int) = (m : Int) := IntWalk.i64_in _ (by omega)
          have z1 : (0 : Int) ≤ (m : Int) := by omega
          have hrowA := World.ownsRow.alloc hrow (.cells #[.int .i64 p.1, .int .i64 p.2] 64)
          have hbA := hb.alloc hb.size (.cells #[.int .i64 p.1, .int .i64 p.2] 64)
          have HRA := Lib.hid hrowA
          have HBA := Lib.hid hbA
          clear hc0 hd0 hpe hqe hm hrow hb HMW hrowA hbA
          go_wp2
          go_quiet (fail)
          have hrow' := sl_below HRA.out (belN (Below.refl _ _) nq)
          have hb' := belN HBA.out nq
          clear c0 c1 d0 d1 hlp hlq lg q1 q2 q3 q4 q5 z1
          generalize (wr.alloc (.cells #[.int .i64 p.1, .int .i64 p.2] 64)).drewN nq = Y at hrow' hb' ⊢
          obtain ⟨a, ha⟩ : ∃ a, a = fnI l p := ⟨_, rfl⟩
          obtain ⟨b, hb2⟩ : ∃ b, b = fnI l q := ⟨_, rfl⟩
          rw [← ha, ← hb2] at HG
          rw [← ha, ← hb2]
          clear ha hb2
          have e0 : gd fs (j * 2) = min (a : Int) (b : Int) := by rw [HG.out.1]; omega
          have e1 : gd fs (j * 2 + 1) = max (a : Int) (b : Int) := by rw [HG.out.2]; omega
          have f0 := World.ownsRow.frozenAt hrow' (j * 2)
          have f1 := World.ownsRow.frozenAt hrow' (j * 2 + 1)
          have hcell : ∀ q, q < n * 2 → Y.cell? ⟨w2.heap.size, q, none⟩ = some (.int .i64 (gd (part fs (j * 2)) q)) := fun q hq => by
            rw [World.ownsRow.cellAt hrow' q hq, getD_ints _ q (by rw [part_len fs _ (by omega)]; omega)]
          have d0 := hcell (j * 2) (by omega)
          have d1 := hcell (j * 2 + 1) (by omega)
          have s0 := World.ownsRow.stored hrow' (j * 2) (.int .i64 (gd fs (j * 2)))
          have s1 := World.ownsRow.stored s0.1 (j * 2 + 1) (.int .i64 (gd fs (j * 2 + 1)))
          have hrow3 := s1.1
          rw [show ((ints (part fs (j * 2))).set (j * 2) (.int .i64 (gd fs (j * 2)))).set (j * 2 + 1) (.int .i64 (gd fs (j * 2 + 1))) = ints (part fs ((j + 1) * 2)) from by rw [← partP_pt fs j (by omega)]; unfold ints; simp only [List.map_set]] at hrow3
          have hb3 := (hb'.setCell (p := ⟨w2.heap.size, j * 2, none⟩) hB2 (.int .i64 (gd fs (j * 2)))).setCell (p := ⟨w2.heap.size, j * 2 + 1, none⟩) hB2 (.int .i64 (gd fs (j * 2 + 1)))
          rw [e0, e1] at hrow3 hb3
          have HH := Lib.hid (And.intro hrow3 hb3)
          clear s0 s1 hrow3 hb3 hrow' hcell hl e0 e1 hb'
          go_wp2
          go_roundw
          case rel => exact ⟨j + 1, by omega, by go_num, HH.out.1, HH.out.2⟩
          case measure => simp [intOf]; omega
        · obtain rfl : j = n := by omega
          have hl := HFL.out
          rw [part_end fs _ (by omega)] at hrow
          have hrs : FS 51 2 wr w2.heap.size (.slice (some ⟨w2.heap.size, 0, none⟩) j j) (sdL l x).length (sdF l x) := by
            rw [HSL.out, ← HN.out, ← HFS.out]
            exact hrow
          clear hrow hl
          go_wp2
          go_ret
          exact ⟨_, rfl, FS.base hrs HB.out.size, bel2 HB.out hb⟩
end Go.Proofs.YtcfplfjllnojoaaGreat
/-
  The program's cells at edges: a map of slices by pairs, an entry at a time.
  Condition: the slice reads as the terms that are named; they are valid.
-/
namespace Go.Proofs.YtcfplfjllnojoaaGreat
set_option linter.unusedSimpArgs false
set_option linter.unusedVariables false
open Go.ChangeShapes Go.WideShapes Go.ChangeAt Go.RowKit Go.Maps
open Go.Sort (grow)
open Go.ChangeMaps (setBlock heap_setBlock_same heap_setBlock_other)

theorem prLaw : WideMaps.KeyLaw Tryz.prog 51 := deep_law_gate (by kernel_rfl) (of_decide_eq_true (by kernel_rfl)) (of_decide_eq_true (by kernel_rfl)) (by kernel_rfl) (by kernel_rfl)
theorem prKeyed : Keyed Tryz.prog 51 := Keyed.of_law prLaw
/-- What a pair reads as among a map's keys. -/
def prK (e : List Int) : Lit := .string (keyBytes [Lit.int .i64 (gd e 0), Lit.int .i64 (gd e 1)])
set_option maxRecDepth 100000 in
theorem pr_key {a b : Int} (ha : -1000000 ≤ a ∧ a ≤ 1000000) (hb : -1000000 ≤ b ∧ b ≤ 1000000) : keyOf Tryz.prog 51 (.agg #[.int .i64 a, .int .i64 b]) = some (prK [a, b]) := by
  have wa : (Lit.int .i64 a).wf = true := wf_i64 ha
  have wb : (Lit.int .i64 b).wf = true := wf_i64 hb
  have hs := Tryz.underlying51
  have hk : Tryz.prog.keyType 51 = true := by kernel_rfl
  have hc : Tryz.prog.cellsOf 51 = 2 := by kernel_rfl
  have hu := Tryz.underlying3
  have hci : Tryz.prog.cellsOf 3 = 1 := by kernel_rfl
  have hz : ∃ m, Tryz.prog.types.size = m + 1 := ⟨Tryz.prog.types.size - 1, by kernel_rfl⟩
  obtain ⟨m, hm⟩ := hz
  unfold keyOf
  simp only [hs]
  rw [if_pos (by simp [hk, Value.formed, hs, hc]), hm]
  unfold Program.keyLits
  simp only [hs, Value.cells]
  rw [if_pos (by rw [hc]; rfl)]
  rw [show List.range 2 = [0, 1] from rfl]
  simp only [List.mapM_cons, List.mapM_nil, hci]
  simp [Program.keyLits, hu, wa, wb, prK, gd]
theorem prK_inj {a b c d : Int} (ha : -1000000 ≤ a ∧ a ≤ 1000000) (hb : -1000000 ≤ b ∧ b ≤ 1000000) (hc : -1000000 ≤ c ∧ c ≤ 1000000) (hd : -1000000 ≤ d ∧ d ≤ 1000000) (h : prK [a, b] = prK [c, d]) : a = c ∧ b = d := by
  have := prKeyed.inj (pr_key ha hb) (by rw [h]; exact pr_key hc hd)
  simp only [Value.agg.injEq] at this
  have h1 : (#[Value.int .i64 a, Value.int .i64 b]).toList = (#[Value.int .i64 c, Value.int .i64 d]).toList := by rw [this]
  simpa using h1
theorem nodup_key {es : List MapEntry} (h : (es.map (·.key)).Nodup) {a b : MapEntry} (ha : a ∈ es) (hb : b ∈ es) (he : a.key = b.key) : a = b := by
  obtain ⟨i, hi, rfl⟩ := List.getElem_of_mem ha
  obtain ⟨j, hj, rfl⟩ := List.getElem_of_mem hb
  have hp := List.pairwise_iff_getElem.1 (List.nodup_iff_pairwise_ne.1 h)
  rcases Nat.lt_trichotomy i j with h' | h' | h'
  · exact absurd (by rw [List.getElem_map, List.getElem_map]; exact he) (hp i j (by simpa using hi) (by simpa using hj) h')
  · subst h'; rfl
  · exact absurd (by rw [List.getElem_map, List.getElem_map]; exact he.symm) (hp j i (by simpa using hj) (by simpa using hi) h')
/-- m[k] = append(m[k], ..): the entry, and the store through it. -/
theorem map_entry {P : Program} {w : World} {t k e : TypeId} {b n : Nat} {D : DataW Value} (h : w.ownsMap P k hR b n D) (K : WideMaps.KeyLaw P k) (ht : P.underlying t = some (.map k e)) (hz : ∀ u : World, (zeroValue e).run P u = .ok (.slice none 0 0) u)
    (hn : n < maxLen) {key : Value} {kl : Lit} (hkey : keyOf P k key = some kl) :
    ∃ v0 st w1, (Instr.mapEntry t (.map (some b)) key).run P w = .ok (.tuple #[v0, goInt st]) w1 ∧ w.grownBy w1 (some b) ∧
      (((∀ zd, D.atKey kl zd = .held v0) ∧ IsSl v0) ∨ ((∀ zd, D.atKey kl zd = zd) ∧ v0 = .slice none 0 0)) ∧
      ∀ (w2 : World) (val : Value), w2.heap[b]? = w1.heap[b]? → IsSl val → ∃ w3, (Instr.entryStore t (.map (some b)) (goInt st) val).run P w2 = .ok () w3 ∧ w3.ownsMap P k hR b (n + 1) (D.put kl (.held val)) ∧ w2.grownBy w3 (some b) := by
  have hown := h
  have Kd := Keyed.of_law K
  obtain ⟨es, clock, hb, F, hs, hD⟩ := h
  obtain ⟨v0, st, es1, clock1, hrun, hv0, hst⟩ := Go.WideElems.entry_then_store K ht hz hb F hkey
  refine ⟨v0, st, _, hrun, ⟨rfl, rfl, rfl, by simp [setBlock], fun i _ hi => heap_setBlock_other hb _ (fun e => hi (by rw [e]))⟩, ?_, fun w2 val hw2 hsl => ?_⟩
  · rw [hD]
    rcases Maps.fit_look false Kd ht (hz w) hb F hkey with ⟨_, hno, hat⟩ | ⟨e0, y, hm, hk0, _, hR0, hat, _⟩
    · rcases hv0 with ⟨e1, hm1, hk1, _⟩ | ⟨_, h⟩
      · exact absurd hk1 (hno e1 hm1)
      · exact .inr ⟨hat, h⟩
    · obtain ⟨hsl, rfl⟩ := hR_inv hR0
      rcases hv0 with ⟨e1, hm1, hk1, rfl⟩ | ⟨hno, _⟩
      · obtain rfl := nodup_key F.stamped.2.2 hm1 hm (hk1.trans hk0.symm)
        exact .inl ⟨hat, hsl⟩
      · exact absurd hk0 (hno e0 hm)
  · rw [heap_setBlock_same hb] at hw2
    obtain ⟨es', clock', hrun2, hup⟩ := hst w2 val hw2
    obtain ⟨w', hup', hown', -⟩ := hown.update Kd ht hn hkey (hR_yes hsl)
    rw [hup] at hup'
    have hw' : setBlock w b (.map es' clock') = w' := by
      injection hup'
    subst hw'
    refine ⟨_, hrun2, ?_, ⟨rfl, rfl, rfl, by simp [setBlock], fun i _ hi => heap_setBlock_other hw2 _ (fun e => hi (by rw [e]))⟩⟩
    obtain ⟨es2, c2, hb2, r⟩ := hown'
    rw [heap_setBlock_same hb] at hb2
    exact ⟨es2, c2, (heap_setBlock_same hw2 _).trans hb2, r⟩
end Go.Proofs.YtcfplfjllnojoaaGreat
/-
  The program's cells at edges: what cellsAtEdges returns.
  Condition: the slice reads as the terms that are named; they are valid.
-/
namespace Go.Proofs.YtcfplfjllnojoaaGreat
set_option linter.unusedSimpArgs false
set_option linter.unusedVariables false
open Go.ChangeShapes Go.WideShapes Go.ChangeAt Go.RowKit Go.Maps
open Go.Sort (grow)

/-- The numbers of the first cells that have an edge; and with some sides of one more. -/
def clL (l : List Tm) (k : Nat) (e : List Int) : List Int := ((List.range k).filter fun c : Nat => decide (e ∈ sdL l ((ceL l).getD c []))).map fun c : Nat => (c : Int)
def clM (l : List Tm) (k : Nat) (X : List (List Int)) (e : List Int) : List Int := clL l k e ++ if e ∈ X then [(k : Int)] else []
theorem clM_nil (l : List Tm) (k : Nat) (e : List Int) : clM l k [] e = clL l k e := by simp [clM]
theorem clM_same {l : List Tm} {k : Nat} {X : List (List Int)} {s : List Int} (hs : s ∉ X) : clM l k (X ++ [s]) s = clM l k X s ++ [(k : Int)] := by simp [clM, hs]
theorem clM_other {l : List Tm} {k : Nat} {X : List (List Int)} {s e : List Int} (h : e ≠ s) : clM l k (X ++ [s]) e = clM l k X e := by simp [clM, h]
theorem clN_next {l : List Tm} {k : Nat} {X : List (List Int)} (hX : ∀ e, e ∈ X ↔ e ∈ sdL l ((ceL l).getD k [])) (e : List Int) : clM l k X e = clL l (k + 1) e := by
  unfold clM clL
  rw [List.range_succ, List.filter_append, List.map_append]
  congr 1
  by_cases h : e ∈ X
  · rw [if_pos h, List.filter_cons_of_pos (by simpa using (hX e).1 h)]; rfl
  · rw [if_neg h, List.filter_cons_of_neg (by simpa using fun h' => h ((hX e).2 h'))]; rfl
theorem clL_len (l : List Tm) (e : List Int) : ∀ k, k ≤ (ceL l).length → (clL l k e).length = cntN l k e
  | 0, _ => by simp [clL, cntN]
  | k + 1, hk => by
    have ih := clL_len l e k (by omega)
    have hX : ∀ e, e ∈ sdL l ((ceL l).getD k []) ↔ e ∈ sdL l ((ceL l).getD k []) := fun _ => Iff.rfl
    rw [← clN_next hX, ← cntN_next hk hX]
    unfold clM cntM
    rw [List.length_append, ih]
    split <;> rfl
theorem clM_ea {l : List Tm} {k : Nat} (hk : k ≤ (ceL l).length) {X : List (List Int)} (hX : ∀ e ∈ X, k < (ceL l).length ∧ e ∈ sdL l ((ceL l).getD k [])) {e : List Int} (h : clM l k X e ≠ []) : e ∈ eaL l := by
  unfold clM at h
  by_cases he : e ∈ X
  · obtain ⟨h1, h2⟩ := hX e he
    unfold eaL
    rw [setX_mem totLx, List.mem_flatMap]
    refine ⟨_, ?_, h2⟩
    rw [List.getD_eq_getElem?_getD, List.getElem?_eq_getElem h1]
    exact List.getElem_mem h1
  · rw [if_neg he, List.append_nil] at h
    have h1 := clL_len l e k hk
    have h2 : (clL l k e).length ≠ 0 := fun h0 => h (List.eq_nil_of_length_eq_zero h0)
    exact cntN_pos.1 (by have := cntN_mono l e hk; omega)
theorem prK_ea {l : List Tm} (h12 : l.length ≤ 12) {e e' : List Int} (h : e ∈ eaL l) (h' : e' ∈ eaL l) (he : prK e = prK e') : e = e' := by
  obtain ⟨i, k, h1, h2, rfl⟩ := ea_pair h
  obtain ⟨i', k', h3, h4, rfl⟩ := ea_pair h'
  obtain ⟨e1, e2⟩ := prK_inj (by omega) (by omega) (by omega) (by omega) he
  rw [e1, e2]
/-- What the map of the edges holds. -/
def EdI (l : List Tm) (B b k : Nat) (X : List (List Int)) (nn lo hi : Nat) (w : World) : Prop :=
  ∃ (D : DataW Value) (vf : List Int → Value), w.ownsMap Tryz.prog 51 hR b nn D ∧ (∀ y, has D y = true ↔ ∃ e, clM l k X e ≠ [] ∧ y = prK e) ∧
    (∀ e, clM l k X e ≠ [] → (∀ zd, D.atKey (prK e) zd = .held (vf e)) ∧ IS w B (vf e) (clM l k X e)) ∧
    (∀ e e', clM l k X e ≠ [] → clM l k X e' ≠ [] → e ≠ e' → ∀ g, (vf e).ownBlock = some g → (vf e').ownBlock ≠ some g) ∧ ∀ e, clM l k X e ≠ [] → ∀ g, (vf e).ownBlock = some g → g < lo ∨ hi ≤ g
theorem EdI.below {l : List Tm} {B b k : Nat} {X : List (List Int)} {nn lo hi : Nat} {w w' : World} (h : EdI l B b k X nn lo hi w) (hb : Below w.heap.size w w') : EdI l B b k X nn lo hi w' := by
  obtain ⟨D, vf, h1, h2, h3, h4⟩ := h
  exact ⟨D, vf, own_below h1 hb, h2, fun e he => ⟨(h3 e he).1, (h3 e he).2.below hb⟩, h4⟩
theorem EdI.start {l : List Tm} {B b k : Nat} {X : List (List Int)} {nn : Nat} {w w' : World} (h : EdI l B b k X nn 0 0 w) (hb : Below w.heap.size w w') : EdI l B b k X nn w.heap.size w'.heap.size w' := by
  obtain ⟨D, vf, h1, h2, h3, h4, h5⟩ := h
  exact ⟨D, vf, own_below h1 hb, h2, fun e he => ⟨(h3 e he).1, (h3 e he).2.below hb⟩, h4, fun e he g hg => .inl ((h3 e he).2.lt g hg).2⟩
theorem EdI.close {l : List Tm} {B b k : Nat} {X : List (List Int)} {nn nn' lo hi : Nat} {w : World} (h : EdI l B b k X nn lo hi w) (hX : ∀ e, e ∈ X ↔ e ∈ sdL l ((ceL l).getD k [])) (hn : nn ≤ nn') : EdI l B b (k + 1) [] nn' 0 0 w := by
  have e : clM l k X = clM l (k + 1) [] := by
    funext e
    rw [clM_nil, clN_next hX]
  unfold EdI at h ⊢
  rw [e] at h
  obtain ⟨D, vf, h1, h2, h3, h4, -⟩ := h
  exact ⟨D, vf, h1.mono hn, h2, h3, h4, fun e he g hg => .inr (Nat.zero_le _)⟩
theorem EdI.zero {l : List Tm} {B b : Nat} {w : World} (h : w.ownsMap Tryz.prog 51 hR b 0 (.map [])) : EdI l B b 0 [] 0 0 0 w := by
  have h0 : ∀ e, clM l 0 [] e = [] := fun e => by rw [clM_nil]; simp [clL]
  exact ⟨.map [], fun _ => undef, h, fun y => by simp [has, h0], fun e he => absurd (h0 e) he, fun e e' he => absurd (h0 e) he, fun e he => absurd (h0 e) he⟩
theorem EdI.put {l : List Tm} (h12 : l.length ≤ 12) {B b k : Nat} (hk : k < (ceL l).length) {X : List (List Int)} {s : List Int} (hs : s ∉ X) (hsx : s ∈ sdL l ((ceL l).getD k [])) (hX : ∀ e ∈ X, e ∈ sdL l ((ceL l).getD k [])) {nn lo hi : Nat} {D : DataW Value} {vf : List Int → Value}
    (hD : IsMap D) (h2 : ∀ y, has D y = true ↔ ∃ e, clM l k X e ≠ [] ∧ y = prK e) (h3 : ∀ e, clM l k X e ≠ [] → ∀ zd, D.atKey (prK e) zd = .held (vf e))
    (h4 : ∀ e e', clM l k X e ≠ [] → clM l k X e' ≠ [] → e ≠ e' → ∀ g, (vf e).ownBlock = some g → (vf e').ownBlock ≠ some g)
    (h5 : ∀ e, clM l k X e ≠ [] → ∀ g, (vf e).ownBlock = some g → g < lo ∨ hi ≤ g) {w' : World} {v : Value} (hvb : ∀ g, v.ownBlock = some g → g < lo ∨ hi ≤ g) (hown : w'.ownsMap Tryz.prog 51 hR b (nn + 1) (D.put (prK s) (.held v))) (hv : IS w' B v (clM l k X s ++ [(k : Int)]))
    (hrows : ∀ e, e ≠ s → clM l k X e ≠ [] → IS w' B (vf e) (clM l k X e)) (hdis : ∀ e, e ≠ s → clM l k X e ≠ [] → ∀ g, v.ownBlock = some g → (vf e).ownBlock ≠ some g) : EdI l B b k (X ++ [s]) (nn + 1) lo hi w' := by
  have hXs : ∀ e ∈ X ++ [s], k < (ceL l).length ∧ e ∈ sdL l ((ceL l).getD k []) := fun e he => by
    rcases List.mem_append.1 he with h | h
    · exact ⟨hk, hX e h⟩
    · rw [List.mem_singleton] at h; subst h; exact ⟨hk, hsx⟩
  have hsn : clM l k (X ++ [s]) s ≠ [] := by rw [clM_same hs]; simp
  have hsE := clM_ea (Nat.le_of_lt hk) hXs hsn
  obtain ⟨i, m, q1, q2, rfl⟩ := ea_pair hsE
  have hlit : WideAt.IsKeyLit (prK [(i : Int), (m : Int)]) := prKeyed.key (pr_key (by omega) (by omega))
  have hne : ∀ e, clM l k (X ++ [[(i : Int), (m : Int)]]) e ≠ [] → e ≠ [(i : Int), (m : Int)] → prK e ≠ prK [(i : Int), (m : Int)] := fun e he hes h => hes (prK_ea h12 (clM_ea (Nat.le_of_lt hk) hXs he) hsE h)
  refine ⟨_, fun e => if e = [(i : Int), (m : Int)] then v else vf e, hown, fun y => ?_, fun e he => ?_, fun e e' he he' hee g hg => ?_, fun e he g hg => ?_⟩
  · by_cases hy : y = prK [(i : Int), (m : Int)]
    · subst hy
      exact ⟨fun _ => ⟨_, hsn, rfl⟩, fun _ => has_put_same hD hlit _⟩
    · rw [has_put_other hy, h2 y]
      constructor
      · rintro ⟨e, h, rfl⟩
        have : e ≠ [(i : Int), (m : Int)] := fun h => hy (by rw [h])
        exact ⟨e, by rw [clM_other this]; exact h, rfl⟩
      · rintro ⟨e, h, rfl⟩
        have : e ≠ [(i : Int), (m : Int)] := fun h => hy (by rw [h])
        exact ⟨e, by rw [clM_other this] at h; exact h, rfl⟩
  · dsimp only
    by_cases hes : e = [(i : Int), (m : Int)]
    · subst hes
      rw [if_pos rfl, clM_same hs]
      exact ⟨fun zd => atKey_put_same hD hlit _ zd, hv⟩
    · rw [if_neg hes]
      have h' := hne e he hes
      rw [clM_other hes] at he ⊢
      exact ⟨fun zd => by rw [atKey_put_other h']; exact h3 e he zd, hrows e hes he⟩
  · dsimp only at hg ⊢
    by_cases hes : e = [(i : Int), (m : Int)]
    · rw [if_pos hes] at hg
      have hes' : e' ≠ [(i : Int), (m : Int)] := fun h => hee (hes.trans h.symm)
      rw [if_neg hes']
      rw [clM_other hes'] at he'
      exact hdis e' hes' he' g hg
    · rw [if_neg hes] at hg
      rw [clM_other hes] at he
      by_cases hes' : e' = [(i : Int), (m : Int)]
      · rw [if_pos hes']
        exact fun h => hdis e hes he g h hg
      · rw [if_neg hes']
        rw [clM_other hes'] at he'
        exact h4 e e' he he' hee g hg
  · dsimp only at hg
    by_cases hes : e = [(i : Int), (m : Int)]
    · rw [if_pos hes] at hg; exact hvb g hg
    · rw [if_neg hes] at hg
      rw [clM_other hes] at he
      exact h5 e he g hg
theorem sdL_at {l : List Tm} {x : List Int} {j : Nat} (hj : j < (sdL l x).length) : (sdL l x)[j] = [gd (sdF l x) (j * 2), gd (sdF l x) (j * 2 + 1)] := by
  have h1 : j < (hcL l x).length := by rw [← sdL_len]; exact hj
  obtain ⟨e1, e2⟩ := (sdF_gd l x).2 j h1
  rw [e1, e2]
  simp [sdL, sdP]
theorem zeroS (w : World) : (zeroValue 36).run Tryz.prog w = .ok (.slice none 0 0) w := by kernel_rfl
theorem is_not_map {w : World} {B b n : Nat} {v : Value} {zs : List Int} {D : DataW Value} (h : IS w B v zs) (hm : w.ownsMap Tryz.prog 51 hR b n D) : ∀ g, v.ownBlock = some g → g ≠ b := fun g hg e => by
  obtain ⟨es, c, hb, -⟩ := hm
  rcases h.2 with ⟨rfl, -⟩ | ⟨g2, cap2, cur2, rfl, _, hh, -⟩
  · simp [Value.ownBlock] at hg
  · have e1 : g2 = g := by simpa [Value.ownBlock] using hg
    rw [e1, e, hb] at hh; cases hh
/-- What the entry holds. -/
theorem entry_val {l : List Tm} (h12 : l.length ≤ 12) {k : Nat} (hk : k < (ceL l).length) {X : List (List Int)} (hX : ∀ e ∈ X, e ∈ sdL l ((ceL l).getD k [])) {s : List Int} (hs : s ∈ sdL l ((ceL l).getD k [])) {B : Nat} {w : World} {D : DataW Value} {vf : List Int → Value}
    (h2 : ∀ y, has D y = true ↔ ∃ e, clM l k X e ≠ [] ∧ y = prK e) (h3 : ∀ e, clM l k X e ≠ [] → (∀ zd, D.atKey (prK e) zd = .held (vf e)) ∧ IS w B (vf e) (clM l k X e)) {v0 : Value}
    (hv : ((∀ zd, D.atKey (prK s) zd = .held v0) ∧ IsSl v0) ∨ ((∀ zd, D.atKey (prK s) zd = zd) ∧ v0 = .slice none 0 0)) : IS w B v0 (clM l k X s) ∧ ((clM l k X s ≠ [] ∧ v0 = vf s) ∨ v0 = .slice none 0 0) := by
  have hsE : s ∈ eaL l := by
    unfold eaL
    rw [setX_mem totLx, List.mem_flatMap]
    refine ⟨_, ?_, hs⟩
    rw [List.getD_eq_getElem?_getD, List.getElem?_eq_getElem hk]
    exact List.getElem_mem hk
  by_cases h0 : clM l k X s = []
  · rcases hv with ⟨h, -⟩ | ⟨-, rfl⟩
    · obtain ⟨e, he, hp⟩ := (h2 _).1 (has_true_of_atKey h)
      have := prK_ea h12 hsE (clM_ea (Nat.le_of_lt hk) (fun e he => ⟨hk, hX e he⟩) he) hp
      rw [← this] at he
      exact absurd h0 he
    · rw [h0]; exact ⟨IS.nil_ _ _, .inr rfl⟩
  · obtain ⟨e1, e2⟩ := h3 s h0
    rcases hv with ⟨h, -⟩ | ⟨h, -⟩
    · have := (h (.lit (.bool false))).symm.trans (e1 _)
      obtain rfl : v0 = vf s := by injection this
      exact ⟨e2, .inl ⟨h0, rfl⟩⟩
    · have := (h (.lit (.bool false))).symm.trans (e1 _)
      cases this
theorem EdI.base {l : List Tm} {B B' b k : Nat} {X : List (List Int)} {nn lo hi : Nat} {w : World} (h : EdI l B b k X nn lo hi w) (hB : B' ≤ B) : EdI l B' b k X nn lo hi w := by
  obtain ⟨D, vf, h1, h2, h3, h4⟩ := h
  exact ⟨D, vf, h1, h2, fun e he => ⟨(h3 e he).1, (h3 e he).2.base hB⟩, h4⟩
theorem clM_le (l : List Tm) (k : Nat) (X : List (List Int)) (e : List Int) : (clM l k X e).length ≤ k + 1 := by
  unfold clM clL
  have := List.length_filter_le (fun c : Nat => decide (e ∈ sdL l ((ceL l).getD c []))) (List.range k)
  rw [List.length_range] at this
  rw [List.length_append, List.length_map]
  split
  · rw [List.length_singleton]; omega
  · rw [List.length_nil]; omega
theorem grown_bel {a c d : World} {row : Option Nat} (h : a.grownBy c row) (hb : Below c.heap.size c d) : a.grownBy d row :=
  ⟨hb.os.trans h.os, hb.tape.trans h.tape, hb.output.trans h.output, Nat.le_trans h.size hb.size, fun i hi hne => (hb.block i (Nat.lt_of_lt_of_le hi h.size)).trans (h.block i hi hne)⟩
/-- The world has grown, but for the map's block and rows that have come since. -/
theorem grown_far {a c d : World} {b : Nat} {row : Option Nat} (h : a.grownBy c (some b)) (k : c.grownBy d row) (hr : ∀ j, row = some j → a.heap.size ≤ j ∨ j = b) : a.grownBy d (some b) :=
  ⟨k.os.trans h.os, k.tape.trans h.tape, k.output.trans h.output, Nat.le_trans h.size k.size, fun i hi hne => (k.block i (Nat.lt_of_lt_of_le hi h.size) (fun e => by
    rcases hr i e.symm with h1 | h1
    · omega
    · exact hne (by rw [h1]))).trans (h.block i hi hne)⟩
set_option maxHeartbeats 4000000 in
set_option maxRecDepth 100000 in
theorem cellsAtEdges_any (w : World) (B : Nat) (v : Value) (l : List Tm) (h : TmS w B v l) (hl : plB l = true) : Calls Tryz.prog 21 #[v] w fun e w' => ∃ b nn lo hi, e = .returned (.map (some b)) ∧ w.heap.size ≤ b ∧ nn ≤ 30000 ∧ EdI l w.heap.size b (ceL l).length [] nn lo hi w' ∧ Below w.heap.size w w' := by
  have HL := Lib.hid hl
  have H12 := Lib.hid (plB_le hl).2
  have H0 := Lib.hid h
  have HPT := Lib.hid (cellsOf_any (w.alloc (.map #[] 0)) B v l (FS.below h ((Below.refl _ _).alloc (Nat.le_refl _) _)) hl)
  have hmm := @run_makeMap Tryz.prog
  have hbM : Below w.heap.size w (w.alloc (.map #[] 0)) := (Below.refl _ _).alloc (Nat.le_refl _) _
  have HF0 := Lib.hid (World.ownsMap_made w Tryz.prog 51 hR)
  clear h hl
  go_enter Tryz.func21, Tryz.ntmps21
  go_wp2_with fail
  refine HPT.out.mono ?_
  rintro e w2 ⟨r, C, rfl, hC, eC, b2⟩
  have hsM : (w.alloc (.map #[] 0)).heap.size = w.heap.size + 1 := by simp
  rw [hsM] at hC
  have HE0 := Lib.hid (EdI.zero (l := l) (B := w2.heap.size) (own_below HF0.out b2))
  have HB2 := Lib.hid (bel2 hbM b2)
  have hs2 : w.heap.size < w2.heap.size := by have := b2.size; rw [hsM] at this; omega
  obtain ⟨A, cap, rfl, -, hp⟩ := hC.parts
  have HP := Lib.hid hp
  have HV := Lib.hid hC.2
  have HEC := Lib.hid eC
  have HAF := Lib.hid (show ∀ g, A = some ⟨g, 0, none⟩ → w.heap.size < g from fun g hg => by subst hg; exact (World.ownsRow.lt hC.1 g rfl).1)
  have hle := ceL_len H12.out
  obtain ⟨n, hn⟩ : ∃ n, n = C.length := ⟨_, rfl⟩
  have hnc : n = (ceL l).length := by rw [hn, ← eC, lls_len]
  rw [← hnc] at hle
  have HN := Lib.hid hn
  have HNC := Lib.hid hnc
  rw [← hn]
  obtain ⟨i0, hi, hz0, hz1, hz2⟩ := info_parts infoInt
  clear hC eC hp b2 hbM HF0 HPT hsM hmm hn hnc
  go_wp2
  go_loopw [12] (fun i wr => ∃ k : Nat, k ≤ n ∧ i = .int .i64 k ∧ Hid (EdI l w2.heap.size w.heap.size k [] (12 * k) 0 0 wr) ∧ Hid (w2.grownBy wr (some w.heap.size))) (fun i _ => n - (intOf i).toNat)
  case atStart => exact ⟨0, by omega, rfl, HE0, Lib.hid (World.grownBy.refl _ _)⟩
  case round =>
    clear HE0
    obtain ⟨k, hk, rfl, hst, hgr⟩ := hrel
    have hbW : Below w.heap.size w wr := HB2.out.grown hgr.out HB2.out.size (fun j e => by cases e; exact Nat.le_refl _)
    by_cases hlt : k < n
    · obtain ⟨wO, hwO⟩ : ∃ wO, wO = wr := ⟨_, rfl⟩
      rw [← hwO] at hst hgr hbW ⊢
      clear hwO wr
      have hkc : k < C.length := by rw [← HN.out]; exact hlt
      have HKL := Lib.hid (show k < (ceL l).length by rw [← HNC.out]; exact hlt)
      obtain ⟨g, rfl, hc0⟩ := HP.out k hkc
      have hgf := HAF.out g rfl
      have hc := hgr.out.cell hc0 (fun e => by simp only [Option.some.injEq] at e; omega)
      have hisC := HV.out.at hkc
      have his := hisC.other hgr.out (fun q hq e => by have := hisC.lt q hq; simp only [Option.some.injEq] at e; omega)
      have hcl := cell_in HEC.out hkc
      have hcg := pll_get HEC.out hkc
      have htm := FS.below H0.out hbW
      obtain ⟨cv, hcv⟩ : ∃ cv, cv = pvl C k := ⟨_, rfl⟩
      obtain ⟨zs, hzs⟩ : ∃ zs, zs = pll C k := ⟨_, rfl⟩
      rw [← hcv] at hc his
      rw [← hzs] at his hcl hcg
      clear hc0 hisC hcv hzs hbW
      go_wp2_with fail
      refine (sidesOfCell_any wO B _ _ _ l zs htm his HL.out hcl).mono ?_
      rintro e w3 ⟨rs, rfl, hR, b3⟩
      have HX3 := Lib.hid (hst.out.start b3)
      have HG3 := Lib.hid (grown_bel hgr.out b3)
      have hbO : w.heap.size < wO.heap.size := Nat.lt_of_lt_of_le hs2 hgr.out.size
      have h2O : w2.heap.size ≤ wO.heap.size := hgr.out.size
      obtain ⟨A3, cap3, rfl, -, hp3⟩ := FS.parts hR
      have HP3 := Lib.hid hp3
      have HAF3 := Lib.hid (show ∀ g, A3 = some ⟨g, 0, none⟩ → wO.heap.size ≤ g ∧ g < w3.heap.size from fun g hg => by subst hg; exact World.ownsRow.lt hR g rfl)
      have hns : (sdL l zs).length ≤ 12 := by rw [sdL_len]; exact hc_le hcl H12.out
      have HSN := Lib.hid (sd_nodup hcl)
      have HSE := Lib.hid (fun e (he : e ∈ sdL l zs) => show e ∈ eaL l by
        unfold eaL
        rw [setX_mem totLx, List.mem_flatMap]
        exact ⟨zs, hcl, he⟩)
      obtain ⟨S, hS⟩ : ∃ S, S = sdL l zs := ⟨_, rfl⟩
      have HSA := Lib.hid (fun (j : Nat) (hj : j < S.length) => show S[j] = [gd (sdF l zs) (j * 2), gd (sdF l zs) (j * 2 + 1)] by subst hS; exact sdL_at hj)
      have HSX := Lib.hid (show ∀ e, e ∈ S ↔ e ∈ sdL l ((ceL l).getD k []) from fun e => by rw [hS, hcg])
      rw [← hS] at HP3 hns HSN HSE ⊢
      obtain ⟨ns, hns2⟩ : ∃ ns, ns = S.length := ⟨_, rfl⟩
      have HNS := Lib.hid hns2
      rw [← hns2] at hns HP3 ⊢
      clear hst hgr hc his htm hcl hcg hR hp3 b3 hS hns2
      go_wp2
      go_loopw [21] (fun i wr => ∃ j : Nat, j ≤ ns ∧ i = .int .i64 j ∧ Hid (EdI l w2.heap.size w.heap.size k (S.take j) (12 * k + j) wO.heap.size w3.heap.size wr) ∧ Hid (w2.grownBy wr (some w.heap.size)) ∧ Hid (∀ i, wO.heap.size ≤ i → i < w3.heap.size → wr.heap[i]? = w3.heap[i]?) ∧ w3.heap.size ≤ wr.heap.size) (fun i _ => ns - (intOf i).toNat)
      case atStart => exact ⟨0, by omega, rfl, HX3, HG3, Lib.hid (fun i _ _ => rfl), Nat.le_refl _⟩
      case round =>
        clear HX3 HG3
        obtain ⟨j, hj, rfl, hst, hgr, hkp, hsz⟩ := hrel
        by_cases hltj : j < ns
        · have hjS : j < S.length := by rw [← HNS.out]; exact hltj
          obtain ⟨g3, rfl, ha0⟩ := HP3.out (j * 2) (by omega)
          obtain ⟨g3', hg3', hc0⟩ := HP3.out (j * 2 + 1) (by omega)
          cases hg3'
          have hg3 := HAF3.out g3 rfl
          have hbl := hkp.out g3 hg3.1 hg3.2
          have ha1 : wr.cell? ⟨g3, j * 2, none⟩ = some (.int .i64 (gd (sdF l zs) (j * 2))) := by unfold World.cell? at ha0 ⊢; rw [hbl]; exact ha0
          have hc1 : wr.cell? ⟨g3, j * 2 + 1, none⟩ = some (.int .i64 (gd (sdF l zs) (j * 2 + 1))) := by unfold World.cell? at hc0 ⊢; rw [hbl]; exact hc0
          have HTK := Lib.hid (show S.take (j + 1) = S.take j ++ [S[j]] by rw [List.take_add_one, List.getElem?_eq_getElem hjS]; rfl)
          have HNI := Lib.hid (show S[j] ∉ S.take j from fun hm => by
            obtain ⟨i, hi, e⟩ := List.getElem_of_mem hm
            rw [List.length_take] at hi
            rw [List.getElem_take] at e
            exact List.pairwise_iff_getElem.1 (List.nodup_iff_pairwise_ne.1 HSN.out) i j (by omega) hjS (by omega) e)
          have HXS := Lib.hid (show ∀ e ∈ S.take j, e ∈ sdL l ((ceL l).getD k []) from fun e he => (HSX.out e).1 (List.mem_of_mem_take he))
          have HSI := Lib.hid ((HSX.out _).1 (List.getElem_mem hjS))
          have HSP := Lib.hid (HSE.out _ (List.getElem_mem hjS))
          have hsa := HSA.out j hjS
          rw [hsa] at HTK HNI HSI HSP
          obtain ⟨a, haa⟩ : ∃ a, a = gd (sdF l zs) (j * 2) := ⟨_, rfl⟩
          obtain ⟨c, hcc⟩ : ∃ c, c = gd (sdF l zs) (j * 2 + 1) := ⟨_, rfl⟩
          rw [← haa] at ha1
          rw [← hcc] at hc1
          rw [← haa, ← hcc] at HTK HNI HSI HSP
          obtain ⟨X, hX⟩ : ∃ X, X = S.take j := ⟨_, rfl⟩
          rw [← hX] at HTK HNI HXS hst
          have hbd : (-1000000 ≤ a ∧ a ≤ 1000000) ∧ (-1000000 ≤ c ∧ c ≤ 1000000) := by
            obtain ⟨i, m, h1, h2, h3⟩ := ea_pair HSP.out
            have := H12.out
            simp only [List.cons.injEq, and_true] at h3
            omega
          clear ha0 hc0 hsa haa hcc hX hbl
          obtain ⟨D, vf, hD1, hD2, hD3, hD4, hD5⟩ := hst.out
          have hbV : Below wr.heap.size wr ((wr.alloc (.cells #[.int .i64 a, .int .i64 c] 51)).alloc (.cells #[.int .i64 (k : Int)] 3)) := belA1 (belA1 (Below.refl _ _) _) _
          have hVs : ((wr.alloc (.cells #[.int .i64 a, .int .i64 c] 51)).alloc (.cells #[.int .i64 (k : Int)] 3)).heap.size = wr.heap.size + 2 := by simp
          have hnew : ((wr.alloc (.cells #[.int .i64 a, .int .i64 c] 51)).alloc (.cells #[.int .i64 (k : Int)] 3)).cell? ⟨wr.heap.size + 1, 0, none⟩ = some (.int .i64 (k : Int)) := by simp [go_sem]
          have hDV := own_below hD1 hbV
          have hDV3 : ∀ e, clM l k X e ≠ [] → (∀ zd, D.atKey (prK e) zd = .held (vf e)) ∧ IS ((wr.alloc (.cells #[.int .i64 a, .int .i64 c] 51)).alloc (.cells #[.int .i64 (k : Int)] 3)) w2.heap.size (vf e) (clM l k X e) := fun e he => ⟨(hD3 e he).1, (hD3 e he).2.below hbV⟩
          obtain ⟨v0, st, w4, hent, hg4, hv0, hstore⟩ := map_entry hDV prLaw Tryz.underlying45 zeroS (by unfold maxLen; omega) (pr_key hbd.1 hbd.2)
          obtain ⟨hi0, hor⟩ := entry_val H12.out HKL.out HXS.out HSI.out hD2 hDV3 hv0
          obtain ⟨sv, hsv⟩ : ∃ sv, sv = goInt st := ⟨_, rfl⟩
          rw [← hsv] at hent hstore
          have hzl := clM_le l k X [a, c]
          have hg4s := hg4.size
          rw [hVs] at hg4s
          have hi4 : IS w4 w2.heap.size v0 (clM l k X [a, c]) := hi0.other hg4 (fun q hq e => is_not_map hi0 hDV q hq (by simpa using e))
          have hv0b : ∀ q, v0.ownBlock = some q → q ≠ w.heap.size ∧ w2.heap.size ≤ q ∧ (q < wO.heap.size ∨ w3.heap.size ≤ q) := fun q hq => ⟨is_not_map hi0 hDV q hq, (hi0.lt q hq).1, by
            rcases hor with ⟨h1, h2⟩ | h2
            · rw [h2] at hq; exact hD5 _ h1 q hq
            · rw [h2] at hq; simp [Value.ownBlock] at hq⟩
          have hone : ∀ i u, [Value.int .i64 (k : Int)][i]? = some u → w4.cell? ((⟨wr.heap.size + 1, 0, none⟩ : Addr).add i) = some u := fun i u hu => by
            have hi : i = 0 := by
              rcases Nat.eq_zero_or_pos i with h | h
              · exact h
              · rw [List.getElem?_eq_none (by simp; omega)] at hu; cases hu
            subst hi
            rw [add_zero]
            have hu' : Value.int .i64 (k : Int) = u := by simpa using hu
            rw [← hu']
            exact hg4.cell hnew (fun e => by simp only [Option.some.injEq] at e; omega)
          have HONE := Lib.hid hone
          have HI4 := Lib.hid hi4
          have HSTORE := Lib.hid hstore
          obtain ⟨L0, hL0⟩ : ∃ L0, L0 = (clM l k X [a, c]).length := ⟨_, rfl⟩
          have HL0 := Lib.hid hL0
          have HPUT := Lib.hid (show ∀ (g cap5 : Nat) (w5 w6 : World), w5.ownsRow w2.heap.size 3 1 (.slice (some ⟨g, 0, none⟩) (L0 + 1) cap5) (L0 + 1) (ints (clM l k X [a, c]) ++ [.int .i64 (k : Int)]) → w4.grownBy w5 v0.ownBlock → (v0.ownBlock = some g ∨ g = w4.heap.size) →
              w6.ownsMap Tryz.prog 51 hR w.heap.size (12 * k + j + 1) (D.put (prK [a, c]) (.held (.slice (some ⟨g, 0, none⟩) (L0 + 1) cap5))) → w5.grownBy w6 (some w.heap.size) →
              EdI l w2.heap.size w.heap.size k (X ++ [[a, c]]) (12 * k + j + 1) wO.heap.size w3.heap.size w6 ∧ w2.grownBy w6 (some w.heap.size) ∧ (∀ i, wO.heap.size ≤ i → i < w3.heap.size → w6.heap[i]? = w3.heap[i]?) ∧ w3.heap.size ≤ w6.heap.size from fun g cap5 w5 w6 hown5 hg5 hloc hown6 hg6 => by
            rw [hL0] at hown5 hown6
            have hgb : g ≠ w.heap.size ∧ (g < wO.heap.size ∨ w3.heap.size ≤ g) := by
              rcases hloc with h | h
              · exact ⟨(hv0b g h).1, (hv0b g h).2.2⟩
              · omega
            have hv5 := IS.snoc rfl hown5
            refine ⟨EdI.put H12.out HKL.out HNI.out HSI.out HXS.out hD1.isMap hD2 (fun e he => (hD3 e he).1) hD4 hD5 (fun q hq => ?_) hown6 (hv5.other hg6 (fun q hq e => ?_)) (fun e hes he => ?_) (fun e hes he q hq hq' => ?_), ?_, fun i h1 h2 => ?_, ?_⟩
            · simp only [Value.ownBlock, Option.some.injEq] at hq
              rw [← hq]; exact hgb.2
            · simp only [Value.ownBlock, Option.some.injEq] at hq e
              omega
            · have e0 := (hDV3 e he).2
              have e4 := e0.other hg4 (fun q hq e => is_not_map e0 hDV q hq (by simpa using e))
              have e5 := e4.other hg5 (fun q hq e' => by
                rcases hor with ⟨h1, h2⟩ | h2
                · rw [h2] at e'
                  exact hD4 _ _ h1 he (fun h => hes h.symm) q e'.symm hq
                · rw [h2] at e'; simp [Value.ownBlock] at e')
              exact e5.other hg6 (fun q hq e => is_not_map e0 hDV q hq (by simpa using e))
            · simp only [Value.ownBlock, Option.some.injEq] at hq
              subst hq
              rcases hloc with h | h
              · rcases hor with ⟨h1, h2⟩ | h2
                · rw [h2] at h
                  exact hD4 _ _ h1 he (fun h => hes h.symm) _ h hq'
                · rw [h2] at h; simp [Value.ownBlock] at h
              · have := ((hDV3 e he).2.lt _ hq').2
                omega
            · exact grown_far (grown_far (grown_far (grown_bel hgr.out hbV) hg4 (fun j e => .inr (by simpa using e.symm))) hg5 (fun j e => .inl (hv0b j e).2.1)) hg6 (fun j e => .inr (by simpa using e.symm))
            · have t6 := hg6.block i (by have := hg5.size; omega) (fun e => by simp only [Option.some.injEq] at e; omega)
              have t5 := hg5.block i (by omega) (fun e => by have := (hv0b i e.symm).2.2; omega)
              have t4 := hg4.block i (by omega) (fun e => by simp only [Option.some.injEq] at e; omega)
              have t3 := hbV.block i (by omega)
              rw [t6, t5, t4, t3]
              exact hkp.out i h1 h2
            · have := hg5.size; have := hg6.size; omega)
          have HV0 := Lib.hid hv0b
          have hws : w.heap.size < w4.heap.size := by omega
          rw [← hL0] at hzl
          have hL12 : L0 ≤ 2000 := by omega
          clear hst hgr hkp hD1 hD2 hD3 hD4 hD5 hbV hVs hnew hDV hDV3 hv0 hi0 hor hsv hg4 hi4 hv0b hone hstore hbd hL0 hzl
          go_wp2_with (at_builtin; refine wpList_append_lies _ rfl _ _ 36 rfl w2.heap.size 3 i0 (.int .i64 0) 1 8 Tryz.underlying36 hi hz0 hz1 hz2 rfl (by decide) v0 L0 _ rfl (by rw [HL0.out]; exact HI4.out) ⟨wr.heap.size + 1, 0, none⟩ 1 1 [.int .i64 (k : Int)] rfl rfl HONE.out (by simp [Value.oneCell']) (by omega) (by unfold maxLen; omega) (by omega) (by omega) w4.heap.size rfl ?_; intro g cap5 w5 hown5 hg5 hloc hgl; obtain ⟨w6, hst6, hown6, hg6⟩ := HSTORE.out w5 (.slice (some ⟨g, 0, none⟩) (L0 + 1) cap5) (hg5.block _ hws (fun e => (HV0.out _ e.symm).1 rfl)) ⟨_, _, _, rfl⟩)
          have HFIN := Lib.hid (HPUT.out g cap5 w5 w6 hown5 hg5 hloc hown6 hg6)
          clear hown5 hg5 hloc hown6 hg6 HPUT HSTORE HV0 HONE HI4
          go_wp2
          go_roundw
          case rel => exact ⟨j + 1, by omega, by go_num, Lib.hid (by rw [HTK.out]; exact HFIN.out.1), Lib.hid HFIN.out.2.1, Lib.hid HFIN.out.2.2.1, HFIN.out.2.2.2⟩
          case measure => simp [intOf]; omega
        · obtain rfl : j = ns := by omega
          have HE := Lib.hid (hst.out.close (nn' := 12 * (k + 1)) (fun e => by rw [HNS.out, List.take_length]; exact HSX.out e) (by omega))
          go_wp2
          go_roundw
          case rel => exact ⟨k + 1, by omega, by go_num, HE, hgr⟩
          case measure => simp [intOf]; omega
    · obtain rfl : k = n := by omega
      have HE := Lib.hid (show EdI l w2.heap.size w.heap.size (ceL l).length [] (12 * k) 0 0 wr by rw [← HNC.out]; exact hst.out)
      go_wp2
      go_ret
      exact ⟨_, _, _, _, rfl, Nat.le_refl _, by omega, HE.out.base (Nat.le_of_lt hs2), hbW⟩
end Go.Proofs.YtcfplfjllnojoaaGreat
/-
  The program's edges: what edgesOfMany returns; EdgesOfCells and InnerEdges of both.
  Condition: the slice reads as the terms that are named.
-/
namespace Go.Proofs.YtcfplfjllnojoaaGreat
set_option linter.unusedSimpArgs false
set_option linter.unusedVariables false
open Go.ChangeShapes Go.WideShapes Go.ChangeAt Go.RowKit Go.Maps
open Go.Sort (grow)

theorem clL_ne {l : List Tm} {k : Nat} (hk : k ≤ (ceL l).length) (e : List Int) : clL l k e ≠ [] ↔ 1 ≤ cntN l k e := by
  rw [← clL_len l e k hk]
  constructor
  · intro h
    rcases Nat.eq_zero_or_pos (clL l k e).length with h0 | h0
    · exact absurd (List.eq_nil_of_length_eq_zero h0) h
    · exact h0
  · intro h e0; rw [e0] at h; simp at h
/-- What has been collected when the keys ks have come. -/
def ColO (l : List Tm) (least : Nat) (ks : List Lit) (B : Nat) (o : Value) (w : World) : Prop := ∃ P, LS w B o P ∧ (lls P).Nodup ∧ ∀ e, e ∈ lls P ↔ (least ≤ cntN l (ceL l).length e ∧ prK e ∈ ks ∧ e ∈ eaL l)
theorem ColO.below {l : List Tm} {least : Nat} {ks : List Lit} {B : Nat} {o : Value} {w w' : World} (h : ColO l least ks B o w) (hb : Below w.heap.size w w') : ColO l least ks B o w' := by
  obtain ⟨P, h1, h2⟩ := h
  exact ⟨P, h1.below hb, h2⟩
theorem sl_other {w w' : World} {B : Nat} {T : TypeId} {sz : Nat} {v : Value} {n : Nat} {xs : List Value} {row : Option Nat} (h : w.ownsRow B T sz v n xs) (hg : w.grownBy w' row) (hne : ∀ g, v.ownBlock = some g → some g ≠ row) : w'.ownsRow B T sz v n xs := by
  refine ⟨h.1, h.2.imp id fun ⟨g, cap, cur, e, hB, hh, r⟩ => ⟨g, cap, cur, e, hB, (hg.block g (Array.getElem?_eq_some_iff.1 hh).1 (hne g (by rw [e]; rfl))).trans hh, r⟩⟩
theorem ls_other {w w' : World} {B r : Nat} {v : Value} {P : VL} (h : LS w B v P) (hg : w.grownBy w' (some r)) (hr : r < B) : LS w' B v P :=
  ⟨sl_other h.1 hg (fun g hv e => by have := World.ownsRow.lt h.1 g hv; simp only [Option.some.injEq] at e; omega), fun p hp => (h.2.1 p hp).other hg (fun g hv e => by have := (h.2.1 p hp).lt g hv; simp only [Option.some.injEq] at e; omega), h.2.2⟩
theorem ColO.other {l : List Tm} {least : Nat} {ks : List Lit} {B r : Nat} {o : Value} {w w' : World} (h : ColO l least ks B o w) (hg : w.grownBy w' (some r)) (hr : r < B) : ColO l least ks B o w' := by
  obtain ⟨P, h1, h2⟩ := h
  exact ⟨P, ls_other h1 hg hr, h2⟩
/-- One more slice behind a row of slices. -/
theorem ls_snoc {w w' : World} {B : Nat} {v v' x : Value} {P : VL} {zs : List Int} (h : LS w B v P) (hx : IS w B x zs) (hown : w'.ownsRow B 36 1 v' (P.length + 1) (vls P ++ [x])) (hg : w.grownBy w' v.ownBlock)
    (hd : ∀ p ∈ P, ∀ g, p.1.ownBlock = some g → x.ownBlock ≠ some g) (hxv : ∀ g, x.ownBlock = some g → v.ownBlock ≠ some g) : LS w' B v' (P ++ [(x, zs)]) := by
  have hrow : ∀ p ∈ P, ∀ g, p.1.ownBlock = some g → some g ≠ v.ownBlock := fun p hp g hg' e => by
    rcases h.1.2 with ⟨rfl, _⟩ | ⟨g2, cap2, cur2, rfl, _, hh, _⟩
    · simp [Value.ownBlock] at e
    · exact (h.2.1 p hp).other_row h.1 g hg' (by simpa [Value.ownBlock] using e)
  refine ⟨by rw [List.length_append]; simpa [vls] using hown, fun p hp => ?_, ?_⟩
  · rcases List.mem_append.1 hp with hp | hp
    · exact (h.2.1 p hp).other hg (hrow p hp)
    · rw [List.mem_singleton] at hp; subst hp
      exact hx.other hg (fun g hg' e => hxv g hg' e.symm)
  · exact List.pairwise_append.2 ⟨h.2.2, List.pairwise_singleton _ _, fun p hp q hq g hg' => by
      rw [List.mem_singleton] at hq; subst hq
      exact hd p hp g hg'⟩
theorem ColO.skip {l : List Tm} (h12 : l.length ≤ 12) {least : Nat} {ks : List Lit} {B : Nat} {o : Value} {w : World} (h : ColO l least ks B o w) {e : List Int} (he : e ∈ eaL l) (hno : ¬ least ≤ cntN l (ceL l).length e) : ColO l least (ks ++ [prK e]) B o w := by
  obtain ⟨P, h1, h2, h3⟩ := h
  refine ⟨P, h1, h2, fun e' => (h3 e').trans ⟨fun ⟨a, b, c⟩ => ⟨a, List.mem_append_left _ b, c⟩, fun ⟨a, b, c⟩ => ⟨a, ?_, c⟩⟩⟩
  rcases List.mem_append.1 b with b | b
  · exact b
  · rw [List.mem_singleton] at b
    rw [prK_ea h12 c he b] at a
    exact absurd a hno
theorem ColO.len {l : List Tm} (h12 : l.length ≤ 12) {P : VL} (h2 : (lls P).Nodup) (h3 : ∀ e ∈ lls P, e ∈ eaL l) : P.length ≤ 20736 := by
  rw [← lls_len]
  have h4 := sub_len h2 h3
  have h5 := setX_len ((ceL l).flatMap (sdL l))
  have h6 := flat_len12 h12
  unfold eaL at h4
  omega
theorem inc_of {P P' : VL} (hnd : (lls P).Nodup) (hperm : P'.Perm P) (hpw : P'.Pairwise fun p q => lxL q.2 p.2 = false) : Inc lxL (lls P') ∧ ∀ e, e ∈ lls P' ↔ e ∈ lls P := by
  have hp : (lls P').Perm (lls P) := hperm.map _
  refine ⟨?_, fun e => hp.mem_iff⟩
  have h1 : (lls P').Pairwise fun a b => lxL b a = false := by
    unfold lls
    rw [List.pairwise_map]
    exact hpw
  have h2 : (lls P').Pairwise fun a b => a ≠ b := List.nodup_iff_pairwise_ne.1 (hp.nodup_iff.2 hnd)
  refine (h1.and h2).imp fun {a b} h => ?_
  cases hab : lxL a b
  · exact absurd (totLx.tot hab h.1) h.2
  · rfl
def eoR (l : List Tm) (n : Nat) : List (List Int) := if plB l = true then edM2 l n else []
theorem eoR_yes {l : List Tm} (h : plB l = true) (n : Nat) : eoR l n = edM2 l n := if_pos h
theorem eoR_no {l : List Tm} (h : plB l = false) (n : Nat) : eoR l n = [] := if_neg (by rw [h]; simp)
theorem ed_few {l : List Tm} (h12 : l.length ≤ 12) (n : Nat) : (edM2 l n).length ≤ 144 := by
  have h := sub_len (inc_nodup (edM2_inc l n)) (b := (List.range 12).flatMap fun i : Nat => (List.range 12).map fun k : Nat => [(i : Int), (k : Int)]) (fun e he => by
    obtain ⟨i, k, h1, h2, rfl⟩ := ea_pair (List.mem_filter.1 he).1
    exact List.mem_flatMap.2 ⟨i, List.mem_range.2 (by omega), List.mem_map.2 ⟨k, List.mem_range.2 (by omega), rfl⟩⟩)
  exact h
theorem few_eo {l : List Tm} {n : Nat} {P : VL} (h : lls P = eoR l n) : FewL P := by
  cases hl : plB l
  · rw [eoR_no hl] at h
    have : P = [] := by unfold lls at h; simpa using h
    subst this
    exact ⟨by simp, fun p hp => by simp at hp⟩
  · rw [eoR_yes hl] at h
    refine ⟨?_, fun p hp => ?_⟩
    · have h1 := ed_few (plB_le hl).2 n
      rw [← h, lls_len] at h1; omega
    · have h1 : p.2 ∈ edM2 l n := by rw [← h]; exact List.mem_map.2 ⟨p, hp, rfl⟩
      obtain ⟨i, k, -, -, e⟩ := ea_pair (List.mem_filter.1 h1).1
      rw [e]; simp
end Go.Proofs.YtcfplfjllnojoaaGreat

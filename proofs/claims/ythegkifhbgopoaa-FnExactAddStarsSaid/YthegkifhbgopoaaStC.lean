/-
  Rays put in order, changed stars, scaled and mapped ones, of the program: what the calls return.
  Condition: the slices read as the lists that are named.
-/
import Derived.Test.YthegkifhbgopoaaSo
import Derived.Test.YthegkifhbgopoaaStL
import Derived.Laws.EntriesVeiled
namespace Go.Proofs.Ythegkifhbgopoaa
set_option linter.unusedSimpArgs false
set_option linter.unusedVariables false
open Go.ChangeShapes Go.WideShapes Go.ChangeAt Go.RowKit
open Go.Sort (grow)

/-! ### Plain mathematics -/
def scT (k : Int) (t : Tm) : Tm := (t.1, t.2.1, t.2.2 * k)
def mpT (a b c d : Int) (t : Tm) : Tm := (a * t.1 + b * t.2.1, c * t.1 + d * t.2.1, t.2.2)
theorem sc_lt (k : Int) (s t : Tm) : plLt (scT k s) (scT k t) = plLt s t := rfl
theorem sc_srt {l : List Tm} (k : Int) (h : Srt l) : Srt (l.map (scT k)) := by
  unfold Srt at *
  rw [List.pairwise_map]
  exact h
def scB (l : List Tm) (k : Int) : Bool := ryB l && (inB k 1 20 && ryB (l.map (scT k)))
def scR (l : List Tm) (k : Int) : List Tm := if scB l k = true then l.map (scT k) else []
theorem scR_le (l : List Tm) (k : Int) : (scR l k).length ≤ 1048576 := by
  unfold scR; split
  · rename_i h
    unfold scB at h
    simp only [Bool.and_eq_true] at h
    have := ryB_le h.2.2; omega
  · simp
theorem scR_is {l : List Tm} {k : Int} (h : ryB l = true) (h' : inB k 1 20 = true) : scB l k = ryB (l.map (scT k)) ∧ scR l k = stR (l.map (scT k)) := by
  have : scB l k = ryB (l.map (scT k)) := by unfold scB; rw [h, h']; rfl
  exact ⟨this, by unfold scR stR; rw [this]⟩
theorem sc_no1 {l : List Tm} {k : Int} (h : ryB l = false) : scB l k = false ∧ scR l k = [] := by
  have : scB l k = false := by unfold scB; rw [h]; rfl
  exact ⟨this, by unfold scR; rw [this]; rfl⟩
theorem sc_no2 {l : List Tm} {k : Int} (h : inB k 1 20 = false) : scB l k = false ∧ scR l k = [] := by
  have : scB l k = false := by unfold scB; rw [h]; simp
  exact ⟨this, by unfold scR; rw [this]; rfl⟩
def in3 (n : Int) : Bool := inB n (-3) 3
def detB (a b c d : Int) : Bool := decide (a * d - b * c = 1) || decide (a * d - b * c = -1)
def mpOk (a b c d : Int) : Bool := in3 a && (in3 b && (in3 c && (in3 d && detB a b c d)))
theorem in3_iff (n : Int) : in3 n = true ↔ -3 ≤ n ∧ n ≤ 3 := inB_iff _ _ _
theorem detB_iff (a b c d : Int) : detB a b c d = true ↔ a * d - b * c = 1 ∨ a * d - b * c = -1 := by unfold detB; simp
def mpB (l : List Tm) (a b c d : Int) : Bool := ryB l && (mpOk a b c d && ryB (normR (l.map (mpT a b c d))))
def mpR (l : List Tm) (a b c d : Int) : List Tm := if mpB l a b c d = true then normR (l.map (mpT a b c d)) else []
theorem mpR_le (l : List Tm) (a b c d : Int) : (mpR l a b c d).length ≤ 1048576 := by
  unfold mpR; split
  · rename_i h
    unfold mpB at h
    simp only [Bool.and_eq_true] at h
    have := ryB_le h.2.2; omega
  · simp
theorem mpR_is {l : List Tm} {a b c d : Int} (h : ryB l = true) (h' : mpOk a b c d = true) : mpB l a b c d = ryB (normR (l.map (mpT a b c d))) ∧ mpR l a b c d = stR (normR (l.map (mpT a b c d))) := by
  have : mpB l a b c d = ryB (normR (l.map (mpT a b c d))) := by unfold mpB; rw [h, h']; rfl
  exact ⟨this, by unfold mpR stR; rw [this]⟩
theorem mp_no1 {l : List Tm} {a b c d : Int} (h : ryB l = false) : mpB l a b c d = false ∧ mpR l a b c d = [] := by
  have : mpB l a b c d = false := by unfold mpB; rw [h]; rfl
  exact ⟨this, by unfold mpR; rw [this]; rfl⟩
theorem mp_no2 {l : List Tm} {a b c d : Int} (h : mpOk a b c d = false) : mpB l a b c d = false ∧ mpR l a b c d = [] := by
  have : mpB l a b c d = false := by unfold mpB; rw [h]; simp
  exact ⟨this, by unfold mpR; rw [this]; rfl⟩
theorem mp_same {a b c d : Int} (h : detB a b c d = true) {s t : Tm} (hs : Same (mpT a b c d s) (mpT a b c d t)) : Same s t := by
  obtain ⟨x, y, u⟩ := s
  obtain ⟨x', y', u'⟩ := t
  unfold Same mpT at *
  simp only at *
  obtain ⟨h1, h2⟩ := hs
  have e1 : (a * d - b * c) * (x - x') = d * (a * x + b * y - (a * x' + b * y')) - b * (c * x + d * y - (c * x' + d * y')) := by grind
  have e2 : (a * d - b * c) * (y - y') = a * (c * x + d * y - (c * x' + d * y')) - c * (a * x + b * y - (a * x' + b * y')) := by grind
  rw [h1, h2] at e1 e2
  simp only [Int.sub_self, Int.mul_zero] at e1 e2
  rcases (detB_iff _ _ _ _).1 h with hd | hd
  · rw [hd] at e1 e2; omega
  · rw [hd] at e1 e2; omega
theorem mp_diff {a b c d : Int} (h : detB a b c d = true) {l : List Tm} (hl : Srt l) : (l.map (mpT a b c d)).Pairwise fun s t => ¬ Same s t := by
  rw [List.pairwise_map]
  exact (srt_diff hl).imp fun hn hs => hn (mp_same h hs)
/-- The rays of a list behind those that have been changed already: there are none yet. -/
def chR (f : Tm → Tm) (l : List Tm) (k : Nat) : List Tm := (l.take k).map f ++ List.replicate (l.length - k) (0, 0, 0)
theorem chR_len (f : Tm → Tm) {l : List Tm} {k : Nat} (hk : k ≤ l.length) : (chR f l k).length = l.length := by
  unfold chR; rw [List.length_append, List.length_map, List.length_take, List.length_replicate]; omega
theorem chR_set (f : Tm → Tm) (l : List Tm) (k : Nat) (hk : k < l.length) : (chR f l k).set k (f (td l k)) = chR f l (k + 1) := by
  unfold chR
  have e : ((l.take k).map f).length = k := by rw [List.length_map, List.length_take]; omega
  rw [List.set_append_right _ _ (by omega), e, Nat.sub_self, show l.length - k = (l.length - (k + 1)) + 1 by omega, List.replicate_succ, List.set_cons_zero, take_td l k hk, List.map_append, List.append_assoc]
  rfl
theorem chR_end (f : Tm → Tm) (l : List Tm) : chR f l l.length = l.map f := by unfold chR; simp
theorem flatT_setR : ∀ (L : List Tm) (i : Nat) (t : Tm), i < L.length → flatT (L.set i t) = (((flatT L).set (i * 3) t.1).set (i * 3 + 1) t.2.1).set (i * 3 + 2) t.2.2
  | a :: r, 0, t, _ => rfl
  | a :: r, i + 1, t, h => by
    have ih := flatT_setR r i t (by simpa using h)
    show encT a ++ flatT (r.set i t) = _
    rw [ih, show (i + 1) * 3 = i * 3 + 3 by omega]
    rfl
theorem made_flat (n : Nat) : ints (flatT (List.replicate n (0, 0, 0))) = (madeCells (.agg #[.int .i64 0, .int .i64 0, .int .i64 0] : Value).cells (n * 3)).toList := by
  have e := made_ints 3 (n * 3) (by omega)
  refine Eq.trans ?_ e.symm
  clear e
  congr 1
  induction n with
  | zero => rfl
  | succ n ih =>
    rw [List.replicate_succ]
    show encT (0, 0, 0) ++ flatT (List.replicate n (0, 0, 0)) = _
    rw [ih, show (n + 1) * 3 = n * 3 + 3 by omega]
    simp [encT, List.replicate_succ]
/-! ### The program -/
def GivesIfR (l : List Tm) (B : Nat) (w : World) (e : Ending) (w' : World) : Prop := ∃ r, e = .returned (.tuple #[r, .bool (ryB l)]) ∧ RyS w' B r (stR l) ∧ Below w.heap.size w w'
theorem givesIfR_no {l : List Tm} {B : Nat} {w w' : World} (h : ryB l = false) (hb : Below w.heap.size w w') : GivesIfR l B w (.returned (.tuple #[.slice none 0 0, .bool false])) w' :=
  ⟨_, by rw [h], by unfold stR; rw [h]; exact FS.nil_ _ _ _ _, hb⟩
theorem givesIfR_yes {l : List Tm} {B : Nat} {v : Value} {w w' : World} (h : ryB l = true) (hv : RyS w' B v l) (hb : Below w.heap.size w w') : GivesIfR l B w (.returned (.tuple #[v, .bool true])) w' :=
  ⟨_, by rw [h], by unfold stR; rw [h]; exact hv, hb⟩
theorem orNone_any (w : World) (B : Nat) (v : Value) (l : List Tm) (h : RyS w B v l) : Calls Try.prog 76 #[v] w fun e w' => GivesIfR l B w e w' := by
  cases hl : ryB l
  · have HL := Lib.hid hl
    clear hl
    go_enter Try.func76, Try.ntmps76
    go_wp2_with fail
    refine (isStar_any _ B _ l h).mono ?_
    rintro e w1 ⟨rfl, b1⟩
    rw [HL.out]
    go_wp2
    go_ret2
    exact givesIfR_no HL.out b1
  · have HL := Lib.hid hl
    clear hl
    go_enter Try.func76, Try.ntmps76
    go_wp2_with fail
    refine (isStar_any _ B _ l h).mono ?_
    rintro e w1 ⟨rfl, b1⟩
    rw [HL.out]
    go_wp2
    go_ret2
    exact givesIfR_yes HL.out (FS.below h b1) b1
theorem stIf_any (w : World) (B : Nat) (v : Value) (l : List Tm) (h : RyS w B v l) : Calls Try.prog 74 #[v] w fun e w' => GivesIfR l B w e w' := by
  cases hl : ryB l
  · have HL := Lib.hid hl
    clear hl
    go_enter Try.func74, Try.ntmps74
    go_wp2_with fail
    refine (stGood_any _ B _ l h).mono ?_
    rintro e w1 ⟨rfl, b1⟩
    rw [HL.out]
    go_wp2
    go_ret2
    exact givesIfR_no HL.out b1
  · have HL := Lib.hid hl
    clear hl
    go_enter Try.func74, Try.ntmps74
    go_wp2_with fail
    refine (stGood_any _ B _ l h).mono ?_
    rintro e w1 ⟨rfl, b1⟩
    rw [HL.out]
    go_wp2
    go_ret2
    exact givesIfR_yes HL.out (FS.below h b1) b1
set_option maxHeartbeats 1000000 in
set_option maxRecDepth 100000 in
theorem putInOrderR_any (w : World) (B B' : Nat) (va vb : Value) (a b : List Tm) (h : RyS w B va a) (h' : RyS w B' vb b) (ha1 : a.length ≤ 1000) (hb1 : b.length ≤ 1000) :
    Calls Try.prog 75 #[.func (.func 69) #[] #[], va, vb] w fun e w' => ∃ r d, e = .returned r ∧ RyS w' w.heap.size r d ∧ Hid (d.Perm (a ++ b) ∧ Wk d) ∧ Below w.heap.size w w' := by
  obtain ⟨A, cap, rfl, -, -⟩ := RyS.parts h
  obtain ⟨A', cap', rfl, -, -⟩ := RyS.parts h'
  have HA := Lib.hid (h.alloc (.cells #[.slice A a.length cap, .slice A' b.length cap'] 47))
  have HB := Lib.hid (h'.alloc (.cells #[.slice A a.length cap, .slice A' b.length cap'] 47))
  have HC := Lib.hid (concatRy_any (w.alloc (.cells #[.slice A a.length cap, .slice A' b.length cap'] 47)) w.heap.size B B' _ _ a b HA.out HB.out ha1 hb1 (by simp [go_sem]) (by simp [go_sem]))
  have hb0 : Below w.heap.size w (w.alloc (.cells #[.slice A a.length cap, .slice A' b.length cap'] 47)) := (Below.refl _ _).alloc (Nat.le_refl _) _
  have HB0 := Lib.hid hb0
  have HL := Lib.hid (show (a ++ b).length ≤ 1000000 by rw [List.length_append]; omega)
  clear h h' hb0
  go_enter Try.func75, Try.ntmps75
  go_wp2_with fail
  refine HC.out.mono ?_
  rintro e w1 ⟨r, rfl, hr, b1⟩
  have HR := Lib.hid (FS.base hr (by rw [World.size_alloc]; exact Nat.le_succ _) : RyS w1 w.heap.size r (a ++ b))
  have B1 := bel2 HB0.out b1
  clear hr b1
  go_wp2_with fail
  refine (sortFuncR_any _ w.heap.size _ _ HR.out HL.out).mono ?_
  rintro e w2 ⟨rfl, d, hd, hp, hw, hg⟩
  have B2 : Below w.heap.size w w2 := B1.grown hg B1.size (fun k hk => (HR.out.lt k hk).1)
  go_wp2
  go_ret
  exact ⟨_, d, rfl, hd, Lib.hid ⟨hp, hw⟩, B2⟩
/-- A function value that changes the rays of a list. -/
def FnRy (g : Nat) (lb : Array Value) (l : List Tm) (f : Tm → Tm) (w : World) : Prop := ∀ (W : World) (k : Nat), k < l.length → Below w.heap.size w W → Calls Try.prog g (#[tmV (td l k)] ++ lb) W fun e w' => e = .returned (tmV (f (td l k))) ∧ Below W.heap.size W w'
set_option maxHeartbeats 2000000 in
set_option maxRecDepth 100000 in
theorem changedStar_any (w : World) (B : Nat) (v : Value) (l : List Tm) (h : RyS w B v l) (hz : l.length ≤ 1000) (g : Nat) (lb : Array Value) (eg : ∀ (args : Array Value) (w : World), (callFunc g args).run Try.prog w = .ok (.enter g args) w) (f : Tm → Tm) (hf : FnRy g lb l f w) (hd : (l.map f).Pairwise fun s t => ¬ Same s t) : Calls Try.prog 78 #[v, .func (.func g) #[] lb] w fun e w' => GivesRyB (ryB (normR (l.map f))) (stR (normR (l.map f))) w e w' := by
  obtain ⟨A, cap, rfl, hm, hp⟩ := RyS.parts h
  have HP := Lib.hid hp
  have HF := Lib.hid hf
  have HD := Lib.hid hd
  obtain ⟨n, hnl⟩ : ∃ n, n = l.length := ⟨_, rfl⟩
  have HN := Lib.hid hnl
  rw [← hnl] at hz hm ⊢
  unfold maxLen at hm
  obtain ⟨i0, hi, hz0, hz1, hz2⟩ := info_parts infoRay
  clear h hp hf hnl hd
  go_enter Try.func78, Try.ntmps78
  go_wp2_with (refine wpList_make_full _ rfl _ _ 47 rfl w.heap.size 39 i0 (.agg #[.int .i64 0, .int .i64 0, .int .i64 0]) 3 Try.underlying47 hi hz0 hz1 .i64 .i64 _ _ n rfl rfl rfl rfl (by rw [hz2]; omega) (by simp only [maxLen]; omega) (Nat.le_refl _) ?_; intro w1 hown hgrow; have hb1 : Below w.heap.size w w1 := (Below.refl _ _).grown hgrow (Nat.le_refl _) (fun _ h => by cases h))
  have hrow0 : w1.ownsRow w.heap.size 39 3 (.slice (some ⟨w.heap.size, 0, none⟩) n n) n (ints (flatT (chR f l 0))) := by
    have e : chR f l 0 = List.replicate n (0, 0, 0) := by simp [chR, HN.out]
    rw [e, made_flat]; exact hown
  clear hown hgrow
  go_wp2
  go_loopw [14] (fun i wr => ∃ j : Nat, j ≤ n ∧ i = .int .i64 j ∧ Hid (wr.ownsRow w.heap.size 39 3 (.slice (some ⟨w.heap.size, 0, none⟩) n n) n (ints (flatT (chR f l j)))) ∧ Below w.heap.size w wr) (fun i _ => n - (intOf i).toNat)
  case atStart => exact ⟨0, by omega, rfl, Lib.hid hrow0, hb1⟩
  case round =>
    obtain ⟨j, hj, rfl, hrow, hb⟩ := hrel
    clear hrow0 hb1
    by_cases hlt : j < n
    · have hjl : j < l.length := by rw [← HN.out]; exact hlt
      obtain ⟨gs, rfl, hx0⟩ := HP.out j hjl
      obtain ⟨c0, c1, c2⟩ := X3.below hx0 hb
      have hbA := hb.alloc hb.size (.cells #[.int .i64 (td l j).1, .int .i64 (td l j).2.1, .int .i64 (td l j).2.2] 39)
      have hrA := Lib.hid (World.ownsRow.alloc hrow.out (.cells #[.int .i64 (td l j).1, .int .i64 (td l j).2.1, .int .i64 (td l j).2.2] 39))
      have hcall := Lib.hid (HF.out _ j hjl hbA)
      have hgl : gs < wr.heap.size := cell_lt c0
      go_wp2_with fail
      refine hcall.out.mono ?_
      rintro e w3 ⟨rfl, b3⟩
      have hb3 := bel2 hbA b3
      obtain ⟨x, hx⟩ : ∃ x, x = f (td l j) := ⟨_, rfl⟩
      rw [← hx]
      have hr3 := FS.below (zs := flatT (chR f l j)) hrA.out b3
      have hl3 : w.heap.size < w3.heap.size := (World.ownsRow.lt hr3 w.heap.size rfl).2
      have hcell : ∀ i, i < n * 3 → ∃ u, w3.cell? ⟨w.heap.size, i, none⟩ = some u := fun i hi => by
        have e := World.ownsRow.cellAt hr3 i hi
        have hlen : (ints (flatT (chR f l j))).length = n * 3 := hr3.1
        rw [List.getElem?_eq_getElem (by omega)] at e
        exact ⟨_, e⟩
      obtain ⟨u0, d0⟩ := hcell (j * 3) (by omega)
      obtain ⟨u1, d1⟩ := hcell (j * 3 + 1) (by omega)
      obtain ⟨u2, d2⟩ := hcell (j * 3 + 2) (by omega)
      have f0 := World.ownsRow.frozenAt hr3 (j * 3)
      have f1 := World.ownsRow.frozenAt hr3 (j * 3 + 1)
      have f2 := World.ownsRow.frozenAt hr3 (j * 3 + 2)
      have s0 := World.ownsRow.stored hr3 (j * 3) (.int .i64 x.1)
      have s1 := World.ownsRow.stored s0.1 (j * 3 + 1) (.int .i64 x.2.1)
      have s2 := World.ownsRow.stored s1.1 (j * 3 + 2) (.int .i64 x.2.2)
      have hrow4 := s2.1
      rw [show (((ints (flatT (chR f l j))).set (j * 3) (.int .i64 x.1)).set (j * 3 + 1) (.int .i64 x.2.1)).set (j * 3 + 2) (.int .i64 x.2.2) = ints (flatT (chR f l (j + 1))) from by rw [← chR_set f l j hjl, ← hx, flatT_setR _ j _ (by rw [chR_len f (by omega)]; exact hjl)]; unfold ints; simp only [List.map_set]] at hrow4
      have hb4 : Below w.heap.size w (((w3.setCell ⟨w.heap.size, j * 3, none⟩ (.int .i64 x.1)).setCell ⟨w.heap.size, j * 3 + 1, none⟩ (.int .i64 x.2.1)).setCell ⟨w.heap.size, j * 3 + 2, none⟩ (.int .i64 x.2.2)) := ((hb3.setCell (Nat.le_refl _) _).setCell (Nat.le_refl _) _).setCell (Nat.le_refl _) _
      have HE := Lib.hid (And.intro hrow4 hb4)
      clear s0 s1 s2 hrow4 hb4 hr3 hrow hrA hcall c0 c1 c2 hx hb3 b3 hbA hcell hx0
      go_wp2
      go_roundw
      case rel => exact ⟨j + 1, by omega, by go_num, Lib.hid HE.out.1, HE.out.2⟩
      case measure => simp [intOf]; omega
    · obtain rfl : j = n := by omega
      have ho : RyS wr w.heap.size (.slice (some ⟨w.heap.size, 0, none⟩) j j) (l.map f) := by
        have h1 := hrow.out
        rw [show chR f l j = l.map f by rw [HN.out]; exact chR_end f l] at h1
        unfold RyS FS
        rw [List.length_map, ← HN.out]
        exact h1
      have HO := Lib.hid ho
      clear ho hrow
      go_wp2_with fail
      refine (putInOrderR_any _ w.heap.size w.heap.size _ _ (l.map f) [] HO.out (FS.nil_ _ _ _ _) (by rw [List.length_map, ← HN.out]; omega) (by simp)).mono ?_
      rintro e w3 ⟨r, d, rfl, hr, hpd, b3⟩
      have HE := Lib.hid (show d = normR (l.map f) from sort_put hpd.out.2 (by have := hpd.out.1; rwa [List.append_nil] at this) HD.out)
      rw [HE.out] at hr
      have B3 := bel2 hb b3
      have hs := B3.size
      clear hpd
      go_wp2_with fail
      refine (orNone_any _ _ _ _ hr).mono ?_
      rintro e w4 ⟨r4, rfl, hr4, b4⟩
      go_wp2
      go_ret2
      exact ⟨r4, rfl, FS.base hr4 hb.size, bel2 B3 b4⟩
end Go.Proofs.Ythegkifhbgopoaa

/-
  The indices of a set of twelve places: what the call returns.
  Condition: the set has twelve places.
-/
import Derived.Test.YtcfplfjllnojoaaGreatCeM
import Derived.Test.YtcfplfjllnojoaaGreatShift
import Derived.Test.YtcfplfjllnojoaaGreatRow
import Derived.Test.YtcfplfjllnojoaaGreatSl
import Derived.Sort.MapsRangeIn
import Derived.RangeFuncBox
import Derived.RangeFuncLeaves
import Derived.RangeFuncNested
import Derived.RangeFuncBound
import Derived.RangeFuncCalls
import Derived.Shelf.Abstract
import Derived.Shelf.RegionOpen
import Derived.OwnWalkIn
import Derived.TacticsInMore
import Derived.LoopNIn
import Derived.LoopIn
import Derived.Maps.AppendAt
import Derived.Maps.OwnIn
import Derived.Maps.RangeWalk
import Derived.Maps.Ext
import Derived.DeepKeys5
namespace Go.Proofs.YtcfplfjllnojoaaGreat
set_option linter.unusedSimpArgs false
set_option linter.unusedVariables false
open Go.ChangeShapes Go.WideShapes Go.ChangeAt Go.RowKit

/-- A set as a value. -/
def tsV (bs : List Bool) : Value := .agg (bs.map Value.bool).toArray
theorem ts_twelve {bs : List Bool} (h : bs.length = 12) : ∃ b0 b1 b2 b3 b4 b5 b6 b7 b8 b9 b10 b11, bs = [b0, b1, b2, b3, b4, b5, b6, b7, b8, b9, b10, b11] := by
  match bs, h with
  | [b0, b1, b2, b3, b4, b5, b6, b7, b8, b9, b10, b11], _ => exact ⟨_, _, _, _, _, _, _, _, _, _, _, _, rfl⟩
set_option maxRecDepth 100000 in
theorem ix_at (b0 b1 b2 b3 b4 b5 b6 b7 b8 b9 b10 b11 : Bool) (k : Nat) (hk : k < 12) (w : World) :
    (Instr.index 93 (.agg #[.bool b0, .bool b1, .bool b2, .bool b3, .bool b4, .bool b5, .bool b6, .bool b7, .bool b8, .bool b9, .bool b10, .bool b11]) (.int .i64 (k : Int))).run Tryz.prog w = .ok (.bool ([b0, b1, b2, b3, b4, b5, b6, b7, b8, b9, b10, b11].getD k false)) w := by
  have hcs : k = 0 ∨ k = 1 ∨ k = 2 ∨ k = 3 ∨ k = 4 ∨ k = 5 ∨ k = 6 ∨ k = 7 ∨ k = 8 ∨ k = 9 ∨ k = 10 ∨ k = 11 := by omega
  rcases hcs with rfl | rfl | rfl | rfl | rfl | rfl | rfl | rfl | rfl | rfl | rfl | rfl <;> rfl
set_option maxHeartbeats 2000000 in
set_option maxRecDepth 100000 in
theorem indices_any (bs : List Bool) (w : World) (h : bs.length = 12) : Calls Tryz.prog 65 #[tsV bs] w fun e w' => GivesI (ixL bs 12) w e w' := by
  obtain ⟨b0, b1, b2, b3, b4, b5, b6, b7, b8, b9, b10, b11, hbs⟩ := ts_twelve h
  have HB := Lib.hid hbs
  have hix := fun k hk w => ix_at b0 b1 b2 b3 b4 b5 b6 b7 b8 b9 b10 b11 k hk w
  rw [← hbs] at hix
  have HIX := Lib.hid hix
  rw [show tsV bs = .agg #[.bool b0, .bool b1, .bool b2, .bool b3, .bool b4, .bool b5, .bool b6, .bool b7, .bool b8, .bool b9, .bool b10, .bool b11] by rw [hbs]; rfl]
  obtain ⟨i0, hi, hz0, hz1, hz2⟩ := info_parts infoInt
  clear hbs hix h
  go_enter Tryz.func65, Tryz.ntmps65
  go_wp2
  go_loopw [3, 7] (fun o q wr => ∃ k : Nat, k ≤ 12 ∧ q = .int .i64 k ∧ IS wr w.heap.size o (ixL bs k) ∧ Below w.heap.size w wr) (fun _ q _ => 12 - (intOf q).toNat)
  case atStart => exact ⟨0, by omega, rfl, IS.nil_ _ _, (Below.refl _ _).alloc (Nat.le_refl _) _⟩
  case round =>
    obtain ⟨k, hk, rfl, ho, hb⟩ := hrel
    by_cases hlt : k < 12
    · have hkI : (k : Int) < 12 := by omega
      have hx := HIX.out k hlt
      have hkl := ixL_len bs k
      cases hq : bs.getD k false
      · have HE := Lib.hid (ixL_no hq)
        rw [hq] at hx
        clear hq
        go_wp2
        go_roundw
        case rel => exact ⟨k + 1, by omega, by go_num, by rw [HE.out]; exact ho, hb⟩
        case measure => simp [intOf]; omega
      · have HE := Lib.hid (ixL_yes hq)
        rw [hq] at hx
        have ho' : wr.ownsRow w.heap.size 3 1 u3 (ixL bs k).length (ints (ixL bs k)) := ho
        clear hq
        go_wp2_with (at_builtin; refine wpList_append_own _ rfl _ _ 36 rfl w.heap.size 3 i0 (.int .i64 0) 1 8 Tryz.underlying36 hi hz0 hz1 hz2 rfl (by decide) _ _ _ rfl (ho'.alloc _) ⟨wr.heap.size, 0, none⟩ 1 1 [.int .i64 (k : Int)] rfl rfl (one_new _ _) (by simp [Value.oneCell']) (by unfold maxLen; omega) (by omega) (by have := hb.size; simp; omega) ?_; intro v' w1 hown' hgrow hnil)
        have hb' : Below w.heap.size w w1 := (hb.alloc hb.size _).grown hgrow (by have := hb.size; simp; omega) (fun g' hg' => (World.ownsRow.lt ho' g' hg').1)
        have hrow := IS.snoc rfl hown'
        rw [← HE.out] at hrow
        go_wp2
        go_roundw
        case rel => exact ⟨k + 1, by omega, by go_num, hrow, hb'⟩
        case measure => simp [intOf]; omega
    · obtain rfl : k = 12 := by omega
      go_wp2
      go_ret
      exact ⟨_, rfl, ho, hb⟩
end Go.Proofs.YtcfplfjllnojoaaGreat
/-
  maps.Values at a map whose elements are slices of integers, slices.AppendSeq and slices.Collect: what each call returns.
  Condition: the map is one that the call has made.
-/
namespace Go.Proofs.YtcfplfjllnojoaaGreat
set_option linter.unusedSimpArgs false
set_option linter.unusedVariables false
open Go.ChangeShapes Go.WideShapes Go.ChangeAt Go.RowKit Go.Maps
open Go.Sort (grow)

/-- Slice values, as what a map's elements read as. -/
def IsSl (v : Value) : Prop := ∃ A n c, v = .slice A n c
abbrev OV := { v : Value // IsSl v }
open Classical in
noncomputable def hR (v : Value) : Option (DataW Value × List MemPlace) := if IsSl v then some (.held v, []) else none
theorem hR_yes {v : Value} (h : IsSl v) : hR v = some (.held v, []) := by unfold hR; rw [if_pos h]
theorem hR_inv {v : Value} {y : DataW Value × List MemPlace} (h : hR v = some y) : IsSl v ∧ y = (.held v, []) := by
  unfold hR at h
  split at h
  · next h1 => exact ⟨h1, (Option.some.inj h).symm⟩
  · cases h
/-- The keys that have come. -/
def KeysC (D0 : DataW Value) (left : Lit → Bool) (ks : List Lit) : Prop := ks.Nodup ∧ ∀ x, x ∈ ks ↔ (has D0 x = true ∧ left x = false)
theorem KeysC.start (D0 : DataW Value) : KeysC D0 (has D0) [] := ⟨List.nodup_nil, fun x => by cases has D0 x <;> simp⟩
theorem KeysC.step {D0 : DataW Value} {left : Lit → Bool} {ks : List Lit} {kl : Lit} (h : KeysC D0 left ks) (hk : WideAt.IsKeyLit kl) (hlk : left kl = true) {y : DataW Value} (hat : ∀ zd, D0.atKey kl zd = y) : KeysC D0 (fun z => left z && !z.sameKey kl) (ks ++ [kl]) := by
  have hhas : has D0 kl = true := has_true_of_atKey hat
  constructor
  · refine List.nodup_append.2 ⟨h.1, by simp, fun a ha b hb e => ?_⟩
    rw [List.mem_singleton] at hb
    subst hb; subst e
    have := ((h.2 _).1 ha).2
    rw [hlk] at this; cases this
  · intro x
    rw [List.mem_append, List.mem_singleton, h.2 x]
    constructor
    · rintro (⟨h1, h2⟩ | rfl)
      · exact ⟨h1, by show (left x && !x.sameKey kl) = false; rw [h2]; rfl⟩
      · exact ⟨hhas, by show (left x && !x.sameKey x) = false; rw [hlk, WideAt.sameKey_self hk]; rfl⟩
    · rintro ⟨h1, h2⟩
      replace h2 : (left x && !x.sameKey kl) = false := h2
      cases hl : left x
      · exact .inl ⟨h1, rfl⟩
      · rw [hl] at h2
        right
        exact WideAt.sameKey_eq (by simpa using h2)
/-- ALL HAVE COME: the keys, each once, in some order; each with its value. -/
def AllOf (D0 : DataW Value) (ps : List (Lit × OV)) : Prop := (ps.map (·.1)).Nodup ∧ (∀ x, x ∈ ps.map (·.1) ↔ has D0 x = true) ∧ ∀ p ∈ ps, ∀ zd, D0.atKey p.1 zd = .held p.2.1
theorem callsIn_of {P : Program} {f : Nat} {args : Array Value} {w : World} {n : Nat} {R : Ending → World → Prop} (h : ∀ F : Fence, (∀ g, F.fn g) → F.round = none → CallsIn F n P f args w R) : Calls P f args w R :=
  (callsIn_wide (n := n)).1 (h _ (fun _ => trivial) rfl)
theorem tsKeyed : Keyed Tryz.prog 93 := Keyed.of_law (deep_law_gate (by kernel_rfl) (of_decide_eq_true (by kernel_rfl)) (of_decide_eq_true (by kernel_rfl)) (by kernel_rfl) (by kernel_rfl))
set_option maxRecDepth 100000 in
set_option maxHeartbeats 1000000 in
/-- maps.Values' iterator, for every loop body. -/
theorem values1_in (F : Fence) (n : Nat) (h8 : F.fn 95) (hro : F.round = none) (hn : 1 ≤ n) (l Bm b nn : Nat) (D0 : DataW Value) (J Jx : List OV → World → Prop)
    (hY : ∀ pre x W, J pre W → pre.length < Maps.size D0 → YieldAt F (n - 1) Tryz.prog l #[x.1] W fun e W' =>
      (e = .returned (.bool true) ∧ J (pre ++ [x]) W' ∧ KeepsWalks W W') ∨ (e = .returned (.bool false) ∧ Jx (pre ++ [x]) W'))
    (W : World) (hJ : AbidesFrom W.heap.size J) (hm : W.cell? ⟨Bm, 0, none⟩ = some (.map (some b))) (hown : W.ownsMap Tryz.prog 93 hR b nn D0) (h0 : J [] W) :
    CallsIn F n Tryz.prog 95 #[.func (.yield l) #[] #[], .pointer (some ⟨Bm, 0, none⟩)] W fun e W' => (∃ v, e = .returned v) ∧
      ((∃ xs, (∃ ps, AllOf D0 ps ∧ xs = ps.map (·.2)) ∧ J xs W') ∨ (∃ pre : List OV, True ∧ Jx pre W')) := by
  refine callsIn_of_wp Tryz.func95 rfl h8 ?_ hro
  simp only [Tryz.ntmps95, List.size_toArray, List.length_cons, List.length_nil, Nat.reduceAdd, Nat.reduceSub, Array.replicate_succ, Array.replicate_zero, List.push_toArray, List.append_toArray, List.nil_append, List.cons_append]
  gi_wp2_with (first
    | (gi_at_range; refine wpListIn_range_own _ rfl _ 87 rfl 93 36 tsKeyed Tryz.underlying87 _ b nn _ rfl hown ?_; intro w0 hrg0 hg0 hs0)
    | gi_in)
  go_frame
  gi_loopw [4] (fun _ wr => ∃ (left : Lit → Bool) (cnt : Nat) (ps : List (Lit × OV)), wr.ranges Tryz.prog 93 hR b W.heap.size nn D0 left cnt ∧ ps.length + cnt ≤ Maps.size D0 ∧ KeysC D0 left (ps.map (·.1)) ∧ (∀ p ∈ ps, ∀ zd, D0.atKey p.1 zd = .held p.2.1) ∧ J (ps.map (·.2)) wr)
    (fun _ wr => wr.rangeLeft b W.heap.size)
  case atStart =>
    exact ⟨_, _, [], hrg0, by simp, KeysC.start D0, by simp, hJ [] W w0 none h0 hg0 (fun r e => by cases e)⟩
  case round =>
    obtain ⟨left, cnt, ps, hrg, hcs, hC, hV, hJs⟩ := hrel
    gi_wp2_with (first
      | (gi_at_next; refine wpListIn_next_ranges _ rfl _ rfl 93 tsKeyed hR (id : Value → Value) (Subtype.val : OV → Value) (fun key kl hk => ⟨key, rfl⟩) (fun v y hv => ⟨⟨v, (hR_inv hv).1⟩, rfl⟩) b W.heap.size nn _ _ _ rfl hrg ?_ ?_)
      | gi_in)
    · intro hc0 hl0
      gi_wp2
      go_end0
      exact ⟨⟨_, rfl⟩, .inl ⟨_, ⟨ps, ⟨hC.1, fun x => by rw [hC.2 x, hl0]; simp, hV⟩, rfl⟩, hJs⟩⟩
    · intro x c hc1 kl yd yp w2 cnt2 hkey hlk hv hat hrg2 hlt hg2 hs2 hen
      obtain ⟨-, hyd⟩ := hR_inv hv
      have hat' : ∀ zd, D0.atKey kl zd = .held c := fun zd => by rw [hat zd, (Prod.mk.inj hyd).1]
      have hJ2 : J (ps.map (·.2)) w2 := hJ _ wr w2 (some W.heap.size) hJs hg2 (fun r e => by cases e; exact ⟨Nat.le_refl _, hrg.iter_walk⟩)
      obtain ⟨fn, tmps, assign, body, hy, hR'⟩ := hY (ps.map (·.2)) ⟨c, hc1⟩ w2 hJ2 (by simp; omega)
      clear hs2
      gi_wp2
      refine hR'.mono ?_
      have hC2 : KeysC D0 (fun z => left z && !z.sameKey kl) ((ps ++ [(kl, (⟨c, hc1⟩ : OV))]).map (·.1)) := by simpa using hC.step (tsKeyed.key hkey) hlk hat'
      have hV2 : ∀ p ∈ ps ++ [(kl, (⟨c, hc1⟩ : OV))], ∀ zd, D0.atKey p.1 zd = .held p.2.1 := fun p hp => (List.mem_append.1 hp).elim (hV p) (fun e => by rw [List.mem_singleton] at e; subst e; exact hat')
      rintro e W3 (⟨rfl, hJ3, hk3⟩ | ⟨rfl, hJx3⟩)
      · gi_wp2
        have hrg3 := hrg2.of_walks hk3
        go_roundw
        case rel => exact ⟨_, cnt2, ps ++ [(kl, (⟨c, hc1⟩ : OV))], hrg3, by simp; omega, hC2, hV2, by simpa using hJ3⟩
        case measure => rw [hrg3.left_eq, hrg.left_eq]; exact hlt
      · gi_wp2
        refine bodyPost_ret (results_none rfl _ _ _) rfl ?_
        exact ⟨⟨_, rfl⟩, .inr ⟨_, trivial, hJx3⟩⟩
theorem values_stops (F : Fence) (n : Nat) (h7 : F.fn 95) (hro : F.round = none) (hn : 1 ≤ n) (Bm b nn : Nat) (D0 : DataW Value) (w : World) (hBm : Bm < w.heap.size)
    (hm : w.cell? ⟨Bm, 0, none⟩ = some (.map (some b))) (hown : w.ownsMap Tryz.prog 93 hR b nn D0) :
    SeqStops F n Tryz.prog 95 #[.pointer (some ⟨Bm, 0, none⟩)] (fun c : OV => c.1) (fun xs => ∃ ps, AllOf D0 ps ∧ xs = ps.map (·.2)) (fun _ => True) (Maps.size D0) w := fun l J Jx W hW hJ _ hY h0 => by
  have hown' : W.ownsMap Tryz.prog 93 hR b nn D0 := by
    have hbl := hown.lt
    obtain ⟨es, clock, hb, Ft, hs, hD⟩ := hown
    exact ⟨es, clock, (hW.block b hbl).trans hb, Ft, hs, hD⟩
  exact values1_in F n h7 hro hn l Bm b nn D0 J Jx hY W hJ ((hW.cell (p := ⟨Bm, 0, none⟩) hBm).trans hm) hown' h0
set_option maxHeartbeats 1000000 in
theorem values_any (mb : Option Nat) (w : World) : Calls Tryz.prog 67 #[.map mb] w fun e w' => e = .returned (.func (.func 95) #[] #[.pointer (some ⟨w.heap.size, 0, none⟩)]) ∧ w' = w.alloc (.cells #[.map mb] 87) := by
  go_enter Tryz.func67, Tryz.ntmps67
  go_wp2
  go_ret
  exact ⟨rfl, rfl⟩
attribute [local go_sem] Oper.semAt_some
set_option maxRecDepth 100000 in
set_option maxHeartbeats 2000000 in
/-- slices.AppendSeq(nil, seq): a slice that owns what has come, in its order. -/
theorem appendSeq_in (F : Fence) (n : Nat) (h3 : F.fn 112) (hro : F.round = none) (hn : 3 ≤ n) (g : Nat) (lb : Array Value) (hFg : F.fn g) (eg : ∀ args w, (callFunc g args).run Tryz.prog w = .ok (.enter g args) w)
    (S Sp : List OV → Prop) (N : Nat) (hN : N ≤ 1000000) (w : World) (hseq : SeqStops F (n - 1) Tryz.prog g lb (fun c : OV => c.1) S Sp N w) :
    CallsIn F n Tryz.prog 112 #[.slice none 0 0, .func (.func g) #[] lb] w fun e W' => ∃ v xs, e = .returned v ∧ S xs ∧ W'.ownsRow w.heap.size 36 1 v xs.length (xs.map Subtype.val) ∧ (v = .slice none 0 0 ↔ xs = []) ∧ Below w.heap.size w W' := by
  have h1 : 1 ≤ n := by omega
  obtain ⟨i0, hi, hz0, hz1, hz2⟩ := info_parts infoSl
  refine callsIn_of_wp_marks Tryz.func112 rfl h3 ?_ hro
  simp only [Tryz.ntmps112, List.size_toArray, List.length_cons, List.length_nil, Nat.reduceAdd, Nat.reduceSub, Array.replicate_succ, Array.replicate_zero, List.push_toArray, List.append_toArray, List.nil_append, List.cons_append]
  gi_wp2
  have bO := Boxed.new w 24 (.slice none 0 0)
  have hB0 : Below w.heap.size w (w.alloc (.cells #[.slice none 0 0] 24)) := (Below.refl _ w).alloc (Nat.le_refl _) _
  refine wpIn_rangeFunc_ownG hro h1 (gf := g) (lb := lb) rfl hFg eg hseq walksK_t walksK_b hB0 (fun _ => rfl)
    (fun pre W => (∃ v, Boxed W w.heap.size 24 v ∧ W.ownsRow w.heap.size 36 1 v pre.length (pre.map Subtype.val) ∧ (v = .slice none 0 0 ↔ pre = [])) ∧ Below w.heap.size w W)
    (fun _ _ _ => False)
    (OwnFrom.and (Own.from (holdsRow_own w.heap.size w.heap.size 24 36 1 (fun pre : List OV => pre.length) (fun pre => pre.map Subtype.val) (fun pre v => v = .slice none 0 0 ↔ pre = [])) _) (ownFrom_below (Nat.le_refl _) (by simp)))
    (fun _ _ _ _ _ hs _ _ => hs)
    ⟨⟨_, bO, World.ownsRow_nil _ _ _ _, by simp⟩, hB0⟩
    (fun x => { tmps := #[.slice none 0 0, .func (.func g) #[] lb, .pointer (some ⟨w.heap.size, 0, none⟩), undef, .slice none 0 0, x.1, .func (.func g) #[] lb, x.1, undef, undef, undef, undef, undef], defers := [] }) ?assign ?body ?done ?stop
  case assign =>
    intro l x W K hK
    gi_wp2
    exact hK
  case body =>
    rintro l pre ⟨x, A, m, c, rfl⟩ W ⟨⟨v, hv, hrow, hnil⟩, hB⟩ hlt
    have hc := hv.cell
    gi_wp2_with (gi_at_builtin; refine wpListIn_append_own _ rfl _ _ 24 rfl w.heap.size 36 i0 (.slice none 0 0) 1 24 Tryz.underlying24 hi hz0 hz1 hz2 rfl (by decide) _ _ _ rfl (hrow.alloc _) ⟨W.heap.size, 0, none⟩ 1 1 [.slice A m c] rfl rfl (cell_one_new _ _ _) (by simp [Value.oneCell']) (by unfold maxLen; omega) (by omega) (by have := hB.size; simp; omega) ?_; intro v' w1 hown' hgrow _; obtain ⟨g', cap', rfl⟩ := ownsRow_succ hown'; obtain ⟨hv1, hv2, hr2, hk2, hb2⟩ := hv.appended (by decide) hrow hB.size (Nat.le_refl _) hown' hgrow; have hc1 := hv1.cell; have hf1 := hv1.frozen)
    exact ⟨hk2.from _, hk2.walks, ⟨_, hv2, by simpa using hr2, by simp⟩, hB.trans hb2⟩
  case done =>
    rintro D ys W hD hS ⟨⟨v, hv, hrow, hnil⟩, hB⟩ hK
    have hc := hv.cell
    gi_wp2
    refine ⟨by simp, .inl ⟨_, _, rfl, run_takeDeferred hK, ?_⟩⟩
    exact ⟨_, results_tmp rfl _ _ _, v, ys, rfl, hS, ownsRow_putObj hrow _ hK rfl, hnil, hB.trans (belowK_b (w := w) (Nat.le_refl _) W D _ _ (by simp at hD; omega) hK rfl rfl)⟩
  case stop =>
    rintro D c pre W _ _ h _
    exact h.elim
set_option maxHeartbeats 1000000 in
theorem collect_in (F : Fence) (n : Nat) (hF : ∀ g, F.fn g) (hro : F.round = none) (hn : 4 ≤ n) (g : Nat) (lb : Array Value) (eg : ∀ args w, (callFunc g args).run Tryz.prog w = .ok (.enter g args) w)
    (S Sp : List OV → Prop) (N : Nat) (hN : N ≤ 1000000) (w : World) (hseq : SeqStops F (n - 1 - 1) Tryz.prog g lb (fun c : OV => c.1) S Sp N w) :
    CallsIn F n Tryz.prog 94 #[.func (.func g) #[] lb] w fun e W' => ∃ v xs, e = .returned v ∧ S xs ∧ W'.ownsRow w.heap.size 36 1 v xs.length (xs.map Subtype.val) ∧ (v = .slice none 0 0 ↔ xs = []) ∧ Below w.heap.size w W' := by
  have h1 : 1 ≤ n := by omega
  refine callsIn_of_wp Tryz.func94 rfl (hF _) ?_ hro
  simp only [Tryz.ntmps94, List.size_toArray, List.length_cons, List.length_nil, Nat.reduceAdd, Nat.reduceSub, Array.replicate_succ, Array.replicate_zero, List.push_toArray, List.append_toArray, List.nil_append, List.cons_append]
  gi_wp2_with (gi_at_call 112; refine (appendSeq_in F (n - 1) (hF _) hro (by omega) g lb (hF _) eg S Sp N hN _ hseq).mono ?_; rintro e w' ⟨v, ss, rfl, hS, hrow, hnil, hb⟩)
  go_ret
  exact ⟨v, ss, rfl, hS, hrow, hnil, hb⟩
end Go.Proofs.YtcfplfjllnojoaaGreat

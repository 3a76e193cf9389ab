/-
  The model's cursor over the drawn bytes (l1Cur): what each of its methods does.
  Condition: the cursor lies in one block of the call's own, its bytes can be read, and it has not been used too often to count.
-/
import Derived.Test.YtamejfeaniokfaaList
import Derived.Laws.Bits64b
import Derived.IntWalk
import Derived.Laws.IdiomStrings
import Derived.Laws.Concat
namespace Go.Proofs.Ytamejfeaniokfaa
set_option linter.unusedSimpArgs false
set_option linter.unusedVariables false
open Go.ChangeShapes Go.WideShapes Go.ChangeAt Go.RowKit

/-- Block g is just these cells. -/
def Blk (w : World) (g : Nat) (t : TypeId) (cs : Array Value) : Prop := w.heap[g]? = some (.cells cs t (0, 0))
theorem Blk.lt {w : World} {g : Nat} {t : TypeId} {cs : Array Value} (h : Blk w g t cs) : g < w.heap.size := by
  rcases Nat.lt_or_ge g w.heap.size with hlt | hge
  · exact hlt
  · unfold Blk at h; rw [Array.getElem?_eq_none hge] at h; cases h
theorem Blk.cell {w : World} {g : Nat} {t : TypeId} {cs : Array Value} (h : Blk w g t cs) (i : Nat) : w.cell? ⟨g, i, none⟩ = cs[i]? := cell_of_row w g i cs t (0, 0) h
theorem Blk.frozen {w : World} {g : Nat} {t : TypeId} {cs : Array Value} (h : Blk w g t cs) (i : Nat) : w.frozen? ⟨g, i, none⟩ = false := by
  unfold Blk at h; simp [World.frozen?, h]
theorem Blk.set_ {w : World} {g : Nat} {t : TypeId} {cs : Array Value} (h : Blk w g t cs) (i : Nat) (u : Value) : Blk (w.setCell ⟨g, i, none⟩ u) g t (cs.setIfInBounds i u) := by
  unfold Blk at h ⊢
  simp [World.setCell, Array.getElem?_modify, h]
theorem grown_drewC {a w : World} {row : Option Nat} (h : a.grownBy w row) (n : Nat) : a.grownBy (w.drewN n) row := ⟨h.os, h.tape, h.output, h.size, h.block⟩
/-- The bytes that the cursor goes over, below block b. -/
def RB (w : World) (b : Nat) (A : Option Addr) (n : Nat) : Prop := ∀ k, k < n → ∃ (ad : Addr) (c : Nat), A = some ad ∧ ad.block < b ∧ w.cell? (ad.add k) = some (.int .u8 (c : Int)) ∧ c ≤ 255
/-- The cursor in block b, used at most k times. -/
def Cur (w : World) (b k : Nat) : Prop := ∃ (A : Option Addr) (n cap at_ : Nat) (seed : Int), Blk w b 49 #[.slice A n cap, .int .i64 (at_ : Int), .int .u64 seed] ∧ at_ ≤ k ∧ n ≤ 1048576 ∧ (0 ≤ seed ∧ seed < 18446744073709551616) ∧ RB w b A n
theorem RB.grown {w w' : World} {b : Nat} {A : Option Addr} {n : Nat} (h : RB w b A n) (hg : w.grownBy w' (some b)) : RB w' b A n := fun k hk => by
  obtain ⟨ad, c, h1, h2, h3, h4⟩ := h k hk
  refine ⟨ad, c, h1, h2, hg.cell h3 ?_, h4⟩
  have : (ad.add k).block = ad.block := by unfold Addr.add; split <;> rfl
  rw [this]
  intro he
  injection he with he
  omega
theorem Cur.more {w : World} {b k k' : Nat} (h : Cur w b k) (hk : k ≤ k') : Cur w b k' := by
  obtain ⟨A, n, cap, at_, seed, h1, h2, h3⟩ := h
  exact ⟨A, n, cap, at_, seed, h1, by omega, h3⟩
theorem Cur.lt {w : World} {b k : Nat} (h : Cur w b k) : b < w.heap.size := by
  obtain ⟨A, n, cap, at_, seed, h1, _⟩ := h
  exact h1.lt
/-- Elsewhere is written: the cursor stays. -/
theorem Cur.below {w w' : World} {b k : Nat} (h : Cur w b k) (hb : Below w.heap.size w w') : Cur w' b k := by
  obtain ⟨A, n, cap, at_, seed, h1, h2, h3, h4, h5⟩ := h
  refine ⟨A, n, cap, at_, seed, (hb.block b h1.lt).trans h1, h2, h3, h4, fun k hk => ?_⟩
  obtain ⟨ad, c, e1, e2, e3, e4⟩ := h5 k hk
  refine ⟨ad, c, e1, e2, ?_, e4⟩
  have hlt := h1.lt
  have : (ad.add k).block = ad.block := by unfold Addr.add; split <;> rfl
  exact (hb.cell (p := ad.add k) (by omega)).trans e3
/-- What a method of the cursor leaves: a number with P, the cursor used at most j times more, nothing else turned. -/
def Takes (P : Int → Prop) (b k : Nat) (w : World) (e : Ending) (w' : World) : Prop := ∃ r : Int, e = .returned (.int .i64 r) ∧ P r ∧ Cur w' b k ∧ w.grownBy w' (some b)
theorem u64_wrap (x : Int) : 0 ≤ IntKind.u64.wrap x ∧ IntKind.u64.wrap x < 18446744073709551616 := by
  rw [show IntKind.u64.wrap x = x % 18446744073709551616 by simp [IntKind.wrap, IntKind.bits, IntKind.signed]]
  omega
theorem wrap_shift (x : Int) : 0 ≤ IntKind.u64.wrap x / 1099511627776 ∧ IntKind.u64.wrap x / 1099511627776 < 18446744073709551616 := by
  have := u64_wrap x
  omega
theorem and255 (y : Int) (h : 0 ≤ y ∧ y < 18446744073709551616) : 0 ≤ wrap64 (bits .and .u64 y 255) ∧ wrap64 (bits .and .u64 y 255) ≤ 255 := by
  obtain ⟨a, rfl⟩ : ∃ a : Nat, y = a := ⟨y.toNat, by omega⟩
  have hb := bits_and_u64_nat a 255 (by omega) (by omega)
  have hle : a &&& 255 ≤ 255 := Nat.and_le_right
  rw [show ((255 : Nat) : Int) = 255 from rfl] at hb
  rw [hb, IntWalk.wrap64_in _ ⟨by omega, by omega⟩]
  omega
/-- One use of the cursor. -/
theorem cur_step {w : World} {b k : Nat} {A : Option Addr} {n cap at_ : Nat} {seed : Int} (hB : Blk w b 49 #[.slice A n cap, .int .i64 (at_ : Int), .int .u64 seed]) (h2 : at_ ≤ k) (h3 : n ≤ 1048576) (h5 : RB w b A n) (m1 m2 : Nat) (x : Int) :
    Cur ((((w.drewN m1).setCell ⟨b, 1, none⟩ (.int .i64 ((at_ : Int) + 1))).setCell ⟨b, 2, none⟩ (.int .u64 (IntKind.u64.wrap x))).drewN m2) b (k + 1) ∧ w.grownBy ((((w.drewN m1).setCell ⟨b, 1, none⟩ (.int .i64 ((at_ : Int) + 1))).setCell ⟨b, 2, none⟩ (.int .u64 (IntKind.u64.wrap x))).drewN m2) (some b) := by
  have hg : w.grownBy ((((w.drewN m1).setCell ⟨b, 1, none⟩ (.int .i64 ((at_ : Int) + 1))).setCell ⟨b, 2, none⟩ (.int .u64 (IntKind.u64.wrap x))).drewN m2) (some b) :=
    grown_drewC (Lib.grownBy_setB (Lib.grownBy_setB (grown_drewC (World.grownBy.refl _ _) m1) 1 _) 2 _) m2
  have h1 : Blk (w.drewN m1) b 49 #[.slice A n cap, .int .i64 (at_ : Int), .int .u64 seed] := hB
  have h4 := (h1.set_ 1 (.int .i64 ((at_ : Int) + 1))).set_ 2 (.int .u64 (IntKind.u64.wrap x))
  refine ⟨⟨A, n, cap, at_ + 1, _, h4, by omega, h3, u64_wrap x, h5.grown hg⟩, hg⟩
set_option maxHeartbeats 1000000 in
theorem next_any (w : World) (b k : Nat) (h : Cur w b k) (hk : k ≤ 1000000000) : Calls Try.prog 74 #[.pointer (some ⟨b, 0, none⟩)] w fun e w' => Takes (fun r => 0 ≤ r ∧ r ≤ 255) b (k + 1) w e w' := by
  obtain ⟨A, n, cap, at_, seed, hB, h2, h3, h4, h5⟩ := h
  have HB := Lib.hid hB
  have H5 := Lib.hid h5
  have c0 := hB.cell 0
  have c1 := hB.cell 1
  have c2 := hB.cell 2
  have f1 := hB.frozen 1
  have f2 := hB.frozen 2
  simp at c0 c1 c2
  obtain ⟨s1, s2⟩ := h4
  clear h5 hB
  by_cases hlt : at_ < n
  · obtain ⟨ad, c, rfl, a1, a2, a3⟩ := H5.out at_ hlt
    go_enter Try.func74, Try.ntmps74
    go_wp2
    go_quiet (fail)
    go_wp2
    go_quiet (fail)
    go_wp2
    go_quiet (fail)
    go_wp2
    go_ret
    exact ⟨_, rfl, by omega, (cur_step HB.out h2 h3 H5.out _ _ _).1, (cur_step HB.out h2 h3 H5.out _ _ _).2⟩
  · have hge : ¬ (at_ < n) := hlt
    go_enter Try.func74, Try.ntmps74
    go_wp2
    go_quiet (fail)
    go_wp2
    go_quiet (fail)
    go_wp2
    go_ret
    exact ⟨_, rfl, and255 _ (wrap_shift _), (cur_step HB.out h2 h3 H5.out _ _ _).1, (cur_step HB.out h2 h3 H5.out _ _ _).2⟩
theorem grown_trans {a w w' : World} {row : Option Nat} (h : a.grownBy w row) (k : w.grownBy w' row) : a.grownBy w' row := Lib.grownBy_trans h k
set_option maxHeartbeats 400000 in
theorem pick_any (n : Int) (hn : -1000000 ≤ n ∧ n ≤ 1000000) (w : World) (b k : Nat) (h : Cur w b k) (hk : k ≤ 900000000) : Calls Try.prog 58 #[.pointer (some ⟨b, 0, none⟩), .int .i64 n] w fun e w' => Takes (fun r => 0 ≤ r ∧ (r < n ∨ r = 0)) b (k + 2) w e w' := by
  obtain ⟨n1, n2⟩ := hn
  by_cases h1 : n ≤ 1
  · go_enter Try.func58, Try.ntmps58
    go_wp2
    go_ret
    exact ⟨0, rfl, by omega, h.more (by omega), World.grownBy.refl _ _⟩
  · by_cases h200 : 200 < n
    · go_enter Try.func58, Try.ntmps58
      go_wp2_with fail
      refine (next_any _ b k h (by omega)).mono ?_
      rintro e v1 ⟨r, rfl, hr, hc, hg⟩
      obtain ⟨hr1, hr2⟩ := hr
      go_wp2_with fail
      refine (next_any _ b (k + 1) hc (by omega)).mono ?_
      rintro e v2 ⟨r', rfl, hr', hc', hg'⟩
      obtain ⟨hr3, hr4⟩ := hr'
      have hm1 := Int.emod_nonneg (r * 256 + r') (show n ≠ 0 by omega)
      have hm2 := Int.emod_lt_of_pos (r * 256 + r') (show 0 < n by omega)
      go_wp2
      go_ret
      exact ⟨_, rfl, ⟨hm1, .inl hm2⟩, hc', grown_trans hg hg'⟩
    · go_enter Try.func58, Try.ntmps58
      go_wp2_with fail
      refine (next_any _ b k h (by omega)).mono ?_
      rintro e v1 ⟨r, rfl, hr, hc, hg⟩
      obtain ⟨hr1, hr2⟩ := hr
      have hm1 := Int.emod_nonneg r (show n ≠ 0 by omega)
      have hm2 := Int.emod_lt_of_pos r (show 0 < n by omega)
      go_wp2
      go_ret
      exact ⟨_, rfl, ⟨hm1, .inl hm2⟩, hc.more (by omega), hg⟩
/-- A method that answers one bool. -/
def TakesB (b k : Nat) (w : World) (e : Ending) (w' : World) : Prop := ∃ r : Bool, e = .returned (.bool r) ∧ Cur w' b k ∧ w.grownBy w' (some b)
theorem one_any (n : Int) (hn : -1000000 ≤ n ∧ n ≤ 1000000) (w : World) (b k : Nat) (h : Cur w b k) (hk : k ≤ 900000000) : Calls Try.prog 43 #[.pointer (some ⟨b, 0, none⟩), .int .i64 n] w fun e w' => TakesB b (k + 2) w e w' := by
  go_enter Try.func43, Try.ntmps43
  go_wp2_with fail
  refine (pick_any n hn _ b k h hk).mono ?_
  rintro e v1 ⟨r, rfl, hr, hc, hg⟩
  go_wp2
  go_ret
  exact ⟨_, rfl, hc, hg⟩
theorem IS.away {w w' : World} {B b : Nat} {v : Value} {zs : List Int} (h : IS w B v zs) (hv : ∀ g, v.ownBlock = some g → g ≠ b) (hg : w.grownBy w' (some b)) : IS w' B v zs :=
  h.other hg fun g hgv he => hv g hgv (by injection he)
theorem among_any (w : World) (b k B : Nat) (v : Value) (zs : List Int) (hv : IS w B v zs) (hne : ∀ g, v.ownBlock = some g → g ≠ b) (hz : 0 < zs.length ∧ zs.length ≤ 1000000) (h : Cur w b k) (hk : k ≤ 900000000) : Calls Try.prog 61 #[.pointer (some ⟨b, 0, none⟩), v] w fun e w' => Takes (fun r => r ∈ zs) b (k + 2) w e w' := by
  have HV := Lib.hid hv
  have HNE := Lib.hid hne
  obtain ⟨A, cap, rfl, hm, hp⟩ := hv.parts
  clear hv hp hne hm
  obtain ⟨hz1, hz2⟩ := hz
  go_enter Try.func61, Try.ntmps61
  go_wp2_with fail
  refine (pick_any _ (by omega) _ b k h hk).mono ?_
  rintro e v1 ⟨r, rfl, hr, hc, hg⟩
  obtain ⟨hr1, hr2⟩ := hr
  obtain ⟨j, rfl⟩ : ∃ j : Nat, r = j := ⟨r.toNat, by omega⟩
  have hj : j < zs.length := by omega
  obtain ⟨A', cap', he, -, hp⟩ := (HV.out.away HNE.out hg).parts
  injection he with he1 he2 he3
  subst he1
  obtain ⟨g, rfl, hcell⟩ := hp j hj
  have HP := Lib.hid hp
  clear hp hr2
  go_wp2
  go_ret
  exact ⟨_, rfl, by rw [gd_eq zs j hj]; exact List.getElem_mem hj, hc, hg⟩
/-- A slice literal. -/
theorem IS.litC (w : World) (zs : List Int) (hm : zs.length ≤ 1000000) : IS (w.alloc (.cells (ints zs).toArray 3)) w.heap.size (.slice (some ⟨w.heap.size, 0, none⟩) zs.length zs.length) zs := by
  have := World.ownsRow_lit (base := w.heap.size) (e := 3) (size := 1) w (ints zs).toArray zs.length (Nat.le_refl _) (by unfold maxLen; omega) (by simp)
  unfold IS
  simpa using this
theorem lit_away {b g cap n : Nat} (hb : b < g) : ∀ g', (Value.slice (some ⟨g, 0, none⟩) n cap).ownBlock = some g' → g' ≠ b := by
  intro g' h
  simp [Value.ownBlock] at h
  omega
theorem Cur.drewN {w : World} {b k : Nat} (h : Cur w b k) (n : Nat) : Cur (w.drewN n) b k := h.below (belN (Below.refl _ _) n)
theorem Cur.alloc {w : World} {b k : Nat} (h : Cur w b k) (o : Obj) : Cur (w.alloc o) b k := h.below ((Below.refl _ _).alloc (Nat.le_refl _) _)
theorem grown_alloc {a w : World} {row : Option Nat} (h : a.grownBy w row) (o : Obj) : a.grownBy (w.alloc o) row := Lib.grownBy_allocR h o
end Go.Proofs.Ytamejfeaniokfaa

/-
  The model's cursor over the drawn bytes (l1Cur): what each of its methods does.
  Condition: the cursor lies in one block of the call's own, its bytes can be read, and it has not been used too often to count.
-/
import Derived.Test.YtiopinhdfoinoaaGreatDoorList
import Derived.Laws.Bits64b
import Derived.IntWalk
import Derived.Laws.IdiomStrings
import Derived.Laws.Concat
namespace Go.Proofs.YtiopinhdfoinoaaGreatDoor
set_option linter.unusedSimpArgs false
set_option linter.unusedVariables false
open Go.ChangeShapes Go.WideShapes Go.ChangeAt Go.RowKit

/-- Block g is just these cells. -/
def Blk (w : World) (g : Nat) (t : TypeId) (cs : Array Value) : Prop := w.heap[g]? = some (.cells cs t (0, 0))
theorem Blk.lt {w : World} {g : Nat} {t : TypeId} {cs : Array Value} (h : Blk w g t cs) : g < w.heap.size := by
  rcases Nat.lt_or_ge g w.heap.size with hlt | hge
  · exact hlt
  · unfold Blk at h; rw [Array.getElem?_eq_none hge] at h; cases h
theorem Blk.cell {w : World} {g : Nat} {t : TypeId} {cs : Array Value} (h : Blk w g t cs) (i : Nat) : w.cell? ⟨g, i, none⟩ = cs[i]? := cell_of_row w g i cs t (0, 0) h
theorem Blk.frozen {w : World} {g : Nat} {t : TypeId} {cs : Array Value} (h : Blk w g t cs) (i : Nat) : w.frozen? ⟨g, i, none⟩ = false := by
  unfold Blk at h; simp [World.frozen?, h]
theorem Blk.set_ {w : World} {g : Nat} {t : TypeId} {cs : Array Value} (h : Blk w g t cs) (i : Nat) (u : Value) : Blk (w.setCell ⟨g, i, none⟩ u) g t (cs.setIfInBounds i u) := by
  unfold Blk at h ⊢
  simp [World.setCell, Array.getElem?_modify, h]
theorem grown_drewC {a w : World} {row : Option Nat} (h : a.grownBy w row) (n : Nat) : a.grownBy (w.drewN n) row := ⟨h.os, h.tape, h.output, h.size, h.block⟩
/-- The bytes that the cursor goes over, below block b. -/
def RB (w : World) (b : Nat) (A : Option Addr) (n : Nat) : Prop := ∀ k, k < n → ∃ (ad : Addr) (c : Nat), A = some ad ∧ ad.block < b ∧ w.cell? (ad.add k) = some (.int .u8 (c : Int)) ∧ c ≤ 255
/-- The cursor in block b, used at most k times. -/
def Cur (w : World) (b k : Nat) : Prop := ∃ (A : Option Addr) (n cap at_ : Nat) (seed : Int), Blk w b 45 #[.slice A n cap, .int .i64 (at_ : Int), .int .u64 seed] ∧ at_ ≤ k ∧ n ≤ 1048576 ∧ (0 ≤ seed ∧ seed < 18446744073709551616) ∧ RB w b A n
theorem RB.grown {w w' : World} {b : Nat} {A : Option Addr} {n : Nat} (h : RB w b A n) (hg : w.grownBy w' (some b)) : RB w' b A n := fun k hk => by
  obtain ⟨ad, c, h1, h2, h3, h4⟩ := h k hk
  refine ⟨ad, c, h1, h2, hg.cell h3 ?_, h4⟩
  have : (ad.add k).block = ad.block := by unfold Addr.add; split <;> rfl
  rw [this]
  intro he
  injection he with he
  omega
theorem Cur.more {w : World} {b k k' : Nat} (h : Cur w b k) (hk : k ≤ k') : Cur w b k' := by
  obtain ⟨A, n, cap, at_, seed, h1, h2, h3⟩ := h
  exact ⟨A, n, cap, at_, seed, h1, by omega, h3⟩
theorem Cur.lt {w : World} {b k : Nat} (h : Cur w b k) : b < w.heap.size := by
  obtain ⟨A, n, cap, at_, seed, h1, _⟩ := h
  exact h1.lt
/-- Elsewhere is written: the cursor stays. -/
theorem Cur.below {w w' : World} {b k : Nat} (h : Cur w b k) (hb : Below w.heap.size w w') : Cur w' b k := by
  obtain ⟨A, n, cap, at_, seed, h1, h2, h3, h4, h5⟩ := h
  refine ⟨A, n, cap, at_, seed, (hb.block b h1.lt).trans h1, h2, h3, h4, fun k hk => ?_⟩
  obtain ⟨ad, c, e1, e2, e3, e4⟩ := h5 k hk
  refine ⟨ad, c, e1, e2, ?_, e4⟩
  have hlt := h1.lt
  have : (ad.add k).block = ad.block := by unfold Addr.add; split <;> rfl
  exact (hb.cell (p := ad.add k) (by omega)).trans e3
/-- What a method of the cursor leaves: a number with P, the cursor used at most j times more, nothing else turned. -/
def Takes (P : Int → Prop) (b k : Nat) (w : World) (e : Ending) (w' : World) : Prop := ∃ r : Int, e = .returned (.int .i64 r) ∧ P r ∧ Cur w' b k ∧ w.grownBy w' (some b)
theorem u64_wrap (x : Int) : 0 ≤ IntKind.u64.wrap x ∧ IntKind.u64.wrap x < 18446744073709551616 := by
  rw [show IntKind.u64.wrap x = x % 18446744073709551616 by simp [IntKind.wrap, IntKind.bits, IntKind.signed]]
  omega
theorem wrap_shift (x : Int) : 0 ≤ IntKind.u64.wrap x / 1099511627776 ∧ IntKind.u64.wrap x / 1099511627776 < 18446744073709551616 := by
  have := u64_wrap x
  omega
theorem and255 (y : Int) (h : 0 ≤ y ∧ y < 18446744073709551616) : 0 ≤ wrap64 (bits .and .u64 y 255) ∧ wrap64 (bits .and .u64 y 255) ≤ 255 := by
  obtain ⟨a, rfl⟩ : ∃ a : Nat, y = a := ⟨y.toNat, by omega⟩
  have hb := bits_and_u64_nat a 255 (by omega) (by omega)
  have hle : a &&& 255 ≤ 255 := Nat.and_le_right
  rw [show ((255 : Nat) : Int) = 255 from rfl] at hb
  rw [hb, IntWalk.wrap64_in _ ⟨by omega, by omega⟩]
  omega
/-- One use of the cursor. -/
theorem cur_step {w : World} {b k : Nat} {A : Option Addr} {n cap at_ : Nat} {seed : Int} (hB : Blk w b 45 #[.slice A n cap, .int .i64 (at_ : Int), .int .u64 seed]) (h2 : at_ ≤ k) (h3 : n ≤ 1048576) (h5 : RB w b A n) (m1 m2 : Nat) (x : Int) :
    Cur ((((w.drewN m1).setCell ⟨b, 1, none⟩ (.int .i64 ((at_ : Int) + 1))).setCell ⟨b, 2, none⟩ (.int .u64 (IntKind.u64.wrap x))).drewN m2) b (k + 1) ∧ w.grownBy ((((w.drewN m1).setCell ⟨b, 1, none⟩ (.int .i64 ((at_ : Int) + 1))).setCell ⟨b, 2, none⟩ (.int .u64 (IntKind.u64.wrap x))).drewN m2) (some b) := by
  have hg : w.grownBy ((((w.drewN m1).setCell ⟨b, 1, none⟩ (.int .i64 ((at_ : Int) + 1))).setCell ⟨b, 2, none⟩ (.int .u64 (IntKind.u64.wrap x))).drewN m2) (some b) :=
    grown_drewC (Lib.grownBy_setB (Lib.grownBy_setB (grown_drewC (World.grownBy.refl _ _) m1) 1 _) 2 _) m2
  have h1 : Blk (w.drewN m1) b 45 #[.slice A n cap, .int .i64 (at_ : Int), .int .u64 seed] := hB
  have h4 := (h1.set_ 1 (.int .i64 ((at_ : Int) + 1))).set_ 2 (.int .u64 (IntKind.u64.wrap x))
  refine ⟨⟨A, n, cap, at_ + 1, _, h4, by omega, h3, u64_wrap x, h5.grown hg⟩, hg⟩
set_option maxHeartbeats 1000000 in
theorem next_any (w : World) (b k : Nat) (h : Cur w b k) (hk : k ≤ 1000000000) : Calls Tryz.prog 68 #[.pointer (some ⟨b, 0, none⟩)] w fun e w' => Takes (fun r => 0 ≤ r ∧ r ≤ 255) b (k + 1) w e w' := by
  obtain ⟨A, n, cap, at_, seed, hB, h2, h3, h4, h5⟩ := h
  have HB := Lib.hid hB
  have H5 := Lib.hid h5
  have c0 := hB.cell 0
  have c1 := hB.cell 1
  have c2 := hB.cell 2
  have f1 := hB.frozen 1
  have f2 := hB.frozen 2
  simp at c0 c1 c2
  obtain ⟨s1, s2⟩ := h4
  clear h5 hB
  by_cases hlt : at_ < n
  · obtain ⟨ad, c, rfl, a1, a2, a3⟩ := H5.out at_ hlt
    go_enter Tryz.func68, Tryz.ntmps68
    go_wp2
    go_quiet (fail)
    go_wp2
    go_quiet (fail)
    go_wp2
    go_quiet (fail)
    go_wp2
    go_ret
    exact ⟨_, rfl, by omega, (cur_step HB.out h2 h3 H5.out _ _ _).1, (cur_step HB.out h2 h3 H5.out _ _ _).2⟩
  · have hge : ¬ (at_ < n) := hlt
    go_enter Tryz.func68, Tryz.ntmps68
    go_wp2
    go_quiet (fail)
    go_wp2
    go_quiet (fail)
    go_wp2
    go_ret
    exact ⟨_, rfl, and255 _ (wrap_shift _), (cur_step HB.out h2 h3 H5.out _ _ _).1, (cur_step HB.out h2 h3 H5.out _ _ _).2⟩
theorem grown_trans {a w w' : World} {row : Option Nat} (h : a.grownBy w row) (k : w.grownBy w' row) : a.grownBy w' row := Lib.grownBy_trans h k
set_option maxHeartbeats 400000 in
theorem pick_any (n : Int) (hn : -1000000 ≤ n ∧ n ≤ 1000000) (w : World) (b k : Nat) (h : Cur w b k) (hk : k ≤ 900000000) : Calls Tryz.prog 42 #[.pointer (some ⟨b, 0, none⟩), .int .i64 n] w fun e w' => Takes (fun r => 0 ≤ r ∧ (r < n ∨ r = 0)) b (k + 2) w e w' := by
  obtain ⟨n1, n2⟩ := hn
  by_cases h1 : n ≤ 1
  · go_enter Tryz.func42, Tryz.ntmps42
    go_wp2
    go_ret
    exact ⟨0, rfl, by omega, h.more (by omega), World.grownBy.refl _ _⟩
  · by_cases h200 : 200 < n
    · go_enter Tryz.func42, Tryz.ntmps42
      go_wp2_with fail
      refine (next_any _ b k h (by omega)).mono ?_
      rintro e v1 ⟨r, rfl, hr, hc, hg⟩
      obtain ⟨hr1, hr2⟩ := hr
      go_wp2_with fail
      refine (next_any _ b (k + 1) hc (by omega)).mono ?_
      rintro e v2 ⟨r', rfl, hr', hc', hg'⟩
      obtain ⟨hr3, hr4⟩ := hr'
      have hm1 := Int.emod_nonneg (r * 256 + r') (show n ≠ 0 by omega)
      have hm2 := Int.emod_lt_of_pos (r * 256 + r') (show 0 < n by omega)
      go_wp2
      go_ret
      exact ⟨_, rfl, ⟨hm1, .inl hm2⟩, hc', grown_trans hg hg'⟩
    · go_enter Tryz.func42, Tryz.ntmps42
      go_wp2_with fail
      refine (next_any _ b k h (by omega)).mono ?_
      rintro e v1 ⟨r, rfl, hr, hc, hg⟩
      obtain ⟨hr1, hr2⟩ := hr
      have hm1 := Int.emod_nonneg r (show n ≠ 0 by omega)
      have hm2 := Int.emod_lt_of_pos r (show 0 < n by omega)
      go_wp2
      go_ret
      exact ⟨_, rfl, ⟨hm1, .inl hm2⟩, hc.more (by omega), hg⟩
/-- A method that answers one bool. -/
def TakesB (b k : Nat) (w : World) (e : Ending) (w' : World) : Prop := ∃ r : Bool, e = .returned (.bool r) ∧ Cur w' b k ∧ w.grownBy w' (some b)
theorem one_any (n : Int) (hn : -1000000 ≤ n ∧ n ≤ 1000000) (w : World) (b k : Nat) (h : Cur w b k) (hk : k ≤ 900000000) : Calls Tryz.prog 47 #[.pointer (some ⟨b, 0, none⟩), .int .i64 n] w fun e w' => TakesB b (k + 2) w e w' := by
  go_enter Tryz.func47, Tryz.ntmps47
  go_wp2_with fail
  refine (pick_any n hn _ b k h hk).mono ?_
  rintro e v1 ⟨r, rfl, hr, hc, hg⟩
  go_wp2
  go_ret
  exact ⟨_, rfl, hc, hg⟩
theorem IS.away {w w' : World} {B b : Nat} {v : Value} {zs : List Int} (h : IS w B v zs) (hv : ∀ g, v.ownBlock = some g → g ≠ b) (hg : w.grownBy w' (some b)) : IS w' B v zs :=
  h.other hg fun g hgv he => hv g hgv (by injection he)
theorem among_any (w : World) (b k B : Nat) (v : Value) (zs : List Int) (hv : IS w B v zs) (hne : ∀ g, v.ownBlock = some g → g ≠ b) (hz : 0 < zs.length ∧ zs.length ≤ 1000000) (h : Cur w b k) (hk : k ≤ 900000000) : Calls Tryz.prog 50 #[.pointer (some ⟨b, 0, none⟩), v] w fun e w' => Takes (fun r => r ∈ zs) b (k + 2) w e w' := by
  have HV := Lib.hid hv
  have HNE := Lib.hid hne
  obtain ⟨A, cap, rfl, hm, hp⟩ := hv.parts
  clear hv hp hne hm
  obtain ⟨hz1, hz2⟩ := hz
  go_enter Tryz.func50, Tryz.ntmps50
  go_wp2_with fail
  refine (pick_any _ (by omega) _ b k h hk).mono ?_
  rintro e v1 ⟨r, rfl, hr, hc, hg⟩
  obtain ⟨hr1, hr2⟩ := hr
  obtain ⟨j, rfl⟩ : ∃ j : Nat, r = j := ⟨r.toNat, by omega⟩
  have hj : j < zs.length := by omega
  obtain ⟨A', cap', he, -, hp⟩ := (HV.out.away HNE.out hg).parts
  injection he with he1 he2 he3
  subst he1
  obtain ⟨g, rfl, hcell⟩ := hp j hj
  have HP := Lib.hid hp
  clear hp hr2
  go_wp2
  go_ret
  exact ⟨_, rfl, by rw [gd_eq zs j hj]; exact List.getElem_mem hj, hc, hg⟩
/-- A slice literal. -/
theorem IS.litC (w : World) (zs : List Int) (hm : zs.length ≤ 1000000) : IS (w.alloc (.cells (ints zs).toArray 3)) w.heap.size (.slice (some ⟨w.heap.size, 0, none⟩) zs.length zs.length) zs := by
  have := World.ownsRow_lit (base := w.heap.size) (e := 3) (size := 1) w (ints zs).toArray zs.length (Nat.le_refl _) (by unfold maxLen; omega) (by simp)
  unfold IS
  simpa using this
theorem lit_away {b g cap n : Nat} (hb : b < g) : ∀ g', (Value.slice (some ⟨g, 0, none⟩) n cap).ownBlock = some g' → g' ≠ b := by
  intro g' h
  simp [Value.ownBlock] at h
  omega
theorem Cur.drewN {w : World} {b k : Nat} (h : Cur w b k) (n : Nat) : Cur (w.drewN n) b k := h.below (belN (Below.refl _ _) n)
theorem Cur.alloc {w : World} {b k : Nat} (h : Cur w b k) (o : Obj) : Cur (w.alloc o) b k := h.below ((Below.refl _ _).alloc (Nat.le_refl _) _)
theorem grown_alloc {a w : World} {row : Option Nat} (h : a.grownBy w row) (o : Obj) : a.grownBy (w.alloc o) row := Lib.grownBy_allocR h o
/-- A slice of strings that a call owns. -/
def QS (w : World) (B : Nat) (v : Value) (ss : List ByteArray) : Prop := w.ownsRow B 9 1 v ss.length (ss.map Value.string)
theorem QS.parts {w : World} {B : Nat} {v : Value} {ss : List ByteArray} (h : QS w B v ss) : ∃ A cap, v = .slice A ss.length cap ∧ ∀ k s, ss[k]? = some s → ∃ g, A = some ⟨g, 0, none⟩ ∧ w.cell? ⟨g, k, none⟩ = some (.string s) := by
  rcases h.2 with ⟨rfl, h0⟩ | ⟨g, cap, cur, rfl, h2, h3, h4, h5, h6, h7⟩
  · exact ⟨none, 0, by rw [h0], fun k s hk => by
      have := (List.getElem?_eq_some_iff.1 hk).1
      omega⟩
  · refine ⟨some ⟨g, 0, none⟩, cap, rfl, fun k s hk => ⟨g, rfl, ?_⟩⟩
    have hl := (List.getElem?_eq_some_iff.1 hk).1
    rw [World.ownsRow.cellAt h k (by omega), List.getElem?_map, hk]
    rfl
theorem QS.away {w w' : World} {B b : Nat} {v : Value} {ss : List ByteArray} (h : QS w B v ss) (hv : ∀ g, v.ownBlock = some g → g ≠ b) (hg : w.grownBy w' (some b)) : QS w' B v ss := by
  refine ⟨h.1, ?_⟩
  rcases h.2 with h0 | ⟨g, cap, cur, h1, h2, h3, h4⟩
  · exact .inl h0
  · refine .inr ⟨g, cap, cur, h1, h2, (hg.block g ?_ ?_).trans h3, h4⟩
    · rcases Nat.lt_or_ge g w.heap.size with hl | hge
      · exact hl
      · rw [Array.getElem?_eq_none hge] at h3; cases h3
    · intro he
      injection he with he
      exact hv g (by rw [h1]; rfl) he
theorem QS.lit (w : World) (ss : List ByteArray) (hm : ss.length ≤ 1000000) : QS (w.alloc (.cells (ss.map Value.string).toArray 9)) w.heap.size (.slice (some ⟨w.heap.size, 0, none⟩) ss.length ss.length) ss := by
  have := World.ownsRow_lit (base := w.heap.size) (e := 9) (size := 1) w (ss.map Value.string).toArray ss.length (Nat.le_refl _) (by unfold maxLen; omega) (by simp)
  unfold QS
  simpa using this
/-- A method that answers a text with P. -/
def TakesS (P : ByteArray → Prop) (b k : Nat) (w : World) (e : Ending) (w' : World) : Prop := ∃ s : ByteArray, e = .returned (.string s) ∧ P s ∧ Cur w' b k ∧ w.grownBy w' (some b)
theorem of_any (w : World) (b k B : Nat) (v : Value) (ss : List ByteArray) (hv : QS w B v ss) (hne : ∀ g, v.ownBlock = some g → g ≠ b) (hz : 0 < ss.length ∧ ss.length ≤ 1000000) (h : Cur w b k) (hk : k ≤ 900000000) : Calls Tryz.prog 44 #[.pointer (some ⟨b, 0, none⟩), v] w fun e w' => TakesS (fun s => s ∈ ss) b (k + 2) w e w' := by
  have HV := Lib.hid hv
  have HNE := Lib.hid hne
  obtain ⟨A, cap, rfl, hp⟩ := hv.parts
  clear hv hp hne
  obtain ⟨hz1, hz2⟩ := hz
  go_enter Tryz.func44, Tryz.ntmps44
  go_wp2_with fail
  refine (pick_any _ (by omega) _ b k h hk).mono ?_
  rintro e v1 ⟨r, rfl, hr, hc, hg⟩
  obtain ⟨hr1, hr2⟩ := hr
  obtain ⟨j, rfl⟩ : ∃ j : Nat, r = j := ⟨r.toNat, by omega⟩
  have hj : j < ss.length := by omega
  obtain ⟨A', cap', he, hp⟩ := (HV.out.away HNE.out hg).parts
  injection he with he1 he2 he3
  subst he1
  obtain ⟨s, hs⟩ : ∃ s, ss[j]? = some s := ⟨_, List.getElem?_eq_getElem hj⟩
  obtain ⟨g, rfl, hcell⟩ := hp j s hs
  have HM := Lib.hid (List.mem_of_getElem? hs)
  clear hp hr2 hs
  go_wp2
  go_ret
  exact ⟨_, rfl, HM.out, hc, hg⟩
theorem conv_byte (w : World) (c : UInt8) : (convert 22 9 (.slice (some ⟨w.heap.size, 0, none⟩) 1 1)).run Tryz.prog (w.alloc (.cells #[.int .u8 (c.toNat : Int)] 5)) = .ok (.string ⟨#[c]⟩) (w.alloc (.cells #[.int .u8 (c.toNat : Int)] 5)) := by
  have := run_convert_bytes_back (P := Tryz.prog) (w.alloc (.cells #[.int .u8 (c.toNat : Int)] 5)) 22 9 5 ⟨w.heap.size, 0, none⟩ 1 [c] Tryz.underlying22 Tryz.underlying5 Tryz.underlying9 (fun j hj => by
    obtain rfl : j = 0 := by simpa using hj
    rw [show ((⟨w.heap.size, 0, none⟩ : Addr).add 0) = ⟨w.heap.size, 0, none⟩ from rfl, cell_of_row (w.alloc (.cells #[.int .u8 (c.toNat : Int)] 5)) w.heap.size 0 #[.int .u8 (c.toNat : Int)] 5 (0, 0) (heap_alloc_new w _)]
    simp)
  exact this
theorem add_str (a b : ByteArray) (w : World) (h : a.size + b.size ≤ 1000000000) : (Op.stringOp .add a b).run Tryz.prog w = .ok (.string (a ++ b)) w := run_string_add_sum w a b (by omega)
set_option maxHeartbeats 2000000 in
theorem spoilt_any (t wth : ByteArray) (m : Nat) (ht : t.size ≤ m) (hm : m ≤ 1000) (hw : 0 < wth.size ∧ wth.size ≤ 1000) (w : World) (b k : Nat) (h : Cur w b k) (hk : k ≤ 600000000) :
    Calls Tryz.prog 43 #[.pointer (some ⟨b, 0, none⟩), .string t, .string wth] w fun e w' => TakesS (fun s => s.size ≤ m + 4) b (k + 20) w e w' := by
  obtain ⟨hw1, hw2⟩ := hw
  go_enter Tryz.func43, Tryz.ntmps43
  go_wp2_with fail
  refine (pick_any 2 (by omega) _ b k h (by omega)).mono ?_
  rintro e v1 ⟨r, rfl, hr, hc, hg⟩
  have hr2 : 0 ≤ r ∧ r ≤ 1 := by omega
  obtain ⟨hr3, hr4⟩ := hr2
  clear hr
  go_wp2_with fail
  go_loopw [1, 7] (fun x y wr => ∃ (t' : ByteArray) (n : Int) (j : Nat), x = .string t' ∧ y = .int .i64 n ∧ n + j ≤ 2 ∧ 0 ≤ n ∧ t'.size ≤ m + j ∧ Cur wr b (k + 2 + 6 * j) ∧ w.grownBy wr (some b)) (fun _ y _ => (intOf y).toNat)
  case atStart => exact ⟨t, 1 + r, 0, rfl, rfl, by omega, by omega, by omega, hc, hg⟩
  case round =>
    obtain ⟨t', n, j, rfl, rfl, h1, h2, h3, hcr, hgr⟩ := hrel
    by_cases hn : 0 < n
    · by_cases hs : 0 < t'.size
      · go_wp2_with fail
        refine (pick_any _ (by omega) _ b _ hcr (by omega)).mono ?_
        rintro e v2 ⟨i, rfl, hi, hc2, hg2⟩
        obtain ⟨hi1, hi2⟩ := hi
        obtain ⟨q, rfl⟩ : ∃ q : Nat, i = q := ⟨i.toNat, by omega⟩
        have hq : q < t'.size := by omega
        clear hi2
        go_wp2_with fail
        refine (pick_any _ (by omega) _ b _ hc2 (by omega)).mono ?_
        rintro e v3 ⟨i2, rfl, hi, hc3, hg3⟩
        obtain ⟨hi3, hi4⟩ := hi
        obtain ⟨q2, rfl⟩ : ∃ q2 : Nat, i2 = q2 := ⟨i2.toNat, by omega⟩
        have hq2 : q2 < wth.size := by omega
        clear hi4
        have hcv := conv_byte v3 wth[q2]
        go_wp2_with fail
        refine (pick_any 3 (by omega) _ b _ (hc3.alloc _) (by omega)).mono ?_
        rintro e v4 ⟨i3, rfl, hi, hc4, hg4⟩
        clear hi hcv
        have HC := Lib.hid hc4
        have HG := Lib.hid (grown_trans (grown_alloc (grown_trans (grown_trans hgr hg2) hg3) _) hg4)
        clear hc hg hcr hgr hc2 hg2 hc3 hg3 hc4 hg4
        have z1 : (t'.extract 0 q).size = q := by rw [ByteArray.size_extract]; omega
        have z2 : (t'.extract q t'.size).size = t'.size - q := by rw [ByteArray.size_extract]; omega
        have z3 : (t'.extract (q + 1) t'.size).size = t'.size - (q + 1) := by rw [ByteArray.size_extract]; omega
        have z4 : (ByteArray.mk #[wth[q2]]).size = 1 := rfl
        cases e0 : i3 == 0
        · cases e1 : i3 == 1
          · have a1 := fun w => add_str (t'.extract 0 q) (t'.extract (q + 1) t'.size) w (by omega)
            have ZZ := Lib.hid (show (t'.extract 0 q ++ t'.extract (q + 1) t'.size).size ≤ m + (j + 1 : Nat) by rw [ByteArray.size_append]; omega)
            clear z1 z2 z3 z4
            go_wp2
            go_quiet (fail)
            go_wp2
            go_roundw
            case rel => exact ⟨_, n - 1, j + 1, rfl, rfl, by omega, by omega, ZZ.out, (HC.out.more (by omega)).drewN _, grown_drewC HG.out _⟩
            case measure => simp [intOf]; omega
          · have a1 := fun w => add_str (t'.extract 0 q) ⟨#[wth[q2]]⟩ w (by omega)
            have z5 : (t'.extract 0 q ++ ⟨#[wth[q2]]⟩).size = q + 1 := by rw [ByteArray.size_append]; omega
            have a2 := fun w => add_str (t'.extract 0 q ++ ⟨#[wth[q2]]⟩) (t'.extract (q + 1) t'.size) w (by omega)
            have ZZ := Lib.hid (show (t'.extract 0 q ++ ⟨#[wth[q2]]⟩ ++ t'.extract (q + 1) t'.size).size ≤ m + (j + 1 : Nat) by rw [ByteArray.size_append]; omega)
            clear z1 z2 z3 z4 z5
            go_wp2
            go_quiet (fail)
            go_wp2
            go_roundw
            case rel => exact ⟨_, n - 1, j + 1, rfl, rfl, by omega, by omega, ZZ.out, (HC.out.more (by omega)).drewN _, grown_drewC HG.out _⟩
            case measure => simp [intOf]; omega
        · have a1 := fun w => add_str (t'.extract 0 q) ⟨#[wth[q2]]⟩ w (by omega)
          have z5 : (t'.extract 0 q ++ ⟨#[wth[q2]]⟩).size = q + 1 := by rw [ByteArray.size_append]; omega
          have a2 := fun w => add_str (t'.extract 0 q ++ ⟨#[wth[q2]]⟩) (t'.extract q t'.size) w (by omega)
          have ZZ := Lib.hid (show (t'.extract 0 q ++ ⟨#[wth[q2]]⟩ ++ t'.extract q t'.size).size ≤ m + (j + 1 : Nat) by rw [ByteArray.size_append]; omega)
          clear z1 z2 z3 z4 z5
          go_wp2
          go_quiet (fail)
          go_wp2
          go_roundw
          case rel => exact ⟨_, n - 1, j + 1, rfl, rfl, by omega, by omega, ZZ.out, (HC.out.more (by omega)).drewN _, grown_drewC HG.out _⟩
          case measure => simp [intOf]; omega
      · go_wp2
        go_ret
        exact ⟨_, rfl, by omega, hcr.more (by omega), hgr⟩
    · go_wp2
      go_ret
      exact ⟨_, rfl, by omega, hcr.more (by omega), hgr⟩
end Go.Proofs.YtiopinhdfoinoaaGreatDoor

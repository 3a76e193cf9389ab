/-
  slices.Grow and slices.Concat at rows of rays, and appends of rows, empty or not: what the calls return.
  Condition: the slices read as the lists that are named, and are not too long.
-/
import Derived.Test.YthegkifhbgopoaaRy
import Derived.Lib.AppendZeros
import Derived.Laws.AppendOwnNone
namespace Go.Proofs.Ythegkifhbgopoaa
set_option linter.unusedSimpArgs false
set_option linter.unusedVariables false
open Go.ChangeShapes Go.WideShapes Go.ChangeAt Go.RowKit
open Go.Sort (grow)

theorem flatT_take (d : List Tm) (k : Nat) : (flatT d).take (k * 3) = flatT (d.take k) := by
  induction d generalizing k with
  | nil => simp [flatT]
  | cons a d ih =>
    cases k with
    | zero => simp [flatT]
    | succ k =>
      show (encT a ++ flatT d).take ((k + 1) * 3) = encT a ++ flatT (d.take k)
      rw [← ih k, List.take_append, show (encT a).take ((k + 1) * 3) = encT a from List.take_of_length_le (by simp [encT]; omega), show (k + 1) * 3 - (encT a).length = k * 3 by simp [encT]; omega]
theorem RyS.some {w : World} {B : Nat} {v : Value} {l : List Tm} (h : RyS w B v l) (h0 : 0 < l.length) : ∃ g cap, v = .slice (some ⟨g, 0, none⟩) l.length cap ∧ B ≤ g ∧ g < w.heap.size ∧ ∀ j u, (ints (flatT l))[j]? = some u → w.cell? ((⟨g, 0, none⟩ : Addr).add j) = some u := by
  rcases h.2 with ⟨-, h1⟩ | ⟨g, cap, cur, rfl, hB, hh, -⟩
  · omega
  · refine ⟨g, cap, rfl, hB, (Array.getElem?_eq_some_iff.1 hh).1, fun j u hu => ?_⟩
    have hj : j < (ints (flatT l)).length := by
      rcases Nat.lt_or_ge j (ints (flatT l)).length with h' | h'
      · exact h'
      · rw [List.getElem?_eq_none h'] at hu; cases hu
    have hj' : j < l.length * 3 := by simpa [ints, flatT_len] using hj
    have e : (⟨g, 0, none⟩ : Addr).add j = ⟨g, j, none⟩ := by unfold Addr.add; split <;> simp_all
    rw [e, World.ownsRow.cellAt h j hj', hu]
theorem ints_one (zs : List Int) : ∀ u ∈ ints zs, u.oneCell' = true := fun u hu => by
  simp only [ints, List.mem_map] at hu
  obtain ⟨y, -, rfl⟩ := hu
  rfl
/-- An append of a row, empty or not, onto an owned row. -/
theorem app_fs {P : Program} (w : World) {ops : Array Oper} {rest : List Oper} {o : Oper} {a : Act} {Q : Exit → Act → World → Prop} (hgd : o.guard = none) (s x : Operand) (t : TypeId)
    (ho : o.op = .call { callee := .builtin .append, args := #[s, x], argTypes := #[t, t] })
    (base : Nat) (e : TypeId) (i : TypeInfo) (z : Value) (size bytes : Nat) (ht : P.underlying t = some (.slice e)) (hi : P.info? e = some i) (hz : i.zero = some z)
    (hsize : i.size = size) (hby : i.bytes = bytes) (hzs : z.cells.size = size) (hsz : 0 < size)
    (v : Value) (n : Nat) (xs : List Value) (hs : a.eval s = v) (hown : w.ownsRow base e size v n xs)
    (B m : Nat) (y : Value) (zs : List Int) (hx : a.eval x = y) (hf : FS e size w B y m zs)
    (h63 : n + m ≤ maxLen) (hbytes : (n + m) * bytes ≤ 140737488355328) (hbase : base ≤ w.heap.size)
    (h : ∀ v' w', w'.ownsRow base e size v' (n + m) (xs ++ ints zs) → w.grownBy w' v.ownBlock → wpList P ops Q rest (a.put o.dst v') w') : wpList P ops Q (o :: rest) a w := by
  have hl := hf.1
  rcases hf.2 with ⟨rfl, h0⟩ | ⟨g, cap, cur, rfl, hB, hh, -⟩
  · refine wpList_append_own_none hgd s x t ho base e i size ht hi v n xs hs hown hx (h v w ?_ (World.grownBy.refl _ _))
    have hzl : ints zs = [] := List.eq_nil_of_length_eq_zero (by rw [hl, h0]; simp)
    rw [hzl, h0, Nat.add_zero, List.append_nil]
    exact hown
  · refine wpList_append_own w hgd s x t ho base e i z size bytes ht hi hz hsize hby hzs hsz v n xs hs hown ⟨g, 0, none⟩ m cap (ints zs) hx hl (fun j u hu => ?_) (fun u hu => ?_) h63 hbytes hbase fun v' w' h1 h2 _ => h v' w' h1 h2
    · have hj : j < (ints zs).length := by
        rcases Nat.lt_or_ge j (ints zs).length with h' | h'
        · exact h'
        · rw [List.getElem?_eq_none h'] at hu; cases hu
      have e : (⟨g, 0, none⟩ : Addr).add j = ⟨g, j, none⟩ := by unfold Addr.add; split <;> simp_all
      rw [e, World.ownsRow.cellAt hf j (by omega), hu]
    · simp only [ints, List.mem_map] at hu
      obtain ⟨y, -, rfl⟩ := hu
      rfl
set_option maxHeartbeats 1000000 in
set_option maxRecDepth 100000 in
theorem growR_nil (w : World) (n : Nat) (hn : n ≤ 1000000) : Calls Try.prog 139 #[.slice none 0 0, .int .i64 (n : Int)] w fun e w' => ∃ r, e = .returned r ∧ FS 39 3 w' w.heap.size r 0 [] ∧ Below w.heap.size w w' := by
  obtain ⟨i0, hi, hz0, hz1, hz2⟩ := info_parts infoRay
  by_cases h0 : 0 < n
  · have hrun := fun ty => Lib.run_append_nil_zeros (P := Try.prog) w 47 3 ty 39 i0 (.agg #[.int .i64 0, .int .i64 0, .int .i64 0]) .i64 .i64 Try.underlying47 Try.underlying3 hi hz0 n h0 (by omega) (by omega) (by rw [hz2]; omega)
    have HC := Lib.hid (And.intro (grownCap_ge w n 0 39) (grownCap_le_maxLen w n 0 39 (by unfold maxLen; omega)))
    obtain ⟨c, hc⟩ : ∃ c, c = grownCap w n 0 39 := ⟨_, rfl⟩
    rw [← hc] at hrun HC
    obtain ⟨cs, hcs⟩ : ∃ cs, cs = Builtin.zeroCells (.agg #[.int .i64 0, .int .i64 0, .int .i64 0] : Value).cells n ++ Builtin.zeroCells (.agg #[.int .i64 0, .int .i64 0, .int .i64 0] : Value).cells (c - n) := ⟨_, rfl⟩
    rw [← hcs] at hrun
    have HZ := Lib.hid (show cs.size = c * 3 by
      rw [hcs, Array.size_append, size_zeroCells, size_zeroCells]
      show n * 3 + (c - n) * 3 = c * 3
      have := HC.out.1
      omega)
    have HR := Lib.hid hrun
    have hcl := HC.out.1
    clear hc hcs hrun
    go_enter Try.func139, Try.ntmps139
    go_wp2_with (at_builtin; refine Lib.wpList_append_run _ rfl _ _ _ _ rfl _ _ rfl rfl _ _ (HR.out _) ?_)
    go_wp2
    go_ret
    refine ⟨_, rfl, ⟨rfl, .inr ⟨w.heap.size, c, cs, rfl, Nat.le_refl _, heap_alloc_new w.drew _, by omega, HC.out.2, HZ.out, by simp⟩⟩, ((Below.refl _ _).drew).alloc (by simp) _⟩
  · obtain rfl : n = 0 := by omega
    go_enter Try.func139, Try.ntmps139
    go_wp2
    go_ret
    exact ⟨_, rfl, FS.nil_ _ _ _ _, Below.refl _ _⟩
theorem growR_nil_at (w : World) (z : Int) (h0 : 0 ≤ z) (hn : z ≤ 1000000) : Calls Try.prog 139 #[.slice none 0 0, .int .i64 z] w fun e w' => ∃ r, e = .returned r ∧ FS 39 3 w' w.heap.size r 0 [] ∧ Below w.heap.size w w' := by
  obtain ⟨n, rfl⟩ : ∃ n : Nat, z = n := ⟨z.toNat, by omega⟩
  exact growR_nil w n (by omega)
set_option maxHeartbeats 2000000 in
set_option maxRecDepth 100000 in
theorem concatRy_any (w : World) (s : Nat) (B B' : Nat) (va vb : Value) (a b : List Tm) (h : RyS w B va a) (h' : RyS w B' vb b) (ha1 : a.length ≤ 1000) (hb1 : b.length ≤ 1000) (s0 : w.cell? ⟨s, 0, none⟩ = some va) (s1 : w.cell? ⟨s, 1, none⟩ = some vb) :
    Calls Try.prog 112 #[.slice (some ⟨s, 0, none⟩) 2 2] w fun e w' => GivesRy (a ++ b) w e w' := by
  have H := Lib.hid h
  have H' := Lib.hid h'
  obtain ⟨A, cap, rfl, -, -⟩ := RyS.parts h
  obtain ⟨A', cap', rfl, -, -⟩ := RyS.parts h'
  obtain ⟨n, hna⟩ : ∃ n, n = a.length := ⟨_, rfl⟩
  obtain ⟨m, hmb⟩ : ∃ m, m = b.length := ⟨_, rfl⟩
  have HA := Lib.hid hna
  have HB := Lib.hid hmb
  have HF := Lib.hid (show FS 39 3 w B (.slice A n cap) n (flatT a) by rw [hna]; exact h)
  have HF' := Lib.hid (show FS 39 3 w B' (.slice A' m cap') m (flatT b) by rw [hmb]; exact h')
  rw [← hna] at ha1 s0
  rw [← hmb] at hb1 s1
  have q1 : IntKind.i64.wrap ((n : Int) + m) = ((n + m : Nat) : Int) := by rw [IntWalk.i64_in _ (by omega)]; omega
  obtain ⟨i0, hi, hz0, hz1, hz2⟩ := info_parts infoRay
  have hsl := cell_lt s0
  clear h h' hna hmb H H'
  go_enter Try.func112, Try.ntmps112
  go_wp2
  refine wp_loop_rounds 3 ?_
  rw [rounds_succ]
  go_wp2_with fail
  rw [rounds_succ]
  go_wp2_with fail
  rw [rounds_succ]
  go_wp2_with fail
  refine (growR_nil_at _ _ (by omega) (by omega)).mono ?_
  rintro e w1 ⟨r, rfl, hr, b1⟩
  have k0 := box_o s0 b1
  have k1 := box_o s1 b1
  have hs1 := b1.size
  clear s0 s1 q1
  go_wp2_with fail
  refine wp_loop_rounds 3 ?_
  rw [rounds_succ]
  go_wp2_with (at_builtin; refine app_fs _ rfl _ _ 47 rfl w.heap.size 39 i0 (.agg #[.int .i64 0, .int .i64 0, .int .i64 0]) 3 24 Try.underlying47 hi hz0 hz1 hz2 rfl (by decide) _ 0 _ rfl hr B n _ (flatT a) rfl (HF.out.below b1) (by unfold maxLen; omega) (by omega) (by omega) ?_; intro v2 w2 hown2 hgrow2)
  have b2 : Below w.heap.size w w2 := b1.grown hgrow2 hs1 (fun k hk => (World.ownsRow.lt hr k hk).1)
  have hs2 := b2.size
  have j0 := hgrow2.cell k0 (fun e => by have := (World.ownsRow.lt hr s e.symm).1; omega)
  have j1 := hgrow2.cell k1 (fun e => by have := (World.ownsRow.lt hr s e.symm).1; omega)
  clear k0 k1
  go_wp2_with fail
  rw [rounds_succ]
  go_wp2_with (at_builtin; refine app_fs _ rfl _ _ 47 rfl w.heap.size 39 i0 (.agg #[.int .i64 0, .int .i64 0, .int .i64 0]) 3 24 Try.underlying47 hi hz0 hz1 hz2 rfl (by decide) _ (0 + n) _ rfl hown2 B' m _ (flatT b) rfl (HF'.out.below b2) (by unfold maxLen; omega) (by omega) (by omega) ?_; intro v3 w3 hown3 hgrow3)
  have b3 : Below w.heap.size w w3 := b2.grown hgrow3 hs2 (fun k hk => (World.ownsRow.lt hown2 k hk).1)
  go_wp2_with fail
  rw [rounds_succ]
  go_wp2
  go_ret
  refine ⟨_, rfl, ?_, b3⟩
  unfold RyS FS
  rw [flatT_app, List.length_append, ← HA.out, ← HB.out]
  unfold ints at hown3 ⊢
  rw [List.map_append]
  simpa using hown3
end Go.Proofs.Ythegkifhbgopoaa

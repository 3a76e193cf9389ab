/-
  slices.Grow and slices.Concat at rows of terms: what the calls return.
  Condition: two slices that are not empty and not too long.
-/
import Derived.Test.YtibdbgeknphljaaPlComp
import Derived.Lib.AppendZeros
namespace Go.Proofs.Ytibdbgeknphljaa
set_option linter.unusedSimpArgs false
set_option linter.unusedVariables false
open Go.ChangeShapes Go.WideShapes Go.ChangeAt Go.RowKit
open Go.Sort (grow)

theorem TmS.some {w : World} {B : Nat} {v : Value} {l : List Tm} (h : TmS w B v l) (h0 : 0 < l.length) : ∃ g cap, v = .slice (some ⟨g, 0, none⟩) l.length cap ∧ B ≤ g ∧ g < w.heap.size ∧ ∀ j u, (ints (flatT l))[j]? = some u → w.cell? ((⟨g, 0, none⟩ : Addr).add j) = some u := by
  rcases h.2 with ⟨-, h1⟩ | ⟨g, cap, cur, rfl, hB, hh, -⟩
  · omega
  · refine ⟨g, cap, rfl, hB, (Array.getElem?_eq_some_iff.1 hh).1, fun j u hu => ?_⟩
    have hj : j < (ints (flatT l)).length := by
      rcases Nat.lt_or_ge j (ints (flatT l)).length with h' | h'
      · exact h'
      · rw [List.getElem?_eq_none h'] at hu; cases hu
    have hj' : j < l.length * 3 := by simpa [ints, flatT_len] using hj
    have e : (⟨g, 0, none⟩ : Addr).add j = ⟨g, j, none⟩ := by unfold Addr.add; split <;> simp_all
    rw [e, World.ownsRow.cellAt h j hj', hu]
theorem ints_one (zs : List Int) : ∀ u ∈ ints zs, u.oneCell' = true := fun u hu => by
  simp only [ints, List.mem_map] at hu
  obtain ⟨y, -, rfl⟩ := hu
  rfl
set_option maxHeartbeats 1000000 in
set_option maxRecDepth 100000 in
theorem grow_nil (w : World) (n : Nat) (hn : n ≤ 1000000) : Calls Try.prog 83 #[.slice none 0 0, .int .i64 (n : Int)] w fun e w' => ∃ r, e = .returned r ∧ FS 54 3 w' w.heap.size r 0 [] ∧ Below w.heap.size w w' := by
  obtain ⟨i0, hi, hz0, hz1, hz2⟩ := info_parts infoTerm
  by_cases h0 : 0 < n
  · have hrun := fun ty => Lib.run_append_nil_zeros (P := Try.prog) w 25 3 ty 54 i0 (.agg #[.int .i64 0, .int .i64 0, .int .i64 0]) .i64 .i64 Try.underlying25 Try.underlying3 hi hz0 n h0 (by omega) (by omega) (by rw [hz2]; omega)
    have HC := Lib.hid (And.intro (grownCap_ge w n 0 54) (grownCap_le_maxLen w n 0 54 (by unfold maxLen; omega)))
    obtain ⟨c, hc⟩ : ∃ c, c = grownCap w n 0 54 := ⟨_, rfl⟩
    rw [← hc] at hrun HC
    obtain ⟨cs, hcs⟩ : ∃ cs, cs = Builtin.zeroCells (.agg #[.int .i64 0, .int .i64 0, .int .i64 0] : Value).cells n ++ Builtin.zeroCells (.agg #[.int .i64 0, .int .i64 0, .int .i64 0] : Value).cells (c - n) := ⟨_, rfl⟩
    rw [← hcs] at hrun
    have HZ := Lib.hid (show cs.size = c * 3 by
      rw [hcs, Array.size_append, size_zeroCells, size_zeroCells]
      show n * 3 + (c - n) * 3 = c * 3
      have := HC.out.1
      omega)
    have HR := Lib.hid hrun
    have hcl := HC.out.1
    clear hc hcs hrun
    go_enter Try.func83, Try.ntmps83
    go_wp2_with (at_builtin; refine Lib.wpList_append_run _ rfl _ _ _ _ rfl _ _ rfl rfl _ _ (HR.out _) ?_)
    go_wp2
    go_ret
    refine ⟨_, rfl, ⟨rfl, .inr ⟨w.heap.size, c, cs, rfl, Nat.le_refl _, heap_alloc_new w.drew _, by omega, HC.out.2, HZ.out, by simp⟩⟩, ((Below.refl _ _).drew).alloc (by simp) _⟩
  · obtain rfl : n = 0 := by omega
    go_enter Try.func83, Try.ntmps83
    go_wp2
    go_ret
    exact ⟨_, rfl, FS.nil_ _ _ _ _, Below.refl _ _⟩
theorem grow_nil_at (w : World) (z : Int) (h0 : 0 ≤ z) (hn : z ≤ 1000000) : Calls Try.prog 83 #[.slice none 0 0, .int .i64 z] w fun e w' => ∃ r, e = .returned r ∧ FS 54 3 w' w.heap.size r 0 [] ∧ Below w.heap.size w w' := by
  obtain ⟨n, rfl⟩ : ∃ n : Nat, z = n := ⟨z.toNat, by omega⟩
  exact grow_nil w n (by omega)
set_option maxHeartbeats 2000000 in
set_option maxRecDepth 100000 in
theorem concat_any (w : World) (s : Nat) (B B' : Nat) (va vb : Value) (a b : List Tm) (h : TmS w B va a) (h' : TmS w B' vb b) (ha : 0 < a.length ∧ a.length ≤ 1000) (hb : 0 < b.length ∧ b.length ≤ 1000) (s0 : w.cell? ⟨s, 0, none⟩ = some va) (s1 : w.cell? ⟨s, 1, none⟩ = some vb) :
    Calls Try.prog 63 #[.slice (some ⟨s, 0, none⟩) 2 2] w fun e w' => GivesTm (a ++ b) w e w' := by
  have H := Lib.hid h
  have H' := Lib.hid h'
  obtain ⟨g, cap, rfl, -, hg, hn⟩ := TmS.some h ha.1
  obtain ⟨g', cap', rfl, -, hg', hn'⟩ := TmS.some h' hb.1
  have HN := Lib.hid hn
  have HN' := Lib.hid hn'
  obtain ⟨ha0, ha1⟩ := ha
  obtain ⟨hb0, hb1⟩ := hb
  obtain ⟨n, hna⟩ : ∃ n, n = a.length := ⟨_, rfl⟩
  obtain ⟨m, hmb⟩ : ∃ m, m = b.length := ⟨_, rfl⟩
  have HA := Lib.hid hna
  have HB := Lib.hid hmb
  rw [← hna] at ha0 ha1 s0
  rw [← hmb] at hb0 hb1 s1
  have q1 : IntKind.i64.wrap ((n : Int) + m) = ((n + m : Nat) : Int) := by rw [IntWalk.i64_in _ (by omega)]; omega
  obtain ⟨i0, hi, hz0, hz1, hz2⟩ := info_parts infoTerm
  have hsl := cell_lt s0
  clear h h' hn hn' hna hmb
  go_enter Try.func63, Try.ntmps63
  go_wp2
  refine wp_loop_rounds 3 ?_
  rw [rounds_succ]
  go_wp2_with fail
  rw [rounds_succ]
  go_wp2_with fail
  rw [rounds_succ]
  go_wp2_with fail
  refine (grow_nil_at _ _ (by omega) (by omega)).mono ?_
  rintro e w1 ⟨r, rfl, hr, b1⟩
  have k0 := box_o s0 b1
  have k1 := box_o s1 b1
  have hs1 := b1.size
  clear s0 s1 q1
  go_wp2_with fail
  refine wp_loop_rounds 3 ?_
  rw [rounds_succ]
  go_wp2_with (at_builtin; refine wpList_append_own _ rfl _ _ 25 rfl w.heap.size 54 i0 (.agg #[.int .i64 0, .int .i64 0, .int .i64 0]) 3 24 Try.underlying25 hi hz0 hz1 hz2 rfl (by decide) _ 0 _ rfl hr ⟨g, 0, none⟩ n _ (ints (flatT a)) rfl (by simp [ints, flatT_len, HA.out, HB.out]) (fun j u hu => box_o (HN.out j u hu) b1) (ints_one _) (by unfold maxLen; omega) (by omega) (by omega) ?_; intro v2 w2 hown2 hgrow2 hnil2)
  have b2 : Below w.heap.size w w2 := b1.grown hgrow2 hs1 (fun k hk => (World.ownsRow.lt hr k hk).1)
  have hs2 := b2.size
  have j0 := hgrow2.cell k0 (fun e => by have := (World.ownsRow.lt hr s e.symm).1; omega)
  have j1 := hgrow2.cell k1 (fun e => by have := (World.ownsRow.lt hr s e.symm).1; omega)
  clear k0 k1
  go_wp2_with fail
  rw [rounds_succ]
  go_wp2_with (at_builtin; refine wpList_append_own _ rfl _ _ 25 rfl w.heap.size 54 i0 (.agg #[.int .i64 0, .int .i64 0, .int .i64 0]) 3 24 Try.underlying25 hi hz0 hz1 hz2 rfl (by decide) _ (0 + n) _ rfl hown2 ⟨g', 0, none⟩ m _ (ints (flatT b)) rfl (by simp [ints, flatT_len, HA.out, HB.out]) (fun j u hu => box_o (HN'.out j u hu) b2) (ints_one _) (by unfold maxLen; omega) (by omega) (by omega) ?_; intro v3 w3 hown3 hgrow3 hnil3)
  have b3 : Below w.heap.size w w3 := b2.grown hgrow3 hs2 (fun k hk => (World.ownsRow.lt hown2 k hk).1)
  go_wp2_with fail
  rw [rounds_succ]
  go_wp2
  go_ret
  refine ⟨_, rfl, ?_, b3⟩
  unfold TmS FS
  rw [flatT_app, List.length_append, ← HA.out, ← HB.out]
  unfold ints at hown3 ⊢
  rw [List.map_append]
  simpa using hown3
end Go.Proofs.Ytibdbgeknphljaa

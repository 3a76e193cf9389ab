/-
  Go's library's sort of small lists of integers: what each call returns.
  Condition: at most twelve integers.
-/
import Derived.Test.YtinijfkidjakpaaSort
import Derived.Test.YtinijfkidjakpaaValue
namespace Go.Proofs.Ytinijfkidjakpaa
set_option linter.unusedSimpArgs false
set_option linter.unusedVariables false
open Go.ChangeShapes Go.WideShapes Go.ChangeAt Go.RowKit

theorem grown_drewN {w w' : World} {row : Option Nat} (h : w.grownBy w' row) (n : Nat) : w.grownBy (w'.drewN n) row := ⟨h.os, h.tape, h.output, h.size, h.block⟩
theorem sink_stop {xs : List Int} {j : Nat} (h : ¬ gd xs (j + 1) < gd xs j) : sink xs (j + 1) = xs := by rw [sink, if_neg h]
theorem sink_go {xs : List Int} {j : Nat} (h : gd xs (j + 1) < gd xs j) : sink xs (j + 1) = sink ((xs.set (j + 1) (gd xs j)).set j (gd xs (j + 1))) j := by rw [sink, if_pos h]
/-- What sorting in place gives. -/
def GivesSort (B : Nat) (v : Value) (zs : List Int) (w : World) (e : Ending) (w' : World) : Prop := e = .returned (.tuple #[]) ∧ IS w' B v zs ∧ w.grownBy w' v.ownBlock
theorem cmpLess_any (x y : Int) (w : World) : Calls Try.prog 103 #[.int .i64 x, .int .i64 y] w fun e w' => e = .returned (.bool (decide (x < y))) ∧ w' = w := by
  go_enter Try.func103, Try.ntmps103
  go_wp2_with (go_at_call 96; refine (isNaN_any _ _).mono ?_; rintro e w' ⟨rfl, rfl⟩)
  go_ret
  exact ⟨ret_bool rfl, rfl⟩
set_option maxHeartbeats 1000000 in
set_option maxRecDepth 100000 in
theorem insertionSort_any (w : World) (B : Nat) (v : Value) (zs : List Int) (h : IS w B v zs) (hl : zs.length ≤ 12) : Calls Try.prog 97 #[v, .int .i64 0, .int .i64 (zs.length : Int)] w fun e w' => GivesSort B v (sortL zs) w e w' := by
  rcases h.2 with ⟨rfl, h0⟩ | ⟨g, cap, cur, rfl, hB, -, -⟩
  · have hnil : zs = [] := List.eq_nil_of_length_eq_zero h0
    subst hnil
    go_enter Try.func97, Try.ntmps97
    go_wp2
    go_rounds 1
    go_end0
    exact ⟨rfl, h, World.grownBy.refl _ _⟩
  · obtain ⟨n, hn⟩ : ∃ n, n = zs.length := ⟨_, rfl⟩
    have hrow0 : w.ownsRow B 3 1 (.slice (some ⟨g, 0, none⟩) n cap) n (ints zs) := by have := h; unfold IS at this; rwa [← hn] at this
    rw [← hn] at hl ⊢
    have HN := Lib.hid hn
    clear h hn
    go_enter Try.func97, Try.ntmps97
    go_wp2
    go_loopw [6] (fun i wr => ∃ k : Nat, 1 ≤ k ∧ (k ≤ n ∨ k = 1) ∧ i = .int .i64 k ∧ wr.ownsRow B 3 1 (.slice (some ⟨g, 0, none⟩) n cap) n (ints (isrt zs (k - 1))) ∧ w.grownBy wr (some g)) (fun i _ => n - (intOf i).toNat)
    case atStart => exact ⟨1, by omega, .inr rfl, rfl, hrow0, World.grownBy.refl _ _⟩
    case round =>
      obtain ⟨k, hk1, hk2, rfl, hrow, hg⟩ := hrel
      clear hrow0
      by_cases hlt : k < n
      · have HS := Lib.hid (show sink (isrt zs (k - 1)) k = isrt zs k by
          obtain ⟨m, rfl⟩ : ∃ m, k = m + 1 := ⟨k - 1, by omega⟩
          rw [Nat.add_sub_cancel, isrt])
        have hxl := isrt_len zs (k - 1)
        rw [← HN.out] at hxl
        have HXL := Lib.hid hxl
        clear hxl
        go_wp2
        go_loopw [7] (fun x wx => ∃ (j : Nat) (xs : List Int), j ≤ k ∧ x = .int .i64 j ∧ xs.length ≤ n ∧ n ≤ xs.length ∧ wx.ownsRow B 3 1 (.slice (some ⟨g, 0, none⟩) n cap) n (ints xs) ∧ Hid (sink xs j = isrt zs k) ∧ w.grownBy wx (some g)) (fun x _ => (intOf x).toNat)
        case atStart => exact ⟨k, _, Nat.le_refl _, rfl, by rw [HXL.out]; exact Nat.le_refl _, by rw [HXL.out]; exact Nat.le_refl _, hrow, HS, hg⟩
        case round =>
          obtain ⟨j, xs, hjk, rfl, hx1, hx2, hrow, hsk, hg⟩ := hrel
          by_cases hj0 : j = 0
          · subst hj0
            have HE := Lib.hid (show xs = isrt zs k from hsk.out)
            go_wp2
            go_quiet (fail)
            go_wp2
            go_roundw
            case rel => exact ⟨k + 1, by omega, .inl (by omega), by go_num, by rw [Nat.add_sub_cancel, ← HE.out]; exact hrow, grown_drewN hg _⟩
            case measure => simp [intOf]; omega
          · obtain ⟨m, rfl⟩ : ∃ m, j = m + 1 := ⟨j - 1, by omega⟩
            have c1 := World.ownsRow.cellAt hrow (m + 1) (by omega)
            have c0 := World.ownsRow.cellAt hrow m (by omega)
            rw [getD_ints _ _ (by omega)] at c1 c0
            have f1 := World.ownsRow.frozenAt hrow (m + 1)
            have f0 := World.ownsRow.frozenAt hrow m
            obtain ⟨x, hx⟩ : ∃ x, x = gd xs (m + 1) := ⟨_, rfl⟩
            obtain ⟨y, hy⟩ : ∃ x, x = gd xs m := ⟨_, rfl⟩
            have HSS := Lib.hid (show ¬ x < y → xs = isrt zs k from fun hc => by rw [← hsk.out, sink_stop (by rw [← hx, ← hy]; exact hc)])
            have HSG := Lib.hid (show x < y → sink ((xs.set (m + 1) y).set m x) m = isrt zs k from fun hc => by rw [← hsk.out, sink_go (by rw [← hx, ← hy]; exact hc), ← hx, ← hy])
            rw [← hx] at c1
            rw [← hy] at c0
            have q1 : IntKind.i64.wrap (((m : Int) + 1) - 1) = (m : Int) := by rw [IntWalk.i64_in _ (by omega)]; omega
            have q2 : IntKind.i64.wrap (((m + 1 : Nat) : Int) - 1) = (m : Int) := by rw [IntWalk.i64_in _ (by omega)]; omega
            have l1 : m + 1 < n := by omega
            have l0 : m < n := by omega
            have HQ : Hid (∀ i, Calls Try.prog 103 #[.int .i64 x, .int .i64 y] (wr.drewN i) fun e w' => e = .returned (.bool (decide (x < y))) ∧ w' = wr.drewN i) := Lib.hid (fun i => cmpLess_any x y _)
            have HROW := Lib.hid (And.intro hrow hg)
            clear hx hy hsk hrow hg
            by_cases key : x < y
            · have HSN := Lib.hid (HSG.out key)
              go_wp2
              go_quiet (first | (go_at_call 103; refine Calls.quiet_of_same (HQ.out _)))
              go_wp2
              obtain ⟨W, hW⟩ : ∃ W, W = wr.drewN nq := ⟨_, rfl⟩
              rw [← hW]
              have hrowW : W.ownsRow B 3 1 (.slice (some ⟨g, 0, none⟩) n cap) n (ints xs) := by rw [hW]; exact HROW.out.1
              have hgW : w.grownBy W (some g) := by rw [hW]; exact grown_drewN HROW.out.2 nq
              have c1 : W.cell? ⟨g, m + 1, none⟩ = some (.int .i64 x) := by rw [hW]; exact c1
              have c0 : W.cell? ⟨g, m, none⟩ = some (.int .i64 y) := by rw [hW]; exact c0
              have f1 : W.frozen? ⟨g, m + 1, none⟩ = false := by rw [hW]; exact f1
              have f0 : W.frozen? ⟨g, m, none⟩ = false := by rw [hW]; exact f0
              have HR2 := Lib.hid (And.intro hrowW hgW)
              clear hrowW hgW hW
              go_region
              all_goals
                have s1 := World.ownsRow.stored HR2.out.1 (m + 1) (.int .i64 y)
                have s2 := World.ownsRow.stored s1.1 m (.int .i64 x)
                have hg3 := grown_drewN (Lib.grownBy_trans (Lib.grownBy_trans HR2.out.2 s1.2) s2.2) 1
                have hr3 := s2.1
                rw [show ((ints xs).set (m + 1) (.int .i64 y)).set m (.int .i64 x) = ints ((xs.set (m + 1) y).set m x) from by unfold ints; rw [List.map_set, List.map_set]] at hr3
                have HR3 := Lib.hid (And.intro hr3 hg3)
                clear s1 s2 hg3 hr3 c0 c1 f0 f1
                go_wp2
                go_roundw
                case rel => exact ⟨m, (xs.set (m + 1) y).set m x, by omega, by go_num, by simpa using hx1, by simpa using hx2, HR3.out.1, HSN, HR3.out.2⟩
                case measure => simp [intOf]
            · have HSN := Lib.hid (HSS.out key)
              go_wp2
              go_quiet (first | (go_at_call 103; refine Calls.quiet_of_same (HQ.out _)))
              go_wp2
              go_roundw
              case rel => exact ⟨k + 1, by omega, .inl (by omega), by go_num, by rw [Nat.add_sub_cancel, ← HSN.out]; exact HROW.out.1, grown_drewN HROW.out.2 _⟩
              case measure => simp [intOf]; omega
      · go_wp2
        go_end0
        refine ⟨rfl, ?_, hg⟩
        unfold IS
        rw [sortL_len, ← HN.out]
        have : sortL zs = isrt zs (k - 1) := by
          unfold sortL
          rcases hk2 with h2 | h2
          · congr 1; have := HN.out; omega
          · subst h2
            have : zs.length - 1 = 1 - 1 := by have := HN.out; omega
            rw [this]
        rw [this]
        exact hrow
set_option maxHeartbeats 1000000 in
set_option maxRecDepth 100000 in
theorem pdqsort_any (w : World) (B : Nat) (v : Value) (zs : List Int) (l : Int) (h : IS w B v zs) (hl : zs.length ≤ 12) : Calls Try.prog 85 #[v, .int .i64 0, .int .i64 (zs.length : Int), .int .i64 l] w fun e w' => GivesSort B v (sortL zs) w e w' := by
  have HI := Lib.hid (insertionSort_any w B v zs h hl)
  obtain ⟨A, cap, rfl, -, -⟩ := h.parts
  obtain ⟨n, hn⟩ : ∃ n, n = zs.length := ⟨_, rfl⟩
  rw [← hn] at hl HI ⊢
  clear h hn
  go_enter Try.func85, Try.ntmps85
  go_wp2
  go_loopw [1, 2] (fun a b wr => a = .int .i64 0 ∧ b = .int .i64 n ∧ wr = w) (fun _ _ _ => 0)
  case atStart => exact ⟨rfl, rfl, rfl⟩
  case round =>
    obtain ⟨rfl, rfl, rfl⟩ := hrel
    go_wp2_with fail
    refine HI.out.mono ?_
    rintro e w1 ⟨rfl, hr, hg⟩
    go_wp2
    go_end0
    exact ⟨rfl, hr, hg⟩
def SomeI (w : World) (e : Ending) (w' : World) : Prop := ∃ l : Int, e = .returned (.int .i64 l) ∧ w = w'
set_option maxRecDepth 100000 in
theorem bitsLen64_any (n : Nat) (hn : n ≤ 12) (w : World) : Calls Try.prog 107 #[.int .u64 (n : Int)] w fun e w' => SomeI w e w' := by
  have h : n = 0 ∨ n = 1 ∨ n = 2 ∨ n = 3 ∨ n = 4 ∨ n = 5 ∨ n = 6 ∨ n = 7 ∨ n = 8 ∨ n = 9 ∨ n = 10 ∨ n = 11 ∨ n = 12 := by omega
  rcases h with rfl | rfl | rfl | rfl | rfl | rfl | rfl | rfl | rfl | rfl | rfl | rfl | rfl
  all_goals
    go_enter Try.func107, Try.ntmps107
    go_wp2
    go_ret
    exact ⟨_, rfl, rfl⟩
set_option maxRecDepth 100000 in
theorem bitsLen_any (n : Nat) (hn : n ≤ 12) (w : World) : Calls Try.prog 86 #[.int .u64 (n : Int)] w fun e w' => SomeI w e w' := by
  have H := Lib.hid (fun w => bitsLen64_any n hn w)
  go_enter Try.func86, Try.ntmps86
  go_wp2_with fail
  refine (H.out _).mono ?_
  rintro e w' ⟨l, rfl, rfl⟩
  go_wp2
  go_ret
  exact ⟨_, rfl, rfl⟩
set_option maxRecDepth 100000 in
theorem slicesSort_any (w : World) (B : Nat) (v : Value) (zs : List Int) (h : IS w B v zs) (hl : zs.length ≤ 12) : Calls Try.prog 68 #[v] w fun e w' => GivesSort B v (sortL zs) w e w' := by
  have HI := Lib.hid (fun l => pdqsort_any w B v zs l h hl)
  obtain ⟨A, cap, rfl, -, -⟩ := h.parts
  obtain ⟨n, hn⟩ : ∃ n, n = zs.length := ⟨_, rfl⟩
  rw [← hn] at hl HI ⊢
  clear h hn
  go_enter Try.func68, Try.ntmps68
  go_wp2_with fail
  refine (bitsLen_any n hl _).mono ?_
  rintro e w' ⟨l, rfl, rfl⟩
  go_wp2_with fail
  refine (HI.out l).mono ?_
  rintro e w1 ⟨rfl, hr, hg⟩
  go_wp2
  go_end0
  exact ⟨rfl, hr, hg⟩
end Go.Proofs.Ytinijfkidjakpaa

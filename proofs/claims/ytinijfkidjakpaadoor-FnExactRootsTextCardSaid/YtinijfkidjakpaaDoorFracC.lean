/-
  Quotients, order, rounding and means, of the program and of the model: what each call returns.
  No condition but that the parts are integers of Go's int, and that a slice reads as the list that is named.
-/
import Derived.Test.YtinijfkidjakpaaDoorFracB
namespace Go.Proofs.YtinijfkidjakpaaDoor
set_option linter.unusedSimpArgs false
set_option linter.unusedVariables false
open Go.ChangeShapes Go.WideShapes Go.ChangeAt Go.RowKit

/-- Are both numbers a quotient's parts. -/
def partB (n : Int) : Bool := inB n (-1000000000000) 1000000000000
theorem partB_wide {n : Int} (h : partB n = true) : wide n := by
  have := (inB_iff _ _ _).1 h
  unfold wide; omega
theorem new1 (w : World) : F2 (w.alloc (.cells #[.int .i64 0, .int .i64 0] 31)) w.heap.size 0 0 := F2.new w 0 0
theorem isPart_any (n : Int) (w : World) : Calls Tryd.prog 43 #[.int .i64 n] w fun e w' => e = .returned (.bool (partB n)) ∧ w = w' := by
  by_cases h2 : -1000000000000 ≤ n
  · by_cases h3 : n ≤ 1000000000000
    all_goals
      go_enter Tryd.func43, Tryd.ntmps43
      go_wp2
      go_ret
      exact ⟨ret_bool (by simp [partB, inB, h2, h3]), rfl⟩
  · go_enter Tryd.func43, Tryd.ntmps43
    go_wp2
    go_ret
    exact ⟨ret_bool (by simp [partB, inB]; omega), rfl⟩
set_option maxHeartbeats 1000000 in
theorem implFracOf_any (n d : Int) (w : World) : Calls Tryd.prog 32 #[.int .i64 n, .int .i64 d] w fun x w' => GivesOp (partB n && partB d) n d w x w' := by
  cases h1 : partB n
  case' true => cases h2 : partB d
  case true.true =>
    have HN := Lib.hid (partB_wide h1)
    have HD := Lib.hid (partB_wide h2)
    go_enter Tryd.func32, Tryd.ntmps32
    go_wp2_with (first | (go_at_call 43; refine (isPart_any _ _).mono ?_; rintro e w' ⟨rfl, rfl⟩) | (go_at_call 44; refine (quotientOrNone_any _ _ _ HN.out HD.out).mono ?_; rintro x w1 ⟨rfl, b1⟩; obtain ⟨c0, c1, f0, f1⟩ := (new1 w).below b1))
    refine bodyPost_ret ((F2.store ⟨c0, c1, f0, f1⟩ _ _).results rfl rfl rfl) rfl ?_
    exact givesOp_yes rfl rfl rfl rfl (bel_at (by omega) (by go_grown) b1 _ _)
  all_goals
    go_enter Tryd.func32, Tryd.ntmps32
    go_wp2_with (go_at_call 43; refine (isPart_any _ _).mono ?_; rintro e w' ⟨rfl, rfl⟩)
    go_returns
    exact givesOp_no (by simp [partB, *]) (by go_grown)
/-- The order of two numbers. -/
def cmpI (x y : Int) : Int := if x < y then -1 else if y < x then 1 else 0
theorem F2.below2 {w w1 : World} {g h : Nat} {a b c d : Int} (H : F2 w g a b ∧ F2 w h c d) (hb : Below w.heap.size w w1) : F2 w1 g a b ∧ F2 w1 h c d := ⟨H.1.below hb, H.2.below hb⟩
def GivesC (g : Bool) (v : Int) (w : World) (x : Ending) (w' : World) : Prop := x = .returned (.tuple #[.int .i64 (okF g v), .bool g]) ∧ Below w.heap.size w w'
theorem givesC_no {g : Bool} {v : Int} {w w' : World} (h : g = false) (hb : Below w.heap.size w w') : GivesC g v w (.returned (.tuple #[.int .i64 0, .bool false])) w' := by subst h; exact ⟨rfl, hb⟩
theorem givesC_yes {g : Bool} {u v : Int} {w w' : World} (h : g = true) (hu : u = v) (hb : Below w.heap.size w w') : GivesC g v w (.returned (.tuple #[.int .i64 u, .bool true])) w' := by subst h hu; exact ⟨rfl, hb⟩
theorem okWide {a b c d : Int} (h1 : frB a b = true) (h2 : frB c d = true) : (-1000000000000000000 ≤ a * d ∧ a * d ≤ 1000000000000000000) ∧ (-1000000000000000000 ≤ c * b ∧ c * b ≤ 1000000000000000000) := by
  obtain ⟨ha, hb⟩ := frB_lim h1
  obtain ⟨hc, hd⟩ := frB_lim h2
  exact ⟨mul9 ha hd, mul9 hc hb⟩
theorem isNaN_any (n : Int) (w : World) : Calls Tryd.prog 62 #[.int .i64 n] w fun e w' => e = .returned (.bool false) ∧ w = w' := by
  go_enter Tryd.func62, Tryd.ntmps62
  go_wp2
  go_ret
  exact ⟨ret_bool (by simp), rfl⟩
theorem cmpCompare_any (x y : Int) (w : World) : Calls Tryd.prog 55 #[.int .i64 x, .int .i64 y] w fun e w' => e = .returned (.int .i64 (cmpI x y)) ∧ w = w' := by
  by_cases h : x < y
  case' neg => by_cases h' : y < x
  all_goals
    go_enter Tryd.func55, Tryd.ntmps55
    go_wp2_with (go_at_call 62; refine (isNaN_any _ _).mono ?_; rintro e w' ⟨rfl, rfl⟩)
    go_ret
    exact ⟨ret_i64 (by unfold cmpI; (repeat' split) <;> omega), rfl⟩
/-- A quotient rounded down. -/
def floorI (n d : Int) : Int := if n.tmod d < 0 then n.tdiv d - 1 else n.tdiv d
theorem tmod_sign (n d : Int) : (n < 0 ∧ n.tmod d ≠ 0) ↔ n.tmod d < 0 := by
  constructor
  · rintro ⟨h1, h2⟩
    have h3 : (-n).tmod d = -(n.tmod d) := Int.neg_tmod n d
    have h4 := Int.tmod_nonneg d (show 0 ≤ -n by omega)
    omega
  · intro h
    refine ⟨?_, by omega⟩
    by_cases h0 : 0 ≤ n
    · have := Int.tmod_nonneg d h0
      omega
    · omega
theorem tdiv_lim {n d : Int} (h : Lim n) : Lim (n.tdiv d) := by
  have h1 := Int.natAbs_tdiv n d
  have h2 := Nat.div_le_self n.natAbs d.natAbs
  unfold Lim at *
  have h3 : (n.tdiv d).natAbs ≤ n.natAbs := by rw [h1]; exact h2
  omega
theorem floorI_lim {n d : Int} (h : Lim n) : -1000000001 ≤ floorI n d ∧ floorI n d ≤ 1000000001 := by
  have := tdiv_lim (d := d) h
  unfold Lim at this
  unfold floorI
  split <;> omega
theorem wf_lo {n : Int} (h : (Lit.int .i64 n).wf = true) : -9223372036854775808 ≤ n := by
  simp [Lit.wf, IntKind.min, IntKind.max, IntKind.signed, IntKind.bits] at h
  omega
theorem wf_hi {n : Int} (h : (Lit.int .i64 n).wf = true) : n ≤ 9223372036854775807 := by
  simp [Lit.wf, IntKind.min, IntKind.max, IntKind.signed, IntKind.bits] at h
  omega
end Go.Proofs.YtinijfkidjakpaaDoor

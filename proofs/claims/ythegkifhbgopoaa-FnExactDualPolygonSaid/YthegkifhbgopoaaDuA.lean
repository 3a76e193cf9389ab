/-
  Sides of dual polygons, their halves and orders, sorted: what the program's and the model's calls return.
  Condition: the points are directions within bounds, where a contract says so.
-/
import Derived.Test.YthegkifhbgopoaaDuN
import Derived.Test.YthegkifhbgopoaaSoA
import Derived.Test.YthegkifhbgopoaaSo
import Derived.Test.YthegkifhbgopoaaSortPoint
namespace Go.Proofs.Ythegkifhbgopoaa
set_option linter.unusedSimpArgs false
set_option linter.unusedVariables false
open Go.ChangeShapes Go.WideShapes Go.ChangeAt Go.RowKit
open Go.Sort (grow HoldsK Holds putRow putRowK flatK SWO PermIn SortedIn)

set_option maxRecDepth 100000 in
theorem sideOf_any (t : Tm) (w : World) (h : ryT t = true) : Calls Try.prog 86 #[tmV t] w fun e w' => e = .returned (ptV (sdO t)) ∧ Below w.heap.size w w' := by
  obtain ⟨b1, b2⟩ := ry_bd h
  obtain ⟨p1, p2, p3, p4, -, p6, p7⟩ := ryT_parts h
  obtain ⟨a, b, c⟩ := t
  simp only at b1 b2 p1 p2 p3 p4 p6 p7
  have q1 : IntKind.i64.wrap (c * b) = c * b := IntWalk.i64_in _ (by omega)
  have q2 : IntKind.i64.wrap (-c) = -c := IntWalk.i64_in _ (by omega)
  have q3 : IntKind.i64.wrap (-c * a) = -c * a := IntWalk.i64_in _ (by rw [Int.neg_mul]; omega)
  clear h b1 b2 p1 p2 p3 p4 p6 p7
  show Calls Try.prog 86 #[tmV (a, b, c)] w fun e w' => e = .returned (ptV (c * b, -c * a)) ∧ Below w.heap.size w w'
  go_enter Try.func86, Try.ntmps86
  go_wp2
  refine bodyPost_ret (P2.result (t := (c * b, -c * a)) (g := w.heap.size + 1) ?_ rfl rfl) rfl ⟨rfl, by go_grown⟩
  have := P2.new (w.alloc (.cells #[.int .i64 a, .int .i64 b, .int .i64 c] 39)) (c * b, -c * a) 108
  rwa [World.size_alloc] at this
theorem goesRight_any (p : Pt) (w : World) : Calls Try.prog 118 #[ptV p] w fun e w' => e = .returned (.bool (fwB p)) ∧ Gr w w' := by
  obtain ⟨x, y⟩ := p
  by_cases h1 : 0 < x
  · go_enter Try.func118, Try.ntmps118
    go_wp2
    go_ret
    exact ⟨ret_bool (by simp [fwB, h1]), gr1 _ _⟩
  · by_cases h2 : x = 0
    · subst h2
      go_enter Try.func118, Try.ntmps118
      go_wp2
      go_ret
      exact ⟨ret_bool (by simp [fwB]), gr1 _ _⟩
    · have hx : (x == 0) = false := by simpa using h2
      go_enter Try.func118, Try.ntmps118
      go_wp2
      go_ret
      exact ⟨ret_bool (by rw [fwB]; simp [h2]; omega), gr1 _ _⟩
theorem cr_bd {p q : Pt} (hp : Sm 400 p) (hq : Sm 400 q) : (-160000 ≤ p.1 * q.2 ∧ p.1 * q.2 ≤ 160000) ∧ (-160000 ≤ p.2 * q.1 ∧ p.2 * q.1 ≤ 160000) ∧ -320000 ≤ cr p q ∧ cr p q ≤ 320000 := by
  have key : ∀ a b : Int, -400 ≤ a ∧ a ≤ 400 → -400 ≤ b ∧ b ≤ 400 → -160000 ≤ a * b ∧ a * b ≤ 160000 := by
    intro a b ha hb
    have h1 := Int.mul_nonneg (show 0 ≤ 400 - a by omega) (show 0 ≤ 400 + b by omega)
    have h2 := Int.mul_nonneg (show 0 ≤ 400 + a by omega) (show 0 ≤ 400 - b by omega)
    have h3 := Int.mul_nonneg (show 0 ≤ 400 - a by omega) (show 0 ≤ 400 - b by omega)
    have h4 := Int.mul_nonneg (show 0 ≤ 400 + a by omega) (show 0 ≤ 400 + b by omega)
    simp only [Int.sub_mul, Int.add_mul, Int.mul_sub, Int.mul_add] at h1 h2 h3 h4
    omega
  obtain ⟨a1, a2, a3, a4⟩ := hp
  obtain ⟨b1, b2, b3, b4⟩ := hq
  have e1 := key p.1 q.2 (by omega) (by omega)
  have e2 := key p.2 q.1 (by omega) (by omega)
  refine ⟨e1, e2, ?_⟩
  unfold cr; omega
theorem crossP_any (p q : Pt) (w : World) (hp : Sm 400 p) (hq : Sm 400 q) : Calls Try.prog 119 #[ptV p, ptV q] w fun e w' => e = .returned (.int .i64 (cr p q)) ∧ Gr w w' := by
  obtain ⟨b1, b2, b3⟩ := cr_bd hp hq
  obtain ⟨a, b⟩ := p
  obtain ⟨c, d⟩ := q
  have HC := Lib.hid (show cr (a, b) (c, d) = a * d - b * c from rfl)
  rw [HC.out] at b3 ⊢
  simp only at b1 b2
  have q1 : IntKind.i64.wrap (a * d) = a * d := IntWalk.i64_in _ (by omega)
  have q2 : IntKind.i64.wrap (b * c) = b * c := IntWalk.i64_in _ (by omega)
  have q3 : IntKind.i64.wrap (a * d - b * c) = a * d - b * c := IntWalk.i64_in _ (by omega)
  clear hp hq b1 b2 b3 HC
  go_enter Try.func119, Try.ntmps119
  go_wp2
  go_ret
  exact ⟨rfl, gr2 _ _ _⟩
/-- How the program compares sides. -/
def cmpDu (p q : Pt) : Int := if fwB p = fwB q then -(cr p q) else if fwB p = true then -1 else 1
theorem cmpDu_lt (p q : Pt) : cmpDu p q < 0 ↔ hfB fwB p q = true := by
  unfold cmpDu hfB
  by_cases h : fwB p = fwB q
  · rw [if_pos h, if_pos h, decide_eq_true_eq]; omega
  · rw [if_neg h, if_neg h]
    cases fwB p <;> simp
set_option maxHeartbeats 1000000 in
set_option maxRecDepth 100000 in
theorem compareSides_any (p q : Pt) (w : World) (hp : Sm 400 p) (hq : Sm 400 q) : Calls Try.prog 88 #[ptV p, ptV q] w fun e w' => e = .returned (.int .i64 (cmpDu p q)) ∧ Gr w w' := by
  have hS := P4.new w p q 108 108
  have hgr := gr2 w (.cells #[.int .i64 p.1, .int .i64 p.2] 108) (.cells #[.int .i64 q.1, .int .i64 q.2] 108)
  obtain ⟨-, -, b3⟩ := cr_bd hp hq
  have HX := Lib.hid (fun W => crossP_any p q W hp hq)
  have HP := Lib.hid (fun W => goesRight_any p W)
  have HQ := Lib.hid (fun W => goesRight_any q W)
  have HE := Lib.hid (show cmpDu p q = if fwB p = fwB q then -(cr p q) else if fwB p = true then -1 else 1 from rfl)
  rw [HE.out]
  obtain ⟨c, hc⟩ : ∃ c, c = cr p q := ⟨_, rfl⟩
  rw [← hc] at HX b3 ⊢
  have qn : IntKind.i64.wrap (-c) = -c := IntWalk.i64_in _ (by omega)
  generalize fwB p = fp at HP ⊢
  generalize fwB q = fq at HQ ⊢
  have h1 : w.heap.size < ((w.alloc (.cells #[.int .i64 p.1, .int .i64 p.2] 108)).alloc (.cells #[.int .i64 q.1, .int .i64 q.2] 108)).heap.size := cell_lt hS.1
  have h2 : w.heap.size + 1 < ((w.alloc (.cells #[.int .i64 p.1, .int .i64 p.2] 108)).alloc (.cells #[.int .i64 q.1, .int .i64 q.2] 108)).heap.size := cell_lt hS.2.2.1
  clear hc HE hp hq b3
  cases fp <;> cases fq
  all_goals
    go_enter Try.func88, Try.ntmps88
    go_wp2
    generalize (w.alloc (.cells #[.int .i64 p.1, .int .i64 p.2] 108)).alloc (.cells #[.int .i64 q.1, .int .i64 q.2] 108) = W0 at hS hgr h1 h2 ⊢
    obtain ⟨a0, a1⟩ := P2.grown (g := w.heap.size) (t := p) ⟨hS.1, hS.2.1⟩
    obtain ⟨e0, e1⟩ := P2.grown (g := w.heap.size + 1) (t := q) ⟨hS.2.2.1, hS.2.2.2⟩
    refine wp_region_quiet_grown (by kernel_rfl) (by kernel_rfl) ?_
    repeat (go_big_quiet_step ((go_at_call 118; first | (with_reducible refine Calls.grown_of (HP.out _)) | (with_reducible refine Calls.grown_of (HQ.out _)))))
    refine wpQuiet_nil ?_
    intro _ hw'
    obtain ⟨⟨nq, osq⟩, hw''⟩ := hw'
    subst hw''
    have HG1 := Lib.hid (hgr.trans ⟨nq, osq, rfl⟩)
    have hS1 := hS.below (grB nq osq)
    generalize grow (W0.drewN nq) osq = W1 at HG1 hS1 ⊢
    clear a0 a1 e0 e1 hS h1 h2 hgr
    obtain ⟨c0, c1, c2, c3⟩ := hS1
    have h1 := cell_lt c0
    have h2 := cell_lt c2
    go_wp2_with fail
    first
      | (refine (HX.out _).mono ?_
         rintro e w2 ⟨rfl, g2⟩
         go_wp2
         go_ret
         exact ⟨rfl, HG1.out.trans g2⟩)
      | (refine (HP.out _).mono ?_
         rintro e w2 ⟨rfl, g2⟩
         go_wp2
         go_ret
         exact ⟨rfl, HG1.out.trans g2⟩)
/-! ### Sorted -/
/-- A direction within bounds. -/
abbrev Dir9 : Type := { p : Pt // Nz p ∧ Sm 400 p }
instance : Inhabited Dir9 := ⟨⟨(1, 0), by unfold Nz Sm; simp⟩⟩
def cmpD9 (a b : Dir9) : Int := cmpDu a.1 b.1
def encD9 (a : Dir9) : List Value := [.int .i64 a.1.1, .int .i64 a.1.2]
theorem encD9_len (a : Dir9) : (encD9 a).length = 2 := rfl
theorem encD9_one (a : Dir9) : ∀ v ∈ encD9 a, v.oneCell' = true := fun v hv => by
  simp [encD9] at hv
  rcases hv with rfl | rfl <;> rfl
theorem swo_D9 : SWO (ltOf cmpD9) where
  irrefl x := by
    unfold ltOf cmpD9
    rw [decide_eq_false_iff_not, cmpDu_lt, hfB_irr]; simp
  trans x y z h1 h2 := by
    unfold ltOf cmpD9 at *
    rw [decide_eq_true_eq, cmpDu_lt] at *
    exact hfB_trans hlf_fw x.2.1 y.2.1 z.2.1 h1 h2
  ntrans x y z h1 h2 := by
    unfold ltOf cmpD9 at *
    rw [decide_eq_false_iff_not, cmpDu_lt, Bool.not_eq_true] at *
    exact hfB_ntrans hlf_fw x.2.1 y.2.1 z.2.1 h1 h2
end Go.Proofs.Ythegkifhbgopoaa

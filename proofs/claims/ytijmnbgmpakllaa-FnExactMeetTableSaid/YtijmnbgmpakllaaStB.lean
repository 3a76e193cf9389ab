/-
  Sums of stars, balanced ones, rays along steps, missing rays, supports: what the program's and the model's calls return.
  Condition: the slice reads as the list that is named.
-/
import Derived.Test.YtijmnbgmpakllaaRy
namespace Go.Proofs.Ytijmnbgmpakllaa
set_option linter.unusedSimpArgs false
set_option linter.unusedVariables false
open Go.ChangeShapes Go.WideShapes Go.ChangeAt Go.RowKit
open Go.Sort (grow)

/-- The ray along two numbers. -/
def raO (x y : Int) : Tm := (x.tdiv (gI x y), y.tdiv (gI x y), gI x y)
def prR (x y : Int) : Tm := if okS x y = true then raO x y else (0, 0, 0)
theorem prR_yes {x y : Int} (h : okS x y = true) : prR x y = raO x y := if_pos h
theorem prR_no {x y : Int} (h : okS x y = false) : prR x y = (0, 0, 0) := if_neg (by simp [h])
/-- The ray that is missing. -/
def misB (l : List Tm) : Bool := ryB l && (!baB l && ryT (raO (-(sxA l l.length)) (-(syA l l.length))))
def misR (l : List Tm) : Tm := if misB l = true then raO (-(sxA l l.length)) (-(syA l l.length)) else (0, 0, 0)
theorem misR_yes {l : List Tm} (h : misB l = true) : misR l = raO (-(sxA l l.length)) (-(syA l l.length)) := if_pos h
theorem misR_no {l : List Tm} (h : misB l = false) : misR l = (0, 0, 0) := if_neg (by simp [h])
theorem misB_no1 {l : List Tm} (h : ryB l = false) : misB l = false := by unfold misB; rw [h]; rfl
theorem misB_no2 {l : List Tm} (h : baB l = true) : misB l = false := by unfold misB; rw [h]; simp
theorem misB_is {l : List Tm} (h : ryB l = true) (h' : baB l = false) : misB l = ryT (raO (-(sxA l l.length)) (-(syA l l.length))) := by unfold misB; rw [h, h']; rfl
theorem baB_no {l : List Tm} (h : ryB l = false) : baB l = false := by unfold baB; rw [h]; rfl
theorem baB_is {l : List Tm} (h : ryB l = true) : baB l = (decide (sxA l l.length = 0) && decide (syA l l.length = 0)) := by unfold baB; rw [h]; rfl
/-- The sum of the parts of a support. -/
def spA (l : List Tm) (x y : Int) : Nat → Int
  | 0 => 0
  | k + 1 => spA l x y k + (td l k).2.2 * max 0 ((td l k).1 * x + (td l k).2.1 * y)
def suB (l : List Tm) (x y : Int) : Bool := ryB l && okS x y
def suR (l : List Tm) (x y : Int) : Int := if suB l x y = true then spA l x y l.length else 0
theorem suR_yes {l : List Tm} {x y : Int} (h : suB l x y = true) : suR l x y = spA l x y l.length := if_pos h
theorem suR_no {l : List Tm} {x y : Int} (h : suB l x y = false) : suR l x y = 0 := if_neg (by simp [h])
theorem suB_no1 {l : List Tm} {x y : Int} (h : ryB l = false) : suB l x y = false := by unfold suB; rw [h]; rfl
theorem suB_is {l : List Tm} {x y : Int} (h : ryB l = true) : suB l x y = okS x y := by unfold suB; rw [h]; rfl
theorem max_mul {w a : Int} (hw : 0 ≤ w) : max 0 (w * a) = w * max 0 a := by
  by_cases h : 0 ≤ a
  · have := Int.mul_nonneg hw h
    rw [Int.max_eq_right h, Int.max_eq_right this]
  · have := Int.mul_nonneg hw (show 0 ≤ -a by omega)
    rw [Int.mul_neg] at this
    rw [Int.max_eq_left (show a ≤ 0 by omega), Int.max_eq_left (by omega), Int.mul_zero]
theorem st_bd {a x : Int} (ha : -20 ≤ a ∧ a ≤ 20) (hx : -20 ≤ x ∧ x ≤ 20) : -400 ≤ a * x ∧ a * x ≤ 400 := by
  have h1 := Int.mul_nonneg (show 0 ≤ 20 - a by omega) (show 0 ≤ 20 + x by omega)
  have h2 := Int.mul_nonneg (show 0 ≤ 20 + a by omega) (show 0 ≤ 20 - x by omega)
  have h3 := Int.mul_nonneg (show 0 ≤ 20 - a by omega) (show 0 ≤ 20 - x by omega)
  have h4 := Int.mul_nonneg (show 0 ≤ 20 + a by omega) (show 0 ≤ 20 + x by omega)
  simp only [Int.sub_mul, Int.add_mul, Int.mul_sub, Int.mul_add] at h1 h2 h3 h4
  omega
/-- The bounds of a part of a support. -/
theorem sp_bd {t : Tm} {x y : Int} (ht : ryT t = true) (hx : -20 ≤ x ∧ x ≤ 20) (hy : -20 ≤ y ∧ y ≤ 20) : (-400 ≤ t.1 * x ∧ t.1 * x ≤ 400) ∧ (-400 ≤ t.2.1 * y ∧ t.2.1 * y ≤ 400) ∧ (-16000 ≤ t.2.2 * (t.1 * x + t.2.1 * y) ∧ t.2.2 * (t.1 * x + t.2.1 * y) ≤ 16000) ∧ 0 ≤ t.2.2 * max 0 (t.1 * x + t.2.1 * y) ∧ t.2.2 * max 0 (t.1 * x + t.2.1 * y) ≤ 16000 := by
  obtain ⟨h1, h2, h3, h4, -, h6, h7⟩ := ryT_parts ht
  have e1 := st_bd ⟨h1, h2⟩ hx
  have e2 := st_bd ⟨h3, h4⟩ hy
  obtain ⟨s, hs⟩ : ∃ s, s = t.1 * x + t.2.1 * y := ⟨_, rfl⟩
  rw [← hs]
  have m1 := Int.mul_le_mul_of_nonneg_left (show s ≤ 800 by omega) (show 0 ≤ t.2.2 by omega)
  have m2 := Int.mul_le_mul_of_nonneg_left (show -800 ≤ s by omega) (show 0 ≤ t.2.2 by omega)
  have m3 := max_mul (a := s) (show 0 ≤ t.2.2 by omega)
  rw [← m3]
  refine ⟨e1, e2, ⟨by omega, by omega⟩, by omega, by omega⟩
theorem spA_bd {l : List Tm} {x y : Int} (h : ryB l = true) (hx : -20 ≤ x ∧ x ≤ 20) (hy : -20 ≤ y ∧ y ≤ 20) : ∀ k, k ≤ l.length → 0 ≤ spA l x y k ∧ spA l x y k ≤ 16000 * k
  | 0, _ => by simp [spA]
  | k + 1, hk => by
    have := spA_bd h hx hy k (by omega)
    have := sp_bd (ryB_at h (k := k) (by omega)) hx hy
    unfold spA
    omega
theorem sx_next (l : List Tm) (k : Nat) : sxA l (k + 1) = sxA l k + (td l k).2.2 * (td l k).1 := rfl
theorem sy_next (l : List Tm) (k : Nat) : syA l (k + 1) = syA l k + (td l k).2.2 * (td l k).2.1 := rfl
theorem ret_iib {a b c d : Int} {p q : Bool} (h : a = b) (h' : c = d) (h'' : p = q) : Ending.returned (.tuple #[.int .i64 a, .int .i64 c, .bool p]) = .returned (.tuple #[.int .i64 b, .int .i64 d, .bool q]) := by rw [h, h', h'']
theorem ret_ii {a b c d : Int} (h : a = b) (h' : c = d) : Ending.returned (.tuple #[.int .i64 a, .int .i64 c]) = .returned (.tuple #[.int .i64 b, .int .i64 d]) := by rw [h, h']
theorem ret_ib9 {a b : Int} {c d : Bool} (h : a = b) (h' : c = d) : Ending.returned (.tuple #[.int .i64 a, .bool c]) = .returned (.tuple #[.int .i64 b, .bool d]) := by rw [h, h']
theorem ret_bb9 {a b c d : Bool} (h : a = b) (h' : c = d) : Ending.returned (.tuple #[.bool a, .bool c]) = .returned (.tuple #[.bool b, .bool d]) := by rw [h, h']
set_option maxHeartbeats 1000000 in
set_option maxRecDepth 100000 in
theorem stSum_any (w : World) (B : Nat) (v : Value) (l : List Tm) (h : RyS w B v l) (hl : ryB l = true) : Calls Try.prog 92 #[v] w fun e w' => e = .returned (.tuple #[.int .i64 (sxA l l.length), .int .i64 (syA l l.length)]) ∧ Below w.heap.size w w' := by
  obtain ⟨A, cap, rfl, hm, hp⟩ := RyS.parts h
  have HP := Lib.hid hp
  obtain ⟨n, hn⟩ : ∃ n, n = l.length := ⟨_, rfl⟩
  have HN := Lib.hid hn
  have hle := ryB_le hl
  have HL := Lib.hid hl
  rw [← hn] at hm hle ⊢
  clear hp h hn hm hl
  go_enter Try.func92, Try.ntmps92
  go_wp2
  go_loopw [4, 5, 10] (fun x y i wr => ∃ k : Nat, k ≤ n ∧ x = .int .i64 (sxA l k) ∧ y = .int .i64 (syA l k) ∧ i = .int .i64 k ∧ Below w.heap.size w wr) (fun _ _ i _ => n - (intOf i).toNat)
  case atStart => exact ⟨0, by omega, rfl, rfl, rfl, Below.refl _ _⟩
  case round =>
    obtain ⟨k, hk, rfl, rfl, rfl, hb⟩ := hrel
    by_cases hlt : k < n
    · have hkl : k < l.length := by rw [← HN.out]; exact hlt
      obtain ⟨g, rfl, hc0⟩ := HP.out k hkl
      have hc := X3.below (hc0) hb
      obtain ⟨s1, s2⟩ := sA_bd HL.out k (by omega)
      obtain ⟨s3, s4⟩ := ry_bd (ryB_at HL.out hkl)
      have HX := Lib.hid (sx_next l k)
      have HY := Lib.hid (sy_next l k)
      generalize sxA l k = X at s1 HX ⊢
      generalize syA l k = Y at s2 HY ⊢
      generalize td l k = t at hc s3 s4 HX HY
      obtain ⟨a, b, c⟩ := t
      dsimp only at hc s3 s4 HX HY
      have q1 : IntKind.i64.wrap (c * a) = c * a := IntWalk.i64_in _ (by omega)
      have q2 : IntKind.i64.wrap (X + c * a) = X + c * a := IntWalk.i64_in _ (by omega)
      have q3 : IntKind.i64.wrap (c * b) = c * b := IntWalk.i64_in _ (by omega)
      have q4 : IntKind.i64.wrap (Y + c * b) = Y + c * b := IntWalk.i64_in _ (by omega)
      obtain ⟨c0, c1, c2⟩ := hc
      have hbA := hb.alloc hb.size (.cells #[.int .i64 a, .int .i64 b, .int .i64 c] 26)
      have hgl : g < wr.heap.size := cell_lt c0
      clear hc0 s1 s2 s3 s4
      go_wp2
      go_roundw
      case rel => exact ⟨k + 1, by omega, by rw [HX.out], by rw [HY.out], by go_num, hbA⟩
      case measure => simp [intOf]; omega
    · go_wp2
      go_ret2
      obtain rfl : k = n := by omega
      exact ⟨rfl, hb⟩
set_option maxHeartbeats 1000000 in
set_option maxRecDepth 100000 in
theorem implStarSum_any (w : World) (B : Nat) (v : Value) (l : List Tm) (h : RyS w B v l) : Calls Try.prog 86 #[v] w fun e w' => e = .returned (.tuple #[.int .i64 (sxR l), .int .i64 (syR l), .bool (ryB l)]) ∧ Below w.heap.size w w' := by
  cases hl : ryB l
  · have HL := Lib.hid hl
    clear hl
    go_enter Try.func86, Try.ntmps86
    go_wp2_with fail
    refine (isStar_any _ B _ l h).mono ?_
    rintro e w1 ⟨rfl, b1⟩
    rw [HL.out]
    go_wp2
    go_ret3
    exact ⟨ret_iib (sR_no HL.out).1.symm (sR_no HL.out).2.symm rfl, b1⟩
  · have HI := Lib.hid (isStar_any w B v l h)
    obtain ⟨A, cap, rfl, hm, hp⟩ := RyS.parts h
    have HP := Lib.hid hp
    obtain ⟨n, hn⟩ : ∃ n, n = l.length := ⟨_, rfl⟩
    have HN := Lib.hid hn
    have hle := ryB_le hl
    have HL := Lib.hid hl
    have HS := Lib.hid (sR_yes hl)
    rw [hl] at HI
    rw [← hn] at hm hle HS HI ⊢
    clear hp h hn hm hl
    go_enter Try.func86, Try.ntmps86
    go_wp2_with fail
    refine HI.out.mono ?_
    rintro e w1 ⟨rfl, b1⟩
    go_wp2
    go_loopw [5, 6, 14] (fun x y i wr => ∃ k : Nat, k ≤ n ∧ x = .int .i64 (sxA l k) ∧ y = .int .i64 (syA l k) ∧ i = .int .i64 k ∧ Below w.heap.size w wr) (fun _ _ i _ => n - (intOf i).toNat)
    case atStart => exact ⟨0, by omega, rfl, rfl, rfl, b1⟩
    case round =>
      obtain ⟨k, hk, rfl, rfl, rfl, hb⟩ := hrel
      by_cases hlt : k < n
      · have hkl : k < l.length := by rw [← HN.out]; exact hlt
        obtain ⟨g, rfl, hc0⟩ := HP.out k hkl
        have hc := X3.below (hc0) hb
        obtain ⟨s1, s2⟩ := sA_bd HL.out k (by omega)
        obtain ⟨s3, s4⟩ := ry_bd (ryB_at HL.out hkl)
        have HX := Lib.hid (sx_next l k)
        have HY := Lib.hid (sy_next l k)
        generalize sxA l k = X at s1 HX ⊢
        generalize syA l k = Y at s2 HY ⊢
        generalize td l k = t at hc s3 s4 HX HY
        obtain ⟨a, b, c⟩ := t
        dsimp only at hc s3 s4 HX HY
        have q1 : IntKind.i64.wrap (c * a) = c * a := IntWalk.i64_in _ (by omega)
        have q2 : IntKind.i64.wrap (X + c * a) = X + c * a := IntWalk.i64_in _ (by omega)
        have q3 : IntKind.i64.wrap (c * b) = c * b := IntWalk.i64_in _ (by omega)
        have q4 : IntKind.i64.wrap (Y + c * b) = Y + c * b := IntWalk.i64_in _ (by omega)
        obtain ⟨c0, c1, c2⟩ := hc
        have hbA := hb.alloc hb.size (.cells #[.int .i64 a, .int .i64 b, .int .i64 c] 26)
        have hgl : g < wr.heap.size := cell_lt c0
        clear hc0 s1 s2 s3 s4
        go_wp2
        go_roundw
        case rel => exact ⟨k + 1, by omega, by rw [HX.out], by rw [HY.out], by go_num, hbA⟩
        case measure => simp [intOf]; omega
      · go_wp2
        go_ret3
        obtain rfl : k = n := by omega
        exact ⟨ret_iib HS.out.1.symm HS.out.2.symm rfl, hb⟩
theorem stBalanced_any (w : World) (B : Nat) (v : Value) (l : List Tm) (h : RyS w B v l) (hl : ryB l = true) : Calls Try.prog 85 #[v] w fun e w' => e = .returned (.bool (baB l)) ∧ Below w.heap.size w w' := by
  have HB := Lib.hid (baB_is hl)
  have HS := Lib.hid (stSum_any w B v l h hl)
  rw [HB.out]
  generalize sxA l l.length = X at HS ⊢
  generalize syA l l.length = Y at HS ⊢
  by_cases hx : X = 0
  · subst hx
    go_enter Try.func85, Try.ntmps85
    go_wp2_with fail
    refine HS.out.mono ?_
    rintro e w1 ⟨rfl, b1⟩
    go_wp2
    go_ret
    exact ⟨ret_bool (by simp; rfl), b1⟩
  · have hx0 : (X == 0) = false := by simpa using hx
    go_enter Try.func85, Try.ntmps85
    go_wp2_with fail
    refine HS.out.mono ?_
    rintro e w1 ⟨rfl, b1⟩
    go_wp2
    go_ret
    exact ⟨ret_bool (by simp [hx]), b1⟩
theorem implIsBalanced_any (w : World) (B : Nat) (v : Value) (l : List Tm) (h : RyS w B v l) : Calls Try.prog 70 #[v] w fun e w' => e = .returned (.tuple #[.bool (baB l), .bool (ryB l)]) ∧ Below w.heap.size w w' := by
  have HS := Lib.hid (implStarSum_any w B v l h)
  cases hl : ryB l
  · have HL := Lib.hid (baB_no hl)
    rw [hl] at HS
    clear hl
    generalize sxR l = X at HS
    generalize syR l = Y at HS
    go_enter Try.func70, Try.ntmps70
    go_wp2_with fail
    refine HS.out.mono ?_
    rintro e w1 ⟨rfl, b1⟩
    go_wp2
    go_ret2
    exact ⟨ret_bb9 HL.out.symm rfl, b1⟩
  · have HL := Lib.hid (show baB l = (decide (sxR l = 0) && decide (syR l = 0)) by rw [(sR_yes hl).1, (sR_yes hl).2]; exact baB_is hl)
    rw [HL.out]
    rw [hl] at HS
    clear hl HL
    generalize sxR l = X at HS ⊢
    generalize syR l = Y at HS ⊢
    by_cases hx : X = 0
    · subst hx
      go_enter Try.func70, Try.ntmps70
      go_wp2_with fail
      refine HS.out.mono ?_
      rintro e w1 ⟨rfl, b1⟩
      go_wp2
      go_ret2
      exact ⟨ret_bb9 (by simp; rfl) rfl, b1⟩
    · have hx0 : (X == 0) = false := by simpa using hx
      go_enter Try.func70, Try.ntmps70
      go_wp2_with fail
      refine HS.out.mono ?_
      rintro e w1 ⟨rfl, b1⟩
      go_wp2
      go_ret2
      exact ⟨ret_bb9 (by simp [hx]) rfl, b1⟩
theorem tdiv_bd {x g b : Int} (h : -b ≤ x ∧ x ≤ b) : -b ≤ x.tdiv g ∧ x.tdiv g ≤ b := by
  have : (x.tdiv g).natAbs ≤ x.natAbs := by rw [Int.natAbs_tdiv]; exact Nat.div_le_self _ _
  omega
theorem T3.loaded9 {w : World} {g : Nat} {t : Tm} (h : T3 w g t) : (loadVar 26 ⟨g, 0, none⟩).run Try.prog w = .ok (tmV t) w := T3.loadR h
theorem T3.resultsR {w : World} {g : Nat} {t : Tm} (h : T3 w g t) {fn : Func} {p u : Tmp} {ts : Array Value} {v : Value} (hr : fn.results = #[.cell p 26, .tmp u]) (hp : ts.getD p undef = .pointer (some ⟨g, 0, none⟩)) (hu : ts.getD u undef = v) : (Go.results fn ts).run Try.prog w = .ok (.tuple #[tmV t, v]) w := by
  rw [results_cell_tmp hr, hp, hu]
  rw [show (asAddr (Value.pointer (some ⟨g, 0, none⟩))).run Try.prog w = .ok ⟨g, 0, none⟩ w from rfl]
  simp only [Result.andThen]
  rw [T3.loaded9 h]
theorem bel3 {x w : World} (h : Below x.heap.size x w) {g : Nat} (hg : x.heap.size ≤ g) (a b c : Value) : Below x.heap.size x (((w.setCell ⟨g, 0, none⟩ a).setCell ⟨g, 1, none⟩ b).setCell ⟨g, 2, none⟩ c) :=
  ((h.setCell hg _).setCell hg _).setCell hg _
def GivesR (t : Tm) (b : Bool) (w : World) (e : Ending) (w' : World) : Prop := e = .returned (.tuple #[tmV t, .bool b]) ∧ Below w.heap.size w w'
theorem ret_tb {s t : Tm} {a b : Bool} (h : s = t) (h' : a = b) : Ending.returned (.tuple #[tmV s, .bool a]) = .returned (.tuple #[tmV t, .bool b]) := by rw [h, h']
end Go.Proofs.Ytijmnbgmpakllaa

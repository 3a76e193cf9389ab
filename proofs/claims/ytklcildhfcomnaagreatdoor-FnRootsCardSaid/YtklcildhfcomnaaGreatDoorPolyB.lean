/-
  Closures over the terms and coefficients of a polynomial, and the values that they tell: what each call returns.
  Conditions: the slice reads as the list that is named; a function value answers as the function that is named.
-/
import Derived.Test.YtklcildhfcomnaaGreatDoorPolyM
namespace Go.Proofs.YtklcildhfcomnaaGreatDoor
set_option linter.unusedSimpArgs false
set_option linter.unusedVariables false
open Go.ChangeShapes Go.WideShapes Go.ChangeAt Go.RowKit

/-- A function of the program is entered when it is called by its value. -/
abbrev Ent (g : Nat) : Prop := ∀ (args : Array Value) (w : World), (callFunc g args).run Tryz.prog w = .ok (.enter g args) w
/-- The function value tells f at each place below n, whatever was made since. -/
def FnAt (g : Nat) (lb : Array Value) (n : Nat) (f : Nat → Int) (w : World) : Prop := ∀ (W : World) (i : Nat), i < n → Below w.heap.size w W → Calls Tryz.prog g (#[.int .i64 (i : Int)] ++ lb) W fun e w' => e = .returned (.int .i64 (f i)) ∧ Below W.heap.size W w'
theorem FnAt.later {g : Nat} {lb : Array Value} {n : Nat} {f : Nat → Int} {w W : World} (h : FnAt g lb n f w) (hb : Below w.heap.size w W) : FnAt g lb n f W :=
  fun W' i hi hb' => h W' i hi (bel2 hb hb')
/-- What a call gives that makes such a value. -/
def FnVal (g n : Nat) (f : Nat → Int) (w : World) (e : Ending) (w' : World) : Prop := ∃ lb, e = .returned (.func (.func g) #[] lb) ∧ FnAt g lb n f w' ∧ Below w.heap.size w w'
theorem box_new (w : World) (v : Value) (t : TypeId) : (w.alloc (.cells #[v] t)).cell? ⟨w.heap.size, 0, none⟩ = some v :=
  cell_of_row (w.alloc (.cells #[v] t)) w.heap.size 0 #[v] t (0, 0) (heap_alloc_new w _)
theorem box_old {w w' : World} {a : Addr} {v : Value} (h : w.cell? a = some v) (hb : Below w.heap.size w w') : w'.cell? a = some v := (hb.cell (p := a) (cell_lt h)).trans h
theorem Row.below {w w' : World} {B g n : Nat} {zs : List Int} (h : Row w B g n zs) (hb : Below w.heap.size w w') : Row w' B g n zs := by
  refine ⟨h.1, ?_⟩
  rcases h.2 with h0 | ⟨g', cap, cur, h1, h2, h3, h4⟩
  · exact .inl h0
  · refine .inr ⟨g', cap, cur, h1, h2, (hb.block g' ?_).trans h3, h4⟩
    exact (World.ownsRow.lt h g' (by rw [h1]; rfl)).2
set_option maxHeartbeats 400000 in
theorem leastAmong_any (w : World) (hN : Neut w) (g : Nat) (lb : Array Value) (eg : Ent g) (n : Nat) (hn : n ≤ 1000) (f : Nat → Int) (hp : FnAt g lb n f w) : Calls Tryz.prog 53 #[.int .i64 (n : Int), .func (.func g) #[] lb] w fun e w' => e = .returned (.int .i64 (leastL (tab f n))) ∧ Below w.heap.size w w' := by
  have HP := Lib.hid hp
  have hN0 := hN.1
  clear hp
  go_enter Tryz.func53, Tryz.ntmps53
  go_wp2
  clear hN0 hN
  go_loopw [5, 10] (fun x i wr => ∃ k : Nat, k ≤ n ∧ i = .int .i64 k ∧ x = .int .i64 (leastL (tab f k)) ∧ Below w.heap.size w wr) (fun _ i _ => n - (intOf i).toNat)
  case atStart => exact ⟨0, by omega, rfl, rfl, Below.refl _ _⟩
  case round =>
    obtain ⟨k, hk, rfl, rfl, hb⟩ := hrel
    by_cases hlt : k < n
    · have hnx := Lib.hid (tab_least f k)
      have cS := HP.out wr k hlt hb
      go_wp2_with (go_at_fn g; refine cS.mono ?_; rintro e W' ⟨rfl, hb2⟩)
      all_goals
        go_roundw
        case rel => exact ⟨k + 1, by omega, by go_num, by rw [hnx.out]; unfold lessI; split <;> go_num, bel2 hb hb2⟩
        case measure => simp [intOf]; omega
    · go_wp2
      go_ret
      exact ⟨ret_i64 (by rw [show k = n by omega]), hb⟩
set_option maxHeartbeats 400000 in
theorem term1_any (W : World) (B : Nat) (v : Value) (zs : List Int) (x : Int) (a b : Nat) (h : IS W B v zs) (ha : W.cell? ⟨a, 0, none⟩ = some v) (hb : W.cell? ⟨b, 0, none⟩ = some (.int .i64 x)) (hz : poB zs = true) (hx : -1000000 ≤ x ∧ x ≤ 1000000) (i : Nat) (hi : i < zs.length) :
    Calls Tryz.prog 84 #[.int .i64 (i : Int), .pointer (some ⟨a, 0, none⟩), .pointer (some ⟨b, 0, none⟩)] W fun e w' => e = .returned (.int .i64 (tmI zs x i)) ∧ Below W.heap.size W w' := by
  have hab := numB_bd (po_num hz hi)
  have hl := (po_parts hz).2.2.1
  obtain ⟨A, cap, rfl, hm, hp⟩ := h.parts
  obtain ⟨g, rfl, hc⟩ := hp i hi
  have hml := tm_mul (x := x) (i := i) hx (by omega)
  obtain ⟨hm1, hm2⟩ := hml
  obtain ⟨hx1, hx2⟩ := hx
  obtain ⟨hab1, hab2⟩ := hab
  have HQ := Lib.hid (show ∀ n, Calls Tryz.prog 85 #[.int .i64 (gd zs i), .int .i64 (i * x)] (W.drewN n) fun e w' => e = .returned (.int .i64 (plusI (gd zs i) (i * x))) ∧ w' = W.drewN n from
    fun n => (freeProduct_any _ _ _ (by omega) (by omega)).mono fun _ _ ⟨he, hw⟩ => ⟨he, hw.symm⟩)
  clear hp hz h
  go_enter Tryz.func84, Tryz.ntmps84
  go_wp2
  go_quiet (first | (go_at_call 85; refine Calls.quiet_of_same (HQ.out _)))
  go_wp2
  go_ret
  exact ⟨rfl, belN (Below.refl _ _) _⟩
theorem ent_term : Ent 84 := enters_of Tryz.func84 (by kernel_rfl) rfl
theorem term_boxes (w : World) (B : Nat) (v : Value) (zs : List Int) (x : Int) (h : IS w B v zs) (hz : poB zs = true) (hx : -1000000 ≤ x ∧ x ≤ 1000000) :
    FnAt 84 #[.pointer (some ⟨w.heap.size, 0, none⟩), .pointer (some ⟨w.heap.size + 1, 0, none⟩)] zs.length (tmI zs x) ((w.alloc (.cells #[v] 23)).alloc (.cells #[.int .i64 x] 3)) ∧
    Below w.heap.size w ((w.alloc (.cells #[v] 23)).alloc (.cells #[.int .i64 x] 3)) := by
  have b1 : Below w.heap.size w (w.alloc (.cells #[v] 23)) := (Below.refl _ _).alloc (Nat.le_refl _) _
  have b2 : Below (w.alloc (.cells #[v] 23)).heap.size (w.alloc (.cells #[v] 23)) ((w.alloc (.cells #[v] 23)).alloc (.cells #[.int .i64 x] 3)) := (Below.refl _ _).alloc (Nat.le_refl _) _
  have hs : (w.alloc (.cells #[v] 23)).heap.size = w.heap.size + 1 := by simp
  have hn := box_new (w.alloc (.cells #[v] 23)) (.int .i64 x) 3
  rw [hs] at hn
  refine ⟨fun W i hi hb => ?_, bel2 b1 b2⟩
  exact term1_any W B v zs x _ _ ((h.below (bel2 b1 b2)).below hb) (box_old (box_old (box_new w v 23) b2) hb) (box_old hn hb) hz hx i hi
set_option maxHeartbeats 400000 in
theorem termAt_any (w : World) (B : Nat) (v : Value) (zs : List Int) (x : Int) (h : IS w B v zs) (hz : poB zs = true) (hx : -1000000 ≤ x ∧ x ≤ 1000000) :
    Calls Tryz.prog 54 #[v, .int .i64 x] w fun e w' => FnVal 84 zs.length (tmI zs x) w e w' := by
  have hmf : ∀ (fn : Fn) (first cap : Array Value) (w : World), (Instr.makeFunc fn first cap).run Tryz.prog w = .ok (.func fn first cap) w := fun _ _ _ _ => rfl
  have HB := Lib.hid (term_boxes w B v zs x h hz hx)
  obtain ⟨A, cap, rfl, -, -⟩ := h.parts
  clear hz h
  go_enter Tryz.func54, Tryz.ntmps54
  go_wp2
  go_ret
  exact ⟨_, rfl, HB.out.1, HB.out.2⟩
theorem poNo {zs : List Int} {x : Int} (h : poB zs = false) : askB zs x = false := by simp [askB, h]
theorem finNo {zs : List Int} {x : Int} (h : finB x = false) : askB zs x = false := by simp [askB, h]
set_option maxHeartbeats 400000 in
theorem implPolyValue_any (w : World) (hN : Neut w) (B : Nat) (v : Value) (zs : List Int) (x : Int) (h : IS w B v zs) : Calls Tryz.prog 20 #[v, .int .i64 x] w fun e w' => e = .returned (.tuple #[.int .i64 (pvI zs x), .bool (askB zs x)]) ∧ Below w.heap.size w w' := by
  have h0 := Lib.hid h
  obtain ⟨A, cap, rfl, hm, hp⟩ := h.parts
  unfold maxLen at hm
  clear hp h
  cases hz : poB zs
  · have HQ := Lib.hid (poNo (x := x) hz)
    go_enter Tryz.func20, Tryz.ntmps20
    go_wp2_with (go_at_call 25; refine (isPoly_any _ B _ zs h0.out).mono ?_; rintro e w' ⟨rfl, rfl⟩)
    go_ret2
    exact ⟨ret_ib (pv_no HQ.out).symm HQ.out.symm, Below.refl _ _⟩
  · cases hf : finB x
    · have HQ := Lib.hid (finNo (zs := zs) hf)
      go_enter Tryz.func20, Tryz.ntmps20
      go_wp2_with (first | (go_at_call 25; refine (isPoly_any _ B _ zs h0.out).mono ?_; rintro e w' ⟨rfl, rfl⟩) | (go_at_call 42; refine (isFin_any _ _).mono ?_; rintro e w' ⟨rfl, rfl⟩))
      go_ret2
      exact ⟨ret_ib (pv_no HQ.out).symm HQ.out.symm, Below.refl _ _⟩
    · have hx := (finB_iff x).1 hf
      have hl := (po_parts hz).2.2.1
      have HZ := Lib.hid hz
      have H1 := Lib.hid (ask_eq hz hf)
      have H2 := Lib.hid (pv_eq hz hf)
      go_enter Tryz.func20, Tryz.ntmps20
      go_wp2_with (first | (go_at_call 25; refine (isPoly_any _ B _ zs h0.out).mono ?_; rintro e w' ⟨rfl, rfl⟩) | (go_at_call 42; refine (isFin_any _ _).mono ?_; rintro e w' ⟨rfl, rfl⟩) | (go_at_call 54; refine (termAt_any _ B _ zs x h0.out HZ.out hx).mono ?_; rintro e w1 ⟨lb, rfl, hp, b1⟩) | (go_at_call 53; refine (leastAmong_any _ (hN.below b1) _ lb ent_term zs.length (by omega) _ hp).mono ?_; rintro e w2 ⟨rfl, b2⟩) | (go_at_call 52; refine (numberOrNone_any _ _).mono ?_; rintro e w' ⟨rfl, rfl⟩))
      go_ret2
      exact ⟨ret_ib H2.out H1.out, bel2 b1 b2⟩
end Go.Proofs.YtklcildhfcomnaaGreatDoor

/-
  The functions of chapter 3 on polynomials, of the program and of the model: least terms, slopes, sums, products, moved ones: what each call returns.
  Condition: the slices read as the lists that are named.
-/
import Derived.Test.YtbhmlfidideemaaDoorPolyB
namespace Go.Proofs.YtbhmlfidideemaaDoor
set_option linter.unusedSimpArgs false
set_option linter.unusedVariables false
open Go.ChangeShapes Go.WideShapes Go.ChangeAt Go.RowKit

theorem ret_iib {a b c d : Int} {e f : Bool} (h : a = b) (h' : c = d) (h'' : e = f) : Ending.returned (.tuple #[.int .i64 a, .int .i64 c, .bool e]) = .returned (.tuple #[.int .i64 b, .int .i64 d, .bool f]) := by rw [h, h', h'']
/-- A new slice that is laid out whole. -/
theorem IS.lit (w : World) (x : Int) : IS (w.alloc (.cells #[.int .i64 x] 3)) w.heap.size (.slice (some ⟨w.heap.size, 0, none⟩) 1 1) [x] :=
  World.ownsRow_lit w #[.int .i64 x] 1 (Nat.le_refl _) (by decide) rfl
set_option maxHeartbeats 400000 in
theorem specLeastTerms_any (w : World) (B : Nat) (v : Value) (zs : List Int) (x : Int) (h : IS w B v zs) : Calls Tryd.prog 14 #[v, .int .i64 x] w fun e w' => GivesIB (askB zs x) (ltR zs x) w e w' := by
  cases hq : askB zs x
  · have HQ := Lib.hid hq
    go_enter Tryd.func14, Tryd.ntmps14
    go_wp2_with fail
    refine (poAsked_any _ B _ zs x h).mono ?_
    rintro e w1 ⟨rfl, b1⟩
    rw [HQ.out]
    go_wp2
    go_ret2
    exact givesIB_nil rfl (ltR_no HQ.out) b1
  · obtain ⟨hz, hf, -⟩ := ask_parts hq
    have hx := (finB_iff x).1 hf
    have hl := (po_parts hz).2.2.1
    have HZ := Lib.hid hz
    have HQ := Lib.hid hq
    clear hz hf hq
    go_enter Tryd.func14, Tryd.ntmps14
    go_wp2_with fail
    refine (poAsked_any _ B _ zs x h).mono ?_
    rintro e w1 ⟨rfl, b1⟩
    rw [HQ.out]
    go_wp2_with fail
    refine (poTerms_any _ B _ zs x (h.below b1) HZ.out hx.1 hx.2).mono ?_
    rintro e w2 ⟨r, rfl, hr, b2⟩
    go_wp2_with fail
    refine (nuPlaces_any _ _ _ _ hr (by rw [tms_len]; omega)).mono ?_
    rintro e w3 ⟨s, rfl, hs, b3⟩
    go_wp2
    go_ret2
    have B2 := bel2 b1 b2
    exact givesIB_yes rfl (by rw [ltR_yes HQ.out]; exact hs.base (Nat.le_trans B2.size (Nat.le_refl _))) (bel2 B2 b3)
set_option maxHeartbeats 800000 in
set_option maxRecDepth 100000 in
theorem implLeastTerms_any (w : World) (hN : Neut w) (B : Nat) (v : Value) (zs : List Int) (x : Int) (h : IS w B v zs) : Calls Tryd.prog 15 #[v, .int .i64 x] w fun e w' => GivesIB (askB zs x) (ltR zs x) w e w' := by
  have h0 := Lib.hid h
  cases hq : askB zs x
  · have HQ := Lib.hid hq
    go_enter Tryd.func15, Tryd.ntmps15
    go_wp2_with fail
    refine (implPolyValue_any _ hN B _ zs x h).mono ?_
    rintro e w1 ⟨rfl, b1⟩
    rw [HQ.out]
    go_wp2
    go_ret2
    exact givesIB_nil rfl (ltR_no HQ.out) b1
  · obtain ⟨hz, hf, -⟩ := ask_parts hq
    have hx := (finB_iff x).1 hf
    have hl := (po_parts hz).2.2.1
    have HZ := Lib.hid hz
    have HQ := Lib.hid hq
    have HV := Lib.hid (pv_yes hq)
    have HTL := Lib.hid (tms_len zs x)
    obtain ⟨A, cap, rfl, hm, hp⟩ := h.parts
    clear hz hf hq hp hm h
    obtain ⟨i0, hi, hz0, hz1, hz2⟩ := info_parts infoInt
    have eg := ent_term
    go_enter Tryd.func15, Tryd.ntmps15
    go_wp2_with fail
    refine (implPolyValue_any _ hN B _ zs x h0.out).mono ?_
    rintro e w1 ⟨rfl, b1⟩
    rw [HQ.out, HV.out]
    go_wp2_with fail
    refine (termAt_any _ B _ zs x (h0.out.below b1) HZ.out hx).mono ?_
    rintro e w2 ⟨lb, rfl, hp, b2⟩
    have HP := Lib.hid hp
    have B2 := bel2 b1 b2
    have b2s := b2.size
    obtain ⟨m, hm⟩ : ∃ m, valI zs x = m := ⟨_, rfl⟩
    have HM := Lib.hid hm
    rw [hm]
    clear hp b1 hN hm
    go_wp2_with fail
    go_loopw [9, 24] (fun o i wr => ∃ k : Nat, k ≤ zs.length ∧ i = .int .i64 k ∧ IS wr w2.heap.size o (plc (tms zs x) m k) ∧ Below w2.heap.size w2 wr) (fun _ i _ => zs.length - (intOf i).toNat)
    case atStart => exact ⟨0, by omega, rfl, IS.nil_ _ _, Below.refl _ _⟩
    case round =>
      obtain ⟨k, hk, rfl, ho, hb⟩ := hrel
      by_cases hlt : k < zs.length
      · have cS := HP.out wr k hlt hb
        have HG := Lib.hid (show gd (tms zs x) k = tmI zs x k from tab_gd _ hlt)
        go_wp2_with fail
        refine cS.mono ?_
        rintro e W ⟨rfl, hb3⟩
        have ho3 := ho.below hb3
        have hb4 := bel2 hb hb3
        clear ho hb hb3 cS
        cases hq : tmI zs x k == m
        · have HPL := Lib.hid (plc_no (zs := tms zs x) (m := m) (k := k) (by rw [HG.out]; exact hq))
          go_wp2
          go_roundw
          case rel => exact ⟨k + 1, by omega, by go_num, by rw [HPL.out]; exact ho3, hb4⟩
          case measure => simp [intOf]; omega
        · have HPL := Lib.hid (plc_yes (zs := tms zs x) (m := m) (k := k) (by rw [HG.out]; exact hq))
          have hpl := plc_len (tms zs x) m k
          have ho' : W.ownsRow w2.heap.size 3 1 u9 (plc (tms zs x) m k).length (ints (plc (tms zs x) m k)) := ho3
          go_wp2_with (at_builtin; refine wpList_append_own _ rfl _ _ 22 rfl w2.heap.size 3 i0 (.int .i64 0) 1 8 Tryd.underlying22 hi hz0 hz1 hz2 rfl (by decide) _ _ _ rfl (ho'.alloc _) ⟨W.heap.size, 0, none⟩ 1 1 [.int .i64 (k : Int)] rfl rfl (one_new _ _) (by simp [Value.oneCell']) (by unfold maxLen; omega) (by omega) (by have := hb4.size; simp; omega) ?_; intro v' w3 hown' hgrow hnil)
          have hb6 : Below w2.heap.size w2 w3 := (hb4.alloc hb4.size _).grown hgrow (by have := hb4.size; simp; omega) (fun g' hg' => (World.ownsRow.lt ho' g' hg').1)
          have hrow := IS.snoc rfl hown'
          rw [← HPL.out] at hrow
          go_wp2
          go_roundw
          case rel => exact ⟨k + 1, by omega, by go_num, hrow, hb6⟩
          case measure => simp [intOf]; omega
      · go_wp2
        go_ret2
        obtain rfl : k = zs.length := by omega
        refine givesIB_yes rfl ?_ (bel2 B2 hb)
        rw [ltR_yes HQ.out]
        unfold ltL places
        rw [HTL.out, show leastL (tms zs x) = m from HM.out]
        exact ho.base B2.size
/-- What SlopesAt gives. -/
def GivesS (zs : List Int) (x : Int) (w : World) (e : Ending) (w' : World) : Prop := e = .returned (.tuple #[.int .i64 (slHi zs x), .int .i64 (slLo zs x), .bool (askB zs x)]) ∧ Below w.heap.size w w'
theorem givesS_no {zs : List Int} {x : Int} {w w' : World} (h : askB zs x = false) (hb : Below w.heap.size w w') : GivesS zs x w (.returned (.tuple #[.int .i64 0, .int .i64 0, .bool false])) w' :=
  ⟨ret_iib (by simp [slHi, h]) (by simp [slLo, h]) h.symm, hb⟩
theorem givesS_yes {zs : List Int} {x : Int} {w w' : World} (h : askB zs x = true) (hb : Below w.heap.size w w') : GivesS zs x w (.returned (.tuple #[.int .i64 (gd (ltL zs x) ((ltL zs x).length - 1)), .int .i64 (gd (ltL zs x) 0), .bool true])) w' :=
  ⟨ret_iib (by simp [slHi, h]) (by simp [slLo, h]) h.symm, hb⟩
set_option maxHeartbeats 400000 in
theorem specSlopesAt_any (w : World) (B : Nat) (v : Value) (zs : List Int) (x : Int) (h : IS w B v zs) : Calls Tryd.prog 18 #[v, .int .i64 x] w fun e w' => GivesS zs x w e w' := by
  cases hq : askB zs x
  · have HQ := Lib.hid hq
    go_enter Tryd.func18, Tryd.ntmps18
    go_wp2_with fail
    refine (poAsked_any _ B _ zs x h).mono ?_
    rintro e w1 ⟨rfl, b1⟩
    rw [HQ.out]
    go_wp2
    go_ret3
    exact givesS_no HQ.out b1
  · obtain ⟨hz, hf, -⟩ := ask_parts hq
    have hx := (finB_iff x).1 hf
    have hl := (po_parts hz).2.2.1
    have HZ := Lib.hid hz
    have HQ := Lib.hid hq
    have HLP := Lib.hid (lt_pos hq)
    have HLE := Lib.hid (lt_le zs x)
    clear hz hf hq
    go_enter Tryd.func18, Tryd.ntmps18
    go_wp2_with fail
    refine (poAsked_any _ B _ zs x h).mono ?_
    rintro e w1 ⟨rfl, b1⟩
    rw [HQ.out]
    go_wp2_with fail
    refine (poTerms_any _ B _ zs x (h.below b1) HZ.out hx.1 hx.2).mono ?_
    rintro e w2 ⟨r, rfl, hr, b2⟩
    go_wp2_with fail
    refine (nuPlaces_any _ _ _ _ hr (by rw [tms_len]; omega)).mono ?_
    rintro e w3 ⟨s, rfl, hs, b3⟩
    have B3 := bel2 (bel2 b1 b2) b3
    obtain ⟨ls, hls⟩ : ∃ ls, ltL zs x = ls := ⟨_, rfl⟩
    have HLS := Lib.hid hls
    have hs' : IS w3 w2.heap.size s ls := by rw [← hls]; exact hs
    have hpos : 0 < ls.length := by rw [← hls]; exact HLP.out
    have hle : ls.length ≤ zs.length := by rw [← hls]; exact HLE.out
    clear hs hls
    obtain ⟨A, cap, rfl, -, hp⟩ := hs'.parts
    obtain ⟨g, rfl, hc0⟩ := hp 0 hpos
    obtain ⟨g', hg', hc1⟩ := hp (ls.length - 1) (by omega)
    cases hg'
    clear hp hs'
    go_wp2
    go_quiet (fail)
    go_wp2
    go_ret3
    refine ⟨ret_iib ?_ ?_ HQ.out.symm, belN B3 _⟩
    · simp only [slHi, HQ.out, if_true]; rw [HLS.out]
    · simp only [slLo, HQ.out, if_true]; rw [HLS.out]
set_option maxHeartbeats 400000 in
theorem implSlopesAt_any (w : World) (hN : Neut w) (B : Nat) (v : Value) (zs : List Int) (x : Int) (h : IS w B v zs) : Calls Tryd.prog 19 #[v, .int .i64 x] w fun e w' => GivesS zs x w e w' := by
  cases hq : askB zs x
  · have HQ := Lib.hid hq
    go_enter Tryd.func19, Tryd.ntmps19
    go_wp2_with fail
    refine (implLeastTerms_any _ hN B _ zs x h).mono ?_
    rintro e w1 ⟨r, rfl, hr, b1⟩
    rw [HQ.out]
    go_wp2
    go_ret3
    exact givesS_no HQ.out b1
  · have hl := (po_parts (ask_parts hq).1).2.2.1
    have HQ := Lib.hid hq
    have HLP := Lib.hid (lt_pos hq)
    have HLE := Lib.hid (lt_le zs x)
    clear hq
    go_enter Tryd.func19, Tryd.ntmps19
    go_wp2_with fail
    refine (implLeastTerms_any _ hN B _ zs x h).mono ?_
    rintro e w3 ⟨s, rfl, hs, B3⟩
    rw [ltR_yes HQ.out] at hs
    rw [HQ.out]
    obtain ⟨ls, hls⟩ : ∃ ls, ltL zs x = ls := ⟨_, rfl⟩
    have HLS := Lib.hid hls
    have hs' : IS w3 w.heap.size s ls := by rw [← hls]; exact hs
    have hpos : 0 < ls.length := by rw [← hls]; exact HLP.out
    have hle : ls.length ≤ zs.length := by rw [← hls]; exact HLE.out
    clear hs hls
    obtain ⟨A, cap, rfl, -, hp⟩ := hs'.parts
    obtain ⟨g, rfl, hc0⟩ := hp 0 hpos
    obtain ⟨g', hg', hc1⟩ := hp (ls.length - 1) (by omega)
    cases hg'
    clear hp hs'
    go_wp2
    go_quiet (fail)
    go_wp2
    go_ret3
    refine ⟨ret_iib ?_ ?_ HQ.out.symm, belN B3 _⟩
    · simp only [slHi, HQ.out, if_true]; rw [HLS.out]
    · simp only [slLo, HQ.out, if_true]; rw [HLS.out]
theorem poAt_any (w : World) (B : Nat) (v : Value) (zs : List Int) (i : Nat) (m : Int) (hm : m = i) (h : IS w B v zs) : Calls Tryd.prog 59 #[v, .int .i64 m] w fun e w' => e = .returned (.int .i64 (atI zs i)) ∧ w = w' := by
  subst hm
  obtain ⟨A, cap, rfl, hm, hp⟩ := h.parts
  unfold maxLen at hm
  by_cases hi : i < zs.length
  · obtain ⟨g, rfl, hc⟩ := hp i hi
    have HA := Lib.hid (at_in hi)
    clear hp
    go_enter Tryd.func59, Tryd.ntmps59
    go_wp2
    go_ret
    exact ⟨ret_i64 HA.out.symm, rfl⟩
  · have HA := Lib.hid (at_out hi)
    clear hp
    go_enter Tryd.func59, Tryd.ntmps59
    go_wp2
    go_ret
    exact ⟨ret_i64 HA.out.symm, rfl⟩
theorem ent_coef : Ent 60 := enters_of Tryd.func60 (by kernel_rfl) rfl
theorem coef1_any (w : World) (B : Nat) (v : Value) (zs : List Int) (a i : Nat) (m : Int) (hm : m = i) (h : IS w B v zs) (ha : w.cell? ⟨a, 0, none⟩ = some v) : Calls Tryd.prog 60 #[.int .i64 m, .pointer (some ⟨a, 0, none⟩)] w fun e w' => e = .returned (.int .i64 (atI zs i)) ∧ w = w' := by
  subst hm
  obtain ⟨A, cap, rfl, hm, hp⟩ := h.parts
  unfold maxLen at hm
  by_cases hi : i < zs.length
  · obtain ⟨g, rfl, hc⟩ := hp i hi
    have HA := Lib.hid (at_in hi)
    clear hp
    go_enter Tryd.func60, Tryd.ntmps60
    go_wp2
    go_ret
    exact ⟨ret_i64 HA.out.symm, rfl⟩
  · have HA := Lib.hid (at_out hi)
    clear hp
    go_enter Tryd.func60, Tryd.ntmps60
    go_wp2
    go_ret
    exact ⟨ret_i64 HA.out.symm, rfl⟩
/-- The box at block a holds the function value that tells the coefficients of zs. -/
def Cof (w : World) (a : Nat) (zs : List Int) : Prop := ∃ (c B : Nat) (v : Value), w.cell? ⟨a, 0, none⟩ = some (.func (.func 60) #[] #[.pointer (some ⟨c, 0, none⟩)]) ∧ w.cell? ⟨c, 0, none⟩ = some v ∧ IS w B v zs
theorem Cof.below {w w' : World} {a : Nat} {zs : List Int} (h : Cof w a zs) (hb : Below w.heap.size w w') : Cof w' a zs := by
  obtain ⟨c, B, v, h1, h2, h3⟩ := h
  exact ⟨c, B, v, box_old h1 hb, box_old h2 hb, h3.below hb⟩
theorem coef_any (w : World) (B : Nat) (v : Value) (zs : List Int) (h : IS w B v zs) : Calls Tryd.prog 39 #[v] w fun e w' => ∃ c, e = .returned (.func (.func 60) #[] #[.pointer (some ⟨c, 0, none⟩)]) ∧ w'.cell? ⟨c, 0, none⟩ = some v ∧ Below w.heap.size w w' := by
  have hmf : ∀ (fn : Fn) (first cap : Array Value) (w : World), (Instr.makeFunc fn first cap).run Tryd.prog w = .ok (.func fn first cap) w := fun _ _ _ _ => rfl
  have HB := Lib.hid (box_new w v 22)
  obtain ⟨A, cap, rfl, -, -⟩ := h.parts
  clear h
  go_enter Tryd.func39, Tryd.ntmps39
  go_wp2
  go_ret
  exact ⟨_, rfl, HB.out, (Below.refl _ _).alloc (Nat.le_refl _) _⟩
end Go.Proofs.YtbhmlfidideemaaDoor

/-
  Powers, sums, moved and mirrored polynomials and their end terms, of the program and of the model: what each call returns.
  Condition: the slices read as the lists that are named.
-/
import Derived.Test.YtbhmlfidideemaaPolyD
namespace Go.Proofs.Ytbhmlfidideemaa
set_option linter.unusedSimpArgs false
set_option linter.unusedVariables false
open Go.ChangeShapes Go.WideShapes Go.ChangeAt Go.RowKit

/-- Can a polynomial be raised to a power; and the power. -/
def pwOk (p : List Int) (k : Int) : Bool := poB p && (inB k 0 12 && pwB p k.toNat)
def pwR (p : List Int) (k : Int) : List Int := if pwOk p k = true then pwL p k.toNat else []
theorem pwR_no {p : List Int} {k : Int} (h : pwOk p k = false) : pwR p k = [] := if_neg (by simp [h])
theorem pwR_yes {p : List Int} {k : Int} (h : pwOk p k = true) : pwR p k = pwL p k.toNat := if_pos h
theorem pwR_le (p : List Int) (k : Int) : (pwR p k).length ≤ 13 := by
  unfold pwR; split
  · rename_i h
    simp only [pwOk, Bool.and_eq_true] at h
    exact (po_parts (pw_po h.2.2)).2.2.1
  · simp
theorem pw_next {p : List Int} {j : Nat} (hj : pwB p j = true) (h : poB (prL (pwL p j) p) = true) : pwB p (j + 1) = true := by
  simp only [pwB, Bool.and_eq_true]; exact ⟨hj, h⟩
/-- The sum of two polynomials. -/
def smB (p q : List Int) : Bool := poB p && poB q
def smR (p q : List Int) : List Int := if smB p q = true then sumL p q else []
theorem smR_no {p q : List Int} (h : smB p q = false) : smR p q = [] := if_neg (by simp [h])
theorem smR_yes {p q : List Int} (h : smB p q = true) : smR p q = sumL p q := if_pos h
theorem smR_le (p q : List Int) : (smR p q).length ≤ 13 := by
  unfold smR; split
  · rename_i h
    simp only [smB, Bool.and_eq_true] at h
    exact (po_parts (sum_po h.1 h.2)).2.2.1
  · simp
theorem l1Most_any (a b : Nat) (w : World) : Calls Try.prog 24 #[.int .i64 (a : Int), .int .i64 (b : Int)] w fun e w' => e = .returned (.int .i64 (most a b : Nat)) ∧ w = w' := by
  by_cases h : b < a
  · have HM := Lib.hid (show most a b = a by unfold most; split <;> omega)
    go_enter Try.func24, Try.ntmps24
    go_wp2
    go_ret
    exact ⟨ret_i64 (by rw [HM.out]), rfl⟩
  · have HM := Lib.hid (show most a b = b by unfold most; split <;> omega)
    go_enter Try.func24, Try.ntmps24
    go_wp2
    go_ret
    exact ⟨ret_i64 (by rw [HM.out]), rfl⟩
set_option maxHeartbeats 800000 in
set_option maxRecDepth 100000 in
theorem specPolySum_any (w : World) (B B' : Nat) (v v' : Value) (p q : List Int) (h : IS w B v p) (h' : IS w B' v' q) : Calls Try.prog 12 #[v, v'] w fun e w' => GivesIB (smB p q) (smR p q) w e w' := by
  cases hp : poB p
  · have HD := Lib.hid (show smB p q = false by simp [smB, hp])
    go_enter Try.func12, Try.ntmps12
    go_wp2_with (first | (go_at_call 22; refine (poGood_any _ B _ p h).mono ?_; rintro e w' ⟨rfl, rfl⟩))
    go_ret2
    exact givesIB_nil HD.out (smR_no HD.out) (Below.refl _ _)
  · cases hq : poB q
    · have HD := Lib.hid (show smB p q = false by simp [smB, hq])
      go_enter Try.func12, Try.ntmps12
      go_wp2_with fail
      refine (poGood_any _ B _ p h).mono ?_
      rintro e w' ⟨rfl, rfl⟩
      go_wp2_with fail
      refine (poGood_any _ B' _ q h').mono ?_
      rintro e w' ⟨rfl, rfl⟩
      go_wp2
      go_ret2
      exact givesIB_nil HD.out (smR_no HD.out) (Below.refl _ _)
    · have HD := Lib.hid (show smB p q = true by simp [smB, hp, hq])
      obtain ⟨-, p2, p3, -⟩ := po_parts hp
      obtain ⟨-, q2, q3, -⟩ := po_parts hq
      have hm13 : most p.length q.length ≤ 13 := by unfold most; split <;> omega
      have H := Lib.hid h
      have H' := Lib.hid h'
      obtain ⟨A, cap, rfl, -, -⟩ := h.parts
      obtain ⟨A', cap', rfl, -, -⟩ := h'.parts
      obtain ⟨i0, hi, hz0, hz1, hz2⟩ := info_parts infoInt
      clear h h'
      go_enter Try.func12, Try.ntmps12
      go_wp2_with fail
      refine (poGood_any _ B _ p H.out).mono ?_
      rintro e w' ⟨rfl, rfl⟩
      go_wp2_with fail
      refine (poGood_any _ B' _ q H'.out).mono ?_
      rintro e w' ⟨rfl, rfl⟩
      go_wp2_with fail
      clear hp hq
      go_loopw [6, 7] (fun o i wr => ∃ k : Nat, k ≤ most p.length q.length ∧ i = .int .i64 k ∧ IS wr w.heap.size o (tab (sumF p q) k) ∧ Below w.heap.size w wr) (fun _ i _ => most p.length q.length - (intOf i).toNat)
      case atStart => exact ⟨0, by omega, rfl, IS.nil_ _ _, Below.refl _ _⟩
      case round =>
        obtain ⟨k, hk, rfl, ho, hb⟩ := hrel
        have hpk := H.out.below hb
        have hqk := H'.out.below hb
        by_cases hlt : k < most p.length q.length
        · have HTN := Lib.hid (tab_next (sumF p q) k)
          have HLn := Lib.hid (tab_len (sumF p q) k)
          have ho' : wr.ownsRow w.heap.size 3 1 u6 k (ints (tab (sumF p q) k)) := by have := ho; unfold IS at this; rwa [HLn.out] at this
          go_wp2_with fail
          refine (l1Most_any _ _ _).mono ?_
          rintro e w' ⟨rfl, rfl⟩
          go_wp2_with fail
          refine (poAt_any _ B _ p k _ rfl hpk).mono ?_
          rintro e w' ⟨rfl, rfl⟩
          go_wp2_with fail
          refine (poAt_any _ B' _ q k _ rfl hqk).mono ?_
          rintro e w' ⟨rfl, rfl⟩
          go_wp2_with fail
          refine (l1Least_any _ _ _).mono ?_
          rintro e w' ⟨rfl, rfl⟩
          rw [show lessI (atI p k) (atI q k) = sumF p q k from rfl]
          go_wp2_with (at_builtin; refine wpList_append_own _ rfl _ _ 22 rfl w.heap.size 3 i0 (.int .i64 0) 1 8 Try.underlying22 hi hz0 hz1 hz2 rfl (by decide) _ _ _ rfl (ho'.alloc _) ⟨wr.heap.size, 0, none⟩ 1 1 [.int .i64 (sumF p q k)] rfl rfl (one_new _ _) (by simp [Value.oneCell']) (by unfold maxLen; omega) (by omega) (by have := hb.size; simp; omega) ?_; intro v' w1 hown' hgrow hnil)
          have hb' : Below w.heap.size w w1 := (hb.alloc hb.size _).grown hgrow (by have := hb.size; simp; omega) (fun g' hg' => (World.ownsRow.lt ho' g' hg').1)
          have hrow := IS.snoc HLn.out.symm hown'
          rw [← HTN.out] at hrow
          go_wp2
          go_roundw
          case rel => exact ⟨k + 1, by omega, by go_num, hrow, hb'⟩
          case measure => simp [intOf]; omega
        · obtain rfl : k = most p.length q.length := by omega
          go_wp2_with fail
          refine (l1Most_any _ _ _).mono ?_
          rintro e w' ⟨rfl, rfl⟩
          go_wp2
          go_ret2
          exact givesIB_yes HD.out (by rw [smR_yes HD.out]; exact ho) hb
theorem ent_sm1 : Ent 29 := enters_of Try.func29 (by kernel_rfl) rfl
set_option maxHeartbeats 1000000 in
set_option maxRecDepth 100000 in
theorem sm1_any (W : World) (p q : List Int) (a b i : Nat) (ha : Cof W a p) (hb : Cof W b q) :
    Calls Try.prog 29 #[.int .i64 (i : Int), .pointer (some ⟨a, 0, none⟩), .pointer (some ⟨b, 0, none⟩)] W fun e w' => e = .returned (.int .i64 (sumF p q i)) ∧ Below W.heap.size W w' := by
  obtain ⟨x, B, v, ha1, ha2, ha3⟩ := ha
  obtain ⟨y, B', v', hb1, hb2, hb3⟩ := hb
  have ec := ent_coef
  have HP := Lib.hid (show ∀ k, Calls Try.prog 39 #[.int .i64 (i : Int), .pointer (some ⟨x, 0, none⟩)] (W.drewN k) fun e w' => e = .returned (.int .i64 (atI p i)) ∧ w' = W.drewN k from
    fun k => (coef1_any (W.drewN k) B v p x i _ rfl ha3 ha2).mono fun _ _ ⟨he, hw⟩ => ⟨he, hw.symm⟩)
  have HQ := Lib.hid (show ∀ k, Calls Try.prog 39 #[.int .i64 (i : Int), .pointer (some ⟨y, 0, none⟩)] (W.drewN k) fun e w' => e = .returned (.int .i64 (atI q i)) ∧ w' = W.drewN k from
    fun k => (coef1_any (W.drewN k) B' v' q y i _ rfl hb3 hb2).mono fun _ _ ⟨he, hw⟩ => ⟨he, hw.symm⟩)
  clear ha2 ha3 hb2 hb3
  go_enter Try.func29, Try.ntmps29
  go_wp2
  go_quiet (first | (with_reducible exact Calls.quiet_of_same (HP.out _)) | (with_reducible exact Calls.quiet_of_same (HQ.out _)))
  all_goals
    go_wp2
  all_goals
    go_ret
    exact ⟨ret_i64 (by unfold sumF lessI; split <;> omega), belN (Below.refl _ _) _⟩
theorem smR_ok {p q : List Int} (h : smB p q = true) : poB (tab (sumF p q) (most p.length q.length)) = true ∧ okL (tab (sumF p q) (most p.length q.length)) = smR p q := by
  have h' := h
  simp only [smB, Bool.and_eq_true] at h'
  have hs := sum_po h'.1 h'.2
  exact ⟨hs, by rw [smR_yes h]; exact okL_yes hs⟩
set_option maxHeartbeats 1000000 in
theorem implPolySum_any (w : World) (B B' : Nat) (v v' : Value) (p q : List Int) (h : IS w B v p) (h' : IS w B' v' q) : Calls Try.prog 13 #[v, v'] w fun e w' => GivesIB (smB p q) (smR p q) w e w' := by
  cases hp : poB p
  · have HD := Lib.hid (show smB p q = false by simp [smB, hp])
    go_enter Try.func13, Try.ntmps13
    go_wp2_with (first | (go_at_call 10; refine (isPoly_any _ B _ p h).mono ?_; rintro e w' ⟨rfl, rfl⟩))
    go_ret2
    exact givesIB_nil HD.out (smR_no HD.out) (Below.refl _ _)
  · cases hq : poB q
    · have HD := Lib.hid (show smB p q = false by simp [smB, hq])
      go_enter Try.func13, Try.ntmps13
      go_wp2_with fail
      refine (isPoly_any _ B _ p h).mono ?_
      rintro e w' ⟨rfl, rfl⟩
      go_wp2_with fail
      refine (isPoly_any _ B' _ q h').mono ?_
      rintro e w' ⟨rfl, rfl⟩
      go_wp2
      go_ret2
      exact givesIB_nil HD.out (smR_no HD.out) (Below.refl _ _)
    · have hmf : ∀ (fn : Fn) (first cap : Array Value) (w : World), (Instr.makeFunc fn first cap).run Try.prog w = .ok (.func fn first cap) w := fun _ _ _ _ => rfl
      obtain ⟨-, p2, p3, -⟩ := po_parts hp
      obtain ⟨-, q2, q3, -⟩ := po_parts hq
      have HP := Lib.hid hp
      have HQ := Lib.hid hq
      have HD := Lib.hid (show smB p q = true by simp [smB, hp, hq])
      have HR := Lib.hid (smR_ok HD.out)
      have H := Lib.hid h
      have H' := Lib.hid h'
      obtain ⟨A, cap, rfl, -, -⟩ := h.parts
      obtain ⟨A', cap', rfl, -, -⟩ := h'.parts
      have hm13 : most p.length q.length ≤ 13 := by unfold most; split <;> omega
      clear h h' hp hq
      go_enter Try.func13, Try.ntmps13
      go_wp2_with fail
      refine (isPoly_any _ B _ p H.out).mono ?_
      rintro e w' ⟨rfl, he⟩
      rw [HP.out, ← he]
      clear he
      go_wp2_with fail
      refine (isPoly_any _ B' _ q H'.out).mono ?_
      rintro e w' ⟨rfl, he⟩
      rw [HQ.out, ← he]
      clear he
      go_wp2_with fail
      refine (coef_any _ B _ p H.out).mono ?_
      rintro e w1 ⟨c1, rfl, k1, b1⟩
      have K1 := Lib.hid k1
      go_wp2_with fail
      refine (coef_any _ B' _ q (H'.out.below b1)).mono ?_
      rintro e w2 ⟨c2, rfl, k2, b2⟩
      have K2 := Lib.hid k2
      have B2 := bel2 b1 b2
      clear k1 k2
      have b3 : Below w2.heap.size w2 (w2.alloc (.cells #[.func (.func 39) #[] #[.pointer (some ⟨c1, 0, none⟩)]] 35)) := (Below.refl _ _).alloc (Nat.le_refl _) _
      have b4 : Below (w2.alloc (.cells #[.func (.func 39) #[] #[.pointer (some ⟨c1, 0, none⟩)]] 35)).heap.size (w2.alloc (.cells #[.func (.func 39) #[] #[.pointer (some ⟨c1, 0, none⟩)]] 35)) ((w2.alloc (.cells #[.func (.func 39) #[] #[.pointer (some ⟨c1, 0, none⟩)]] 35)).alloc (.cells #[.func (.func 39) #[] #[.pointer (some ⟨c2, 0, none⟩)]] 35)) := (Below.refl _ _).alloc (Nat.le_refl _) _
      have hs : (w2.alloc (.cells #[.func (.func 39) #[] #[.pointer (some ⟨c1, 0, none⟩)]] 35)).heap.size = w2.heap.size + 1 := by simp
      have n2 := box_new (w2.alloc (.cells #[.func (.func 39) #[] #[.pointer (some ⟨c1, 0, none⟩)]] 35)) (.func (.func 39) #[] #[.pointer (some ⟨c2, 0, none⟩)]) 35
      rw [hs] at n2
      have B4 := bel2 b3 b4
      have C1 : Cof _ w2.heap.size p := ⟨c1, B, _, box_old (box_new w2 _ _) b4, box_old (box_old K1.out b2) B4, ((H.out.below b1).below b2).below B4⟩
      have C2 : Cof _ (w2.heap.size + 1) q := ⟨c2, B', _, n2, box_old K2.out B4, ((H'.out.below b1).below b2).below B4⟩
      have HC := Lib.hid (And.intro C1 C2)
      have B5 := bel2 B2 B4
      clear C1 C2 n2 hs b3 b4
      by_cases hlt : p.length < q.length
      · have hmq : most p.length q.length = q.length := if_pos hlt
        have HMQ := Lib.hid hmq
        clear hmq
        go_wp2_with fail
        refine (polyOrNone_at _ _ _ ent_sm1 (most p.length q.length) _ (by rw [HMQ.out]) (by omega) (sumF p q) ?_).mono ?_
        · intro W i hi hb
          exact sm1_any W p q _ _ i (HC.out.1.below hb) (HC.out.2.below hb)
        · rintro e w3 ⟨r, rfl, hr, b6⟩
          rw [HR.out.1]
          rw [HR.out.2] at hr
          go_wp2
          go_ret2
          exact givesIB_yes HD.out (hr.base B5.size) (bel2 B5 b6)
      · have hmq : most p.length q.length = p.length := if_neg hlt
        have HMQ := Lib.hid hmq
        clear hmq
        go_wp2_with fail
        refine (polyOrNone_at _ _ _ ent_sm1 (most p.length q.length) _ (by rw [HMQ.out]) (by omega) (sumF p q) ?_).mono ?_
        · intro W i hi hb
          exact sm1_any W p q _ _ i (HC.out.1.below hb) (HC.out.2.below hb)
        · rintro e w3 ⟨r, rfl, hr, b6⟩
          rw [HR.out.1]
          rw [HR.out.2] at hr
          go_wp2
          go_ret2
          exact givesIB_yes HD.out (hr.base B5.size) (bel2 B5 b6)
/-- The moved polynomial. -/
def mvB (zs : List Int) (x : Int) : Bool := poB zs && (finB x && (tms zs x).all numB)
def mvR (zs : List Int) (x : Int) : List Int := if mvB zs x = true then tms zs x else []
theorem mvR_no {zs : List Int} {x : Int} (h : mvB zs x = false) : mvR zs x = [] := if_neg (by simp [h])
theorem mvR_yes {zs : List Int} {x : Int} (h : mvB zs x = true) : mvR zs x = tms zs x := if_pos h
theorem mvR_le (zs : List Int) (x : Int) : (mvR zs x).length ≤ 13 := by
  unfold mvR; split
  · rename_i h
    simp only [mvB, Bool.and_eq_true] at h
    rw [tms_len]
    exact (po_parts h.1).2.2.1
  · simp
set_option maxHeartbeats 400000 in
theorem specMovePoly_any (w : World) (B : Nat) (v : Value) (zs : List Int) (x : Int) (h : IS w B v zs) : Calls Try.prog 16 #[v, .int .i64 x] w fun e w' => GivesIB (mvB zs x) (mvR zs x) w e w' := by
  cases hp : poB zs
  · have HD := Lib.hid (show mvB zs x = false by simp [mvB, hp])
    go_enter Try.func16, Try.ntmps16
    go_wp2_with (first | (go_at_call 22; refine (poGood_any _ B _ zs h).mono ?_; rintro e w' ⟨rfl, rfl⟩))
    go_ret2
    exact givesIB_nil HD.out (mvR_no HD.out) (Below.refl _ _)
  · cases hf : finB x
    · have HD := Lib.hid (show mvB zs x = false by simp [mvB, hf])
      go_enter Try.func16, Try.ntmps16
      go_wp2_with (first | (go_at_call 22; refine (poGood_any _ B _ zs h).mono ?_; rintro e w' ⟨rfl, rfl⟩) | (go_at_call 30; refine (poFinite_any _ _).mono ?_; rintro e w' ⟨rfl, rfl⟩))
      go_ret2
      exact givesIB_nil HD.out (mvR_no HD.out) (Below.refl _ _)
    · have HD := Lib.hid (show mvB zs x = (tms zs x).all numB by simp [mvB, hp, hf])
      have hx := (finB_iff x).1 hf
      have hl := (po_parts hp).2.2.1
      have HZ := Lib.hid hp
      go_enter Try.func16, Try.ntmps16
      go_wp2_with (first | (go_at_call 22; refine (poGood_any _ B _ zs h).mono ?_; rintro e w' ⟨rfl, rfl⟩) | (go_at_call 30; refine (poFinite_any _ _).mono ?_; rintro e w' ⟨rfl, rfl⟩) | (go_at_call 31; refine (poTerms_any _ B _ zs x h HZ.out hx.1 hx.2).mono ?_; rintro e w1 ⟨r, rfl, hr, hb⟩; obtain ⟨ts, hts⟩ : ∃ ts, tms zs x = ts := ⟨_, rfl⟩; rw [hts] at hr; have HTS := Lib.hid hts; clear hts; have HRR := Lib.hid hr; obtain ⟨A, cap, rfl, hm, hps⟩ := hr.parts; have HP := Lib.hid hps; clear hps hr))
      unfold maxLen at hm
      clear hp hf
      go_loop [22] (fun i => ∃ k : Nat, k ≤ ts.length ∧ i = .int .i64 k ∧ Hid ((ts.take k).all numB = true)) (fun i => ts.length - (intOf i).toNat)
      case atStart => exact ⟨0, by omega, rfl, Lib.hid rfl⟩
      case round =>
        obtain ⟨k, hk, rfl, hall⟩ := hrel
        by_cases hlt : k < ts.length
        · obtain ⟨g, rfl, hc⟩ := HP.out k hlt
          cases hn : numB (gd ts k)
          · have HNO := Lib.hid (show mvB zs x = false by rw [HD.out, HTS.out]; exact all_bad ts k hlt hn)
            go_wp2_with (go_at_call 32; refine (nuGood_any _ _).mono ?_; rintro e w' ⟨rfl, rfl⟩)
            go_ret2
            exact givesIB_nil HNO.out (mvR_no HNO.out) hb
          · go_wp2_with (go_at_call 32; refine (nuGood_any _ _).mono ?_; rintro e w' ⟨rfl, rfl⟩)
            go_round
            case rel => exact ⟨k + 1, by omega, by go_num, Lib.hid (all_next ts k hlt hall.out hn)⟩
            case measure => simp [intOf]; omega
        · have HYES := Lib.hid (show mvB zs x = true by rw [HD.out, HTS.out]; exact all_end ts k hlt hall.out)
          go_wp2
          go_ret2
          exact givesIB_yes HYES.out (by rw [mvR_yes HYES.out, HTS.out]; exact HRR.out) hb
set_option maxHeartbeats 400000 in
theorem implMovePoly_any (w : World) (B : Nat) (v : Value) (zs : List Int) (x : Int) (h : IS w B v zs) : Calls Try.prog 17 #[v, .int .i64 x] w fun e w' => GivesIB (mvB zs x) (mvR zs x) w e w' := by
  have h0 := Lib.hid h
  obtain ⟨A, cap, rfl, -, -⟩ := h.parts
  clear h
  cases hp : poB zs
  · have HD := Lib.hid (show mvB zs x = false by simp [mvB, hp])
    go_enter Try.func17, Try.ntmps17
    go_wp2_with (first | (go_at_call 10; refine (isPoly_any _ B _ zs h0.out).mono ?_; rintro e w' ⟨rfl, rfl⟩))
    go_ret2
    exact givesIB_nil HD.out (mvR_no HD.out) (Below.refl _ _)
  · cases hf : finB x
    · have HD := Lib.hid (show mvB zs x = false by simp [mvB, hf])
      go_enter Try.func17, Try.ntmps17
      go_wp2_with (first | (go_at_call 10; refine (isPoly_any _ B _ zs h0.out).mono ?_; rintro e w' ⟨rfl, rfl⟩) | (go_at_call 33; refine (isFin_any _ _).mono ?_; rintro e w' ⟨rfl, rfl⟩))
      go_ret2
      exact givesIB_nil HD.out (mvR_no HD.out) (Below.refl _ _)
    · have hx := (finB_iff x).1 hf
      have hl := (po_parts hp).2.2.1
      have HD := Lib.hid (show poB (tms zs x) = mvB zs x by rw [mv_po hp hx]; simp [mvB, hp, hf])
      have HR := Lib.hid (show okL (tms zs x) = mvR zs x by unfold okL mvR; rw [HD.out])
      have HZ := Lib.hid hp
      go_enter Try.func17, Try.ntmps17
      go_wp2_with (first | (go_at_call 10; refine (isPoly_any _ B _ zs h0.out).mono ?_; rintro e w' ⟨rfl, rfl⟩) | (go_at_call 33; refine (isFin_any _ _).mono ?_; rintro e w' ⟨rfl, rfl⟩) | (go_at_call 34; refine (termAt_any _ B _ zs x h0.out HZ.out hx).mono ?_; rintro e w1 ⟨lb, rfl, hpf, b1⟩) | (go_at_call 28; refine (polyOrNone_any _ _ lb ent_term zs.length (by omega) _ hpf).mono ?_; rintro e w2 ⟨r, rfl, hr, b2⟩))
      go_ret2
      exact ⟨r, by rw [← HD.out]; rfl, by rw [← HR.out]; exact hr.base b1.size, bel2 b1 b2⟩
/-- What EndTerms gives. -/
def loV (zs : List Int) : Int := if poB zs = true then (lowN zs : Int) else 0
def hiV (zs : List Int) : Int := if poB zs = true then (zs.length : Int) - 1 else 0
def GivesE (zs : List Int) (w : World) (e : Ending) (w' : World) : Prop := e = .returned (.tuple #[.int .i64 (loV zs), .int .i64 (hiV zs), .bool (poB zs)]) ∧ w = w'
theorem givesE_no {zs : List Int} {w : World} (h : poB zs = false) : GivesE zs w (.returned (.tuple #[.int .i64 0, .int .i64 0, .bool false])) w :=
  ⟨ret_iib (by simp [loV, h]) (by simp [hiV, h]) h.symm, rfl⟩
theorem givesE_yes {zs : List Int} {w : World} (h : poB zs = true) : GivesE zs w (.returned (.tuple #[.int .i64 (lowN zs : Int), .int .i64 ((zs.length : Int) - 1), .bool true])) w :=
  ⟨ret_iib (by simp [loV, h]) (by simp [hiV, h]) h.symm, rfl⟩
theorem ret_ii {a b c d : Int} (h : a = b) (h' : c = d) : Ending.returned (.tuple #[.int .i64 a, .int .i64 c]) = .returned (.tuple #[.int .i64 b, .int .i64 d]) := by rw [h, h']
set_option maxHeartbeats 400000 in
theorem poEnds_any (w : World) (B : Nat) (v : Value) (zs : List Int) (h : IS w B v zs) (hz : poB zs = true) : Calls Try.prog 35 #[v] w fun e w' => e = .returned (.tuple #[.int .i64 (lowN zs : Int), .int .i64 ((zs.length : Int) - 1)]) ∧ w = w' := by
  obtain ⟨A, cap, rfl, -, hp⟩ := h.parts
  have hl := (po_parts hz).2.2.1
  obtain ⟨l1, l2, l3⟩ := low_lt hz
  have HP := Lib.hid hp
  have HL2 := Lib.hid l2
  have HL3 := Lib.hid l3
  clear hp hz h l2 l3
  go_enter Try.func35, Try.ntmps35
  go_wp2
  go_loop [4] (fun i => ∃ k : Nat, k ≤ lowN zs ∧ i = .int .i64 k) (fun i => lowN zs - (intOf i).toNat)
  case atStart => exact ⟨0, by omega, rfl⟩
  case round =>
    obtain ⟨k, hk, rfl⟩ := hrel
    obtain ⟨g, rfl, hc⟩ := HP.out k (by omega)
    by_cases hlt : k < lowN zs
    · have hi := HL3.out k hlt
      rw [hi] at hc
      clear hi
      go_wp2
      go_round
      case rel => exact ⟨k + 1, by omega, by go_num⟩
      case measure => simp [intOf]; omega
    · obtain rfl : k = lowN zs := by omega
      have hne : (gd zs (lowN zs) == 1000000000) = false := by simpa using HL2.out
      go_wp2
      go_ret2
      exact ⟨rfl, rfl⟩
theorem specEndTerms_any (w : World) (B : Nat) (v : Value) (zs : List Int) (h : IS w B v zs) : Calls Try.prog 20 #[v] w fun e w' => GivesE zs w e w' := by
  cases hp : poB zs
  · go_enter Try.func20, Try.ntmps20
    go_wp2_with (first | (go_at_call 22; refine (poGood_any _ B _ zs h).mono ?_; rintro e w' ⟨rfl, rfl⟩))
    go_ret3
    exact givesE_no hp
  · have HZ := Lib.hid hp
    go_enter Try.func20, Try.ntmps20
    go_wp2_with (first | (go_at_call 22; refine (poGood_any _ B _ zs h).mono ?_; rintro e w' ⟨rfl, rfl⟩) | (go_at_call 35; refine (poEnds_any _ B _ zs h HZ.out).mono ?_; rintro e w' ⟨rfl, rfl⟩))
    go_ret3
    exact givesE_yes HZ.out
set_option maxHeartbeats 400000 in
theorem implEndTerms_any (w : World) (B : Nat) (v : Value) (zs : List Int) (h : IS w B v zs) : Calls Try.prog 21 #[v] w fun e w' => GivesE zs w e w' := by
  have h0 := Lib.hid h
  obtain ⟨A, cap, rfl, -, hp⟩ := h.parts
  cases hz : poB zs
  · clear hp h
    go_enter Try.func21, Try.ntmps21
    go_wp2_with (first | (go_at_call 10; refine (isPoly_any _ B _ zs h0.out).mono ?_; rintro e w' ⟨rfl, rfl⟩))
    go_ret3
    exact givesE_no hz
  · have hl := (po_parts hz).2.2.1
    obtain ⟨l1, l2, l3⟩ := low_lt hz
    have HP := Lib.hid hp
    have HL2 := Lib.hid l2
    have HL3 := Lib.hid l3
    have HZ := Lib.hid hz
    clear hp h l2 l3
    go_enter Try.func21, Try.ntmps21
    go_wp2_with (first | (go_at_call 10; refine (isPoly_any _ B _ zs h0.out).mono ?_; rintro e w' ⟨rfl, rfl⟩))
    clear hz
    go_loop [5] (fun i => ∃ k : Nat, k ≤ lowN zs ∧ i = .int .i64 k) (fun i => lowN zs - (intOf i).toNat)
    case atStart => exact ⟨0, by omega, rfl⟩
    case round =>
      obtain ⟨k, hk, rfl⟩ := hrel
      obtain ⟨g, rfl, hc⟩ := HP.out k (by omega)
      by_cases hlt : k < lowN zs
      · have hi := HL3.out k hlt
        rw [hi] at hc
        clear hi
        go_wp2
        go_round
        case rel => exact ⟨k + 1, by omega, by go_num⟩
        case measure => simp [intOf]; omega
      · obtain rfl : k = lowN zs := by omega
        have hne : (gd zs (lowN zs) == 1000000000) = false := by simpa using HL2.out
        go_wp2
        go_ret3
        exact givesE_yes HZ.out
def mrR (zs : List Int) : List Int := if poB zs = true then mrL zs else []
theorem mrR_no {zs : List Int} (h : poB zs = false) : mrR zs = [] := if_neg (by simp [h])
theorem mrR_yes {zs : List Int} (h : poB zs = true) : mrR zs = mrL zs := if_pos h
theorem mrR_le (zs : List Int) : (mrR zs).length ≤ 13 := by
  unfold mrR; split
  · rename_i h
    exact (po_parts (mr_po h)).2.2.1
  · simp
set_option maxHeartbeats 800000 in
set_option maxRecDepth 100000 in
theorem specMirrorPoly_any (w : World) (B : Nat) (v : Value) (zs : List Int) (h : IS w B v zs) : Calls Try.prog 18 #[v] w fun e w' => GivesIB (poB zs) (mrR zs) w e w' := by
  have h0 := Lib.hid h
  obtain ⟨A, cap, rfl, -, hp⟩ := h.parts
  cases hz : poB zs
  · clear hp h
    have HZ := Lib.hid hz
    go_enter Try.func18, Try.ntmps18
    go_wp2_with (first | (go_at_call 22; refine (poGood_any _ B _ zs h0.out).mono ?_; rintro e w' ⟨rfl, rfl⟩))
    go_ret2
    exact givesIB_nil rfl (mrR_no HZ.out) (Below.refl _ _)
  · have hl := (po_parts hz).2.2.1
    obtain ⟨l1, l2, l3⟩ := low_lt hz
    have HP := Lib.hid hp
    have HZ := Lib.hid hz
    obtain ⟨i0, hi, hz0, hz1, hz2⟩ := info_parts infoInt
    clear hp h l2 l3
    go_enter Try.func18, Try.ntmps18
    go_wp2_with (first | (go_at_call 22; refine (poGood_any _ B _ zs h0.out).mono ?_; rintro e w' ⟨rfl, rfl⟩) | (go_at_call 35; refine (poEnds_any _ B _ zs h0.out HZ.out).mono ?_; rintro e w' ⟨rfl, rfl⟩))
    clear hz
    go_loopw [6, 7] (fun o i wr => ∃ j : Nat, j ≤ zs.length - lowN zs ∧ i = .int .i64 ((zs.length : Int) - 1 - j) ∧ IS wr w.heap.size o (tab (mrF zs) j) ∧ Below w.heap.size w wr) (fun _ i _ => (intOf i + 1).toNat)
    case atStart => exact ⟨0, by omega, by go_num, IS.nil_ _ _, Below.refl _ _⟩
    case round =>
      obtain ⟨k, hk, rfl, ho, hb⟩ := hrel
      by_cases hlt : k < zs.length - lowN zs
      · obtain ⟨g, rfl, hc0⟩ := HP.out (zs.length - 1 - k) (by omega)
        have hc := (hb.cell (p := ⟨g, zs.length - 1 - k, none⟩) (cell_lt hc0)).trans hc0
        rw [show gd zs (zs.length - 1 - k) = mrF zs k from rfl] at hc
        clear hc0
        have hidx : ((zs.length : Int) - 1 - k).toNat = zs.length - 1 - k := by omega
        have HTN := Lib.hid (tab_next (mrF zs) k)
        have HLn := Lib.hid (tab_len (mrF zs) k)
        have ho' : wr.ownsRow w.heap.size 3 1 u6 k (ints (tab (mrF zs) k)) := by have := ho; unfold IS at this; rwa [HLn.out] at this
        go_wp2_with (at_builtin; refine wpList_append_own _ rfl _ _ 22 rfl w.heap.size 3 i0 (.int .i64 0) 1 8 Try.underlying22 hi hz0 hz1 hz2 rfl (by decide) _ _ _ rfl (ho'.alloc _) ⟨wr.heap.size, 0, none⟩ 1 1 [.int .i64 (mrF zs k)] rfl rfl (one_new _ _) (by simp [Value.oneCell']) (by unfold maxLen; omega) (by omega) (by have := hb.size; simp; omega) ?_; intro v' w1 hown' hgrow hnil)
        have hb' : Below w.heap.size w w1 := (hb.alloc hb.size _).grown hgrow (by have := hb.size; simp; omega) (fun g' hg' => (World.ownsRow.lt ho' g' hg').1)
        have hrow := IS.snoc HLn.out.symm hown'
        rw [← HTN.out] at hrow
        go_wp2
        go_roundw
        case rel => exact ⟨k + 1, by omega, by go_num, hrow, hb'⟩
        case measure => simp [intOf]; omega
      · have hk' : k = zs.length - lowN zs := by omega
        go_wp2
        go_ret2
        exact givesIB_yes rfl (by rw [mrR_yes HZ.out]; unfold mrL; rw [← hk']; exact ho) hb
theorem ent_mr1 : Ent 36 := enters_of Try.func36 (by kernel_rfl) rfl
set_option maxHeartbeats 400000 in
theorem mr1_any (W : World) (B : Nat) (v : Value) (zs : List Int) (a b i : Nat) (h : IS W B v zs) (ha : W.cell? ⟨a, 0, none⟩ = some v) (hb : W.cell? ⟨b, 0, none⟩ = some (.int .i64 ((zs.length : Int) - 1))) (hl : zs.length ≤ 13) (hi : i < zs.length) :
    Calls Try.prog 36 #[.int .i64 (i : Int), .pointer (some ⟨a, 0, none⟩), .pointer (some ⟨b, 0, none⟩)] W fun e w' => e = .returned (.int .i64 (mrF zs i)) ∧ Below W.heap.size W w' := by
  obtain ⟨A, cap, rfl, -, hp⟩ := h.parts
  obtain ⟨g, rfl, hc⟩ := hp (zs.length - 1 - i) (by omega)
  rw [show gd zs (zs.length - 1 - i) = mrF zs i from rfl] at hc
  have hidx : ((zs.length : Int) - 1 - i).toNat = zs.length - 1 - i := by omega
  clear hp h
  go_enter Try.func36, Try.ntmps36
  go_wp2
  go_ret
  exact ⟨rfl, Below.refl _ _⟩
set_option maxHeartbeats 1000000 in
theorem implMirrorPoly_any (w : World) (B : Nat) (v : Value) (zs : List Int) (h : IS w B v zs) : Calls Try.prog 19 #[v] w fun e w' => GivesIB (poB zs) (mrR zs) w e w' := by
  have b1 : Below w.heap.size w (w.alloc (.cells #[v] 22)) := (Below.refl _ _).alloc (Nat.le_refl _) _
  have hn := box_new w v 22
  have h0 := Lib.hid (h.below b1)
  obtain ⟨A, cap, rfl, -, -⟩ := h.parts
  cases hz : poB zs
  · clear h hn
    have HZ := Lib.hid hz
    go_enter Try.func19, Try.ntmps19
    go_wp2_with fail
    refine (implEndTerms_any _ B _ zs h0.out).mono ?_
    rintro e w' ⟨rfl, rfl⟩
    rw [HZ.out]
    go_wp2
    go_ret2
    exact givesIB_nil rfl (mrR_no HZ.out) (b1.alloc b1.size _)
  · have hmf : ∀ (fn : Fn) (first cap : Array Value) (w : World), (Instr.makeFunc fn first cap).run Try.prog w = .ok (.func fn first cap) w := fun _ _ _ _ => rfl
    have hl := (po_parts hz).2.2.1
    obtain ⟨l1, -, -⟩ := low_lt hz
    have HZ := Lib.hid hz
    have HLO := Lib.hid (show loV zs = (lowN zs : Int) from if_pos hz)
    have HHI := Lib.hid (show hiV zs = (zs.length : Int) - 1 from if_pos hz)
    have HPO := Lib.hid (show poB (tab (mrF zs) (zs.length - lowN zs)) = true from mr_po hz)
    have HOK := Lib.hid (show okL (tab (mrF zs) (zs.length - lowN zs)) = mrR zs by rw [mrR_yes hz]; exact okL_yes (mr_po hz))
    have HN := Lib.hid hn
    clear hz h hn
    go_enter Try.func19, Try.ntmps19
    go_wp2_with fail
    refine (implEndTerms_any _ B _ zs h0.out).mono ?_
    rintro e w' ⟨rfl, rfl⟩
    rw [HZ.out, HLO.out, HHI.out]
    have b2 : Below (w.alloc (.cells #[.slice A zs.length cap] 22)).heap.size (w.alloc (.cells #[.slice A zs.length cap] 22)) ((w.alloc (.cells #[.slice A zs.length cap] 22)).alloc (.cells #[.int .i64 ((zs.length : Int) - 1)] 3)) := (Below.refl _ _).alloc (Nat.le_refl _) _
    have hs : (w.alloc (.cells #[.slice A zs.length cap] 22)).heap.size = w.heap.size + 1 := by simp
    have n2 := box_new (w.alloc (.cells #[.slice A zs.length cap] 22)) (.int .i64 ((zs.length : Int) - 1)) 3
    rw [hs] at n2
    have N2 := Lib.hid n2
    have B2 := bel2 b1 b2
    clear n2 hs
    go_wp2_with fail
    refine (polyOrNone_at _ _ _ ent_mr1 (zs.length - lowN zs) _ (by omega) (by omega) (mrF zs) ?_).mono ?_
    · intro W i hi hb
      exact mr1_any W B _ zs _ _ i ((h0.out.below b2).below hb) (box_old (box_old HN.out b2) hb) (box_old N2.out hb) hl (by omega)
    · rintro e w3 ⟨r, rfl, hr, b6⟩
      rw [HPO.out]
      rw [HOK.out] at hr
      go_wp2
      go_ret2
      exact givesIB_yes rfl (hr.base B2.size) (bel2 B2 b6)
end Go.Proofs.Ytbhmlfidideemaa

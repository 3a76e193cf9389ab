/-
  The functions of chapter 3 that make polynomials of polynomials, of the program and of the model: what each call returns.
  Condition: the slices read as the lists that are named.
-/
import Derived.Test.YtbhmlfidideemaaDoorPolyC
import Derived.IntWalk
import Derived.Laws.EntriesVeiled
namespace Go.Proofs.YtbhmlfidideemaaDoor
set_option linter.unusedSimpArgs false
set_option linter.unusedVariables false
open Go.ChangeShapes Go.WideShapes Go.ChangeAt Go.RowKit

/-- leastAmong, where its count is some integer. -/
theorem leastAmong_at (w : World) (hN : Neut w) (g : Nat) (lb : Array Value) (eg : Ent g) (n : Nat) (m : Int) (hm : m = n) (hn : n ≤ 1000) (f : Nat → Int) (hp : FnAt g lb n f w) : Calls Tryd.prog 34 #[.int .i64 m, .func (.func g) #[] lb] w fun e w' => e = .returned (.int .i64 (leastL (tab f n))) ∧ Below w.heap.size w w' := by
  subst hm; exact leastAmong_any w hN g lb eg n hn f hp
theorem polyOrNone_at (w : World) (g : Nat) (lb : Array Value) (eg : Ent g) (n : Nat) (m : Int) (hm : m = n) (hn : n ≤ 1000) (f : Nat → Int) (hp : FnAt g lb n f w) : Calls Tryd.prog 40 #[.int .i64 m, .func (.func g) #[] lb] w fun e w' => GivesIB (poB (tab f n)) (okL (tab f n)) w e w' := by
  subst hm; exact polyOrNone_any w g lb eg n hn f hp
theorem ent_pr11 : Ent 42 := enters_of Tryd.func42 (by kernel_rfl) rfl
theorem ent_pr1 : Ent 41 := enters_of Tryd.func41 (by kernel_rfl) rfl
set_option maxHeartbeats 1000000 in
set_option maxRecDepth 100000 in
theorem pr11_any (W : World) (p q : List Int) (a b c n i : Nat) (hp : poB p = true) (hq : poB q = true) (ha : Cof W a p) (hb : Cof W b q) (hc : W.cell? ⟨c, 0, none⟩ = some (.int .i64 (n : Int))) (hi : i ≤ n) (hn : n ≤ 1000) :
    Calls Tryd.prog 42 #[.int .i64 (i : Int), .pointer (some ⟨a, 0, none⟩), .pointer (some ⟨b, 0, none⟩), .pointer (some ⟨c, 0, none⟩)] W fun e w' => e = .returned (.int .i64 (prI p q n i)) ∧ Below W.heap.size W w' := by
  have hpb := at_bd hp i
  have hqb := at_bd hq (n - i)
  obtain ⟨x, B, v, ha1, ha2, ha3⟩ := ha
  obtain ⟨y, B', v', hb1, hb2, hb3⟩ := hb
  have ec := ent_coef
  have hw : IntKind.i64.wrap ((n : Int) - i) = (n : Int) - i := IntWalk.i64_in _ (by omega)
  have HP := Lib.hid (show ∀ k, Calls Tryd.prog 60 #[.int .i64 (i : Int), .pointer (some ⟨x, 0, none⟩)] (W.drewN k) fun e w' => e = .returned (.int .i64 (atI p i)) ∧ w' = W.drewN k from
    fun k => (coef1_any (W.drewN k) B v p x i _ rfl ha3 ha2).mono fun _ _ ⟨he, hw⟩ => ⟨he, hw.symm⟩)
  have HQ := Lib.hid (show ∀ k, Calls Tryd.prog 60 #[.int .i64 ((n : Int) - i), .pointer (some ⟨y, 0, none⟩)] (W.drewN k) fun e w' => e = .returned (.int .i64 (atI q (n - i))) ∧ w' = W.drewN k from
    fun k => (coef1_any (W.drewN k) B' v' q y (n - i) _ (by omega) hb3 hb2).mono fun _ _ ⟨he, hw⟩ => ⟨he, hw.symm⟩)
  have HF := Lib.hid (show ∀ k, Calls Tryd.prog 43 #[.int .i64 (atI p i), .int .i64 (atI q (n - i))] (W.drewN k) fun e w' => e = .returned (.int .i64 (plusI (atI p i) (atI q (n - i)))) ∧ w' = W.drewN k from
    fun k => (freeProduct_any _ _ _ (by omega) (by omega)).mono fun _ _ ⟨he, hw⟩ => ⟨he, hw.symm⟩)
  clear hp hq ha2 ha3 hb2 hb3 hpb hqb
  go_enter Tryd.func42, Tryd.ntmps42
  go_wp2
  go_quiet (first | (with_reducible exact Calls.quiet_of_same (HP.out _)) | (with_reducible exact Calls.quiet_of_same (HQ.out _)) | (with_reducible exact Calls.quiet_of_same (HF.out _)))
  go_wp2
  go_ret
  exact ⟨rfl, belN (Below.refl _ _) _⟩
set_option maxHeartbeats 400000 in
theorem pr1_any (W : World) (hN : Neut W) (p q : List Int) (a b n : Nat) (hp : poB p = true) (hq : poB q = true) (ha : Cof W a p) (hb : Cof W b q) (hn : n ≤ 900) :
    Calls Tryd.prog 41 #[.int .i64 (n : Int), .pointer (some ⟨a, 0, none⟩), .pointer (some ⟨b, 0, none⟩)] W fun e w' => e = .returned (.int .i64 (prF p q n)) ∧ Below W.heap.size W w' := by
  have hmf : ∀ (fn : Fn) (first cap : Array Value) (w : World), (Instr.makeFunc fn first cap).run Tryd.prog w = .ok (.func fn first cap) w := fun _ _ _ _ => rfl
  have b1 : Below W.heap.size W (W.alloc (.cells #[.int .i64 (n : Int)] 3)) := (Below.refl _ _).alloc (Nat.le_refl _) _
  have HF := Lib.hid (show FnAt 42 #[.pointer (some ⟨a, 0, none⟩), .pointer (some ⟨b, 0, none⟩), .pointer (some ⟨W.heap.size, 0, none⟩)] (n + 1) (prI p q n) (W.alloc (.cells #[.int .i64 (n : Int)] 3)) from
    fun W' i hi hb' => pr11_any W' p q a b _ n i hp hq ((ha.below b1).below hb') ((hb.below b1).below hb') (box_old (box_new W _ _) hb') (by omega) (by omega))
  have HN := Lib.hid (hN.below b1)
  clear hp hq ha hb hN
  go_enter Tryd.func41, Tryd.ntmps41
  go_wp2_with fail
  refine (leastAmong_at _ HN.out _ _ ent_pr11 (n + 1) _ (by omega) (by omega) _ HF.out).mono ?_
  rintro e w2 ⟨rfl, b2⟩
  go_wp2
  go_ret
  exact ⟨rfl, bel2 b1 b2⟩
theorem prL_len (p q : List Int) : (prL p q).length = p.length + q.length - 1 := tab_len _ _
set_option maxHeartbeats 1000000 in
set_option maxRecDepth 100000 in
theorem poProduct_any (w : World) (B B' : Nat) (v v' : Value) (p q : List Int) (h : IS w B v p) (h' : IS w B' v' q) (hp : poB p = true) (hq : poB q = true) : Calls Tryd.prog 38 #[v, v'] w fun e w' => GivesIB (poB (prL p q)) (okL (prL p q)) w e w' := by
  obtain ⟨-, p2, p3, -⟩ := po_parts hp
  obtain ⟨-, q2, q3, -⟩ := po_parts hq
  have HP := Lib.hid hp
  have HQ := Lib.hid hq
  have H := Lib.hid h
  have H' := Lib.hid h'
  obtain ⟨A, cap, rfl, -, -⟩ := h.parts
  obtain ⟨A', cap', rfl, -, -⟩ := h'.parts
  obtain ⟨i0, hi, hz0, hz1, hz2⟩ := info_parts infoInt
  clear hp hq h h'
  go_enter Tryd.func38, Tryd.ntmps38
  go_wp2
  go_loopw [6, 7] (fun o i wr => ∃ k : Nat, k ≤ p.length + q.length - 1 ∧ i = .int .i64 k ∧ IS wr w.heap.size o (tab (prF p q) k) ∧ Below w.heap.size w wr) (fun _ i _ => p.length + q.length - 1 - (intOf i).toNat)
  case atStart => exact ⟨0, by omega, rfl, IS.nil_ _ _, Below.refl _ _⟩
  case round =>
    obtain ⟨k, hk, rfl, ho, hb⟩ := hrel
    by_cases hlt : (k : Int) < (p.length : Int) + q.length - 1
    · go_wp2
      go_loop [8, 9] (fun x i => ∃ j : Nat, j ≤ k + 1 ∧ i = .int .i64 j ∧ x = .int .i64 (leastL (tab (prI p q k) j))) (fun _ i => k + 1 - (intOf i).toNat)
      case atStart => exact ⟨0, by omega, rfl, rfl⟩
      case round =>
        obtain ⟨j, hj, rfl, rfl⟩ := hrel
        by_cases hjk : j ≤ k
        · have hpb := at_bd HP.out j
          have hqb := at_bd HQ.out (k - j)
          have HL := Lib.hid (tab_least (prI p q k) j)
          have hpj := H.out.below hb
          have hqj := H'.out.below hb
          go_wp2_with (first | (go_at_call 59; ((with_reducible refine (poAt_any _ B _ p j _ rfl hpj).mono ?_); rintro e w' ⟨rfl, rfl⟩)) | (go_at_call 59; refine (poAt_any _ B' _ q (k - j) _ (by omega) hqj).mono ?_; rintro e w' ⟨rfl, rfl⟩) | (go_at_call 58; refine (nuPlus_any _ _ _ (by omega) (by omega)).mono ?_; rintro e w' ⟨rfl, rfl⟩) | (go_at_call 53; refine (l1Least_any _ _ _).mono ?_; rintro e w' ⟨rfl, rfl⟩))
          go_round
          case rel => exact ⟨j + 1, by omega, by go_num, by rw [HL.out]; rfl⟩
          case measure => simp [intOf]; omega
        · have hj' : j = k + 1 := by omega
          have HJ := Lib.hid (show leastL (tab (prI p q k) j) = prF p q k by rw [hj']; rfl)
          have HTN := Lib.hid (tab_next (prF p q) k)
          have HLn := Lib.hid (tab_len (prF p q) k)
          have ho' : wr.ownsRow w.heap.size 3 1 u6 k (ints (tab (prF p q) k)) := by have := ho; unfold IS at this; rwa [HLn.out] at this
          rw [HJ.out]
          clear hj'
          go_wp2_with (at_builtin; refine wpList_append_own _ rfl _ _ 22 rfl w.heap.size 3 i0 (.int .i64 0) 1 8 Tryd.underlying22 hi hz0 hz1 hz2 rfl (by decide) _ _ _ rfl (ho'.alloc _) ⟨wr.heap.size, 0, none⟩ 1 1 [.int .i64 (prF p q k)] rfl rfl (one_new _ _) (by simp [Value.oneCell']) (by unfold maxLen; omega) (by omega) (by have := hb.size; simp; omega) ?_; intro v' w1 hown' hgrow hnil)
          have hb' : Below w.heap.size w w1 := (hb.alloc hb.size _).grown hgrow (by have := hb.size; simp; omega) (fun g' hg' => (World.ownsRow.lt ho' g' hg').1)
          have hrow := IS.snoc HLn.out.symm hown'
          rw [← HTN.out] at hrow
          go_wp2
          go_roundw
          case rel => exact ⟨k + 1, by omega, by go_num, hrow, hb'⟩
          case measure => simp [intOf]; omega
    · have hk' : k = p.length + q.length - 1 := by omega
      have hr : IS wr w.heap.size u6 (prL p q) := by rw [hk'] at ho; exact ho
      cases hz : poB (prL p q)
      · go_wp2_with (go_at_call 37; refine (poGood_any _ _ _ _ hr).mono ?_; rintro e w' ⟨rfl, rfl⟩)
        go_ret2
        exact givesIB_nil hz (okL_no hz) hb
      · go_wp2_with (go_at_call 37; refine (poGood_any _ _ _ _ hr).mono ?_; rintro e w' ⟨rfl, rfl⟩)
        go_ret2
        exact givesIB_yes hz (by rw [okL_yes hz]; exact hr) hb
/-- Can two polynomials be multiplied; and the product. -/
def pdB (p q : List Int) : Bool := poB p && (poB q && poB (prL p q))
def pdR (p q : List Int) : List Int := if pdB p q = true then prL p q else []
theorem pdR_no {p q : List Int} (h : pdB p q = false) : pdR p q = [] := if_neg (by simp [h])
theorem pd_of {p q : List Int} (hp : poB p = true) (hq : poB q = true) : pdB p q = poB (prL p q) := by simp [pdB, hp, hq]
theorem pdR_of {p q : List Int} (hp : poB p = true) (hq : poB q = true) : pdR p q = okL (prL p q) := by unfold pdR okL; rw [pd_of hp hq]
theorem pdR_le (p q : List Int) : (pdR p q).length ≤ 13 := by
  unfold pdR; split
  · rename_i h
    simp only [pdB, Bool.and_eq_true] at h
    exact (po_parts h.2.2).2.2.1
  · simp
set_option maxHeartbeats 400000 in
theorem specPolyProduct_any (w : World) (B B' : Nat) (v v' : Value) (p q : List Int) (h : IS w B v p) (h' : IS w B' v' q) : Calls Tryd.prog 20 #[v, v'] w fun e w' => GivesIB (pdB p q) (pdR p q) w e w' := by
  cases hp : poB p
  · have HD := Lib.hid (show pdB p q = false by simp [pdB, hp])
    go_enter Tryd.func20, Tryd.ntmps20
    go_wp2_with (first | (go_at_call 37; refine (poGood_any _ B _ p h).mono ?_; rintro e w' ⟨rfl, rfl⟩))
    go_ret2
    exact givesIB_nil HD.out (pdR_no HD.out) (Below.refl _ _)
  · cases hq : poB q
    · have HD := Lib.hid (show pdB p q = false by simp [pdB, hq])
      go_enter Tryd.func20, Tryd.ntmps20
      go_wp2_with fail
      refine (poGood_any _ B _ p h).mono ?_
      rintro e w' ⟨rfl, rfl⟩
      go_wp2_with fail
      refine (poGood_any _ B' _ q h').mono ?_
      rintro e w' ⟨rfl, rfl⟩
      go_wp2
      go_ret2
      exact givesIB_nil HD.out (pdR_no HD.out) (Below.refl _ _)
    · have HP := Lib.hid hp
      have HQ := Lib.hid hq
      have HD := Lib.hid (pd_of hp hq)
      have HR := Lib.hid (pdR_of hp hq)
      go_enter Tryd.func20, Tryd.ntmps20
      go_wp2_with fail
      refine (poGood_any _ B _ p h).mono ?_
      rintro e w' ⟨rfl, rfl⟩
      go_wp2_with fail
      refine (poGood_any _ B' _ q h').mono ?_
      rintro e w' ⟨rfl, rfl⟩
      go_wp2_with fail
      refine (poProduct_any _ B B' _ _ p q h h' HP.out HQ.out).mono ?_
      rintro e w1 ⟨r, rfl, hr, hb⟩
      go_wp2
      go_ret2
      exact ⟨r, by rw [HD.out]; rfl, by rw [HR.out]; exact hr, hb⟩
set_option maxHeartbeats 1000000 in
theorem implPolyProduct_any (w : World) (hN : Neut w) (B B' : Nat) (v v' : Value) (p q : List Int) (h : IS w B v p) (h' : IS w B' v' q) : Calls Tryd.prog 21 #[v, v'] w fun e w' => GivesIB (pdB p q) (pdR p q) w e w' := by
  cases hp : poB p
  · have HD := Lib.hid (show pdB p q = false by simp [pdB, hp])
    go_enter Tryd.func21, Tryd.ntmps21
    go_wp2_with (first | (go_at_call 31; refine (isPoly_any _ B _ p h).mono ?_; rintro e w' ⟨rfl, rfl⟩))
    go_ret2
    exact givesIB_nil HD.out (pdR_no HD.out) (Below.refl _ _)
  · cases hq : poB q
    · have HD := Lib.hid (show pdB p q = false by simp [pdB, hq])
      go_enter Tryd.func21, Tryd.ntmps21
      go_wp2_with fail
      refine (isPoly_any _ B _ p h).mono ?_
      rintro e w' ⟨rfl, rfl⟩
      go_wp2_with fail
      refine (isPoly_any _ B' _ q h').mono ?_
      rintro e w' ⟨rfl, rfl⟩
      go_wp2
      go_ret2
      exact givesIB_nil HD.out (pdR_no HD.out) (Below.refl _ _)
    · have hmf : ∀ (fn : Fn) (first cap : Array Value) (w : World), (Instr.makeFunc fn first cap).run Tryd.prog w = .ok (.func fn first cap) w := fun _ _ _ _ => rfl
      obtain ⟨-, p2, p3, -⟩ := po_parts hp
      obtain ⟨-, q2, q3, -⟩ := po_parts hq
      have HP := Lib.hid hp
      have HQ := Lib.hid hq
      have HD := Lib.hid (pd_of hp hq)
      have HR := Lib.hid (pdR_of hp hq)
      have H := Lib.hid h
      have H' := Lib.hid h'
      obtain ⟨A, cap, rfl, -, -⟩ := h.parts
      obtain ⟨A', cap', rfl, -, -⟩ := h'.parts
      clear h h' hp hq
      go_enter Tryd.func21, Tryd.ntmps21
      go_wp2_with fail
      refine (isPoly_any _ B _ p H.out).mono ?_
      rintro e w' ⟨rfl, he⟩
      rw [HP.out, ← he]
      clear he
      go_wp2_with fail
      refine (isPoly_any _ B' _ q H'.out).mono ?_
      rintro e w' ⟨rfl, he⟩
      rw [HQ.out, ← he]
      clear he
      go_wp2_with fail
      refine (coef_any _ B _ p H.out).mono ?_
      rintro e w1 ⟨c1, rfl, k1, b1⟩
      have K1 := Lib.hid k1
      go_wp2_with fail
      refine (coef_any _ B' _ q (H'.out.below b1)).mono ?_
      rintro e w2 ⟨c2, rfl, k2, b2⟩
      have K2 := Lib.hid k2
      have B2 := bel2 b1 b2
      clear k1 k2
      have b3 : Below w2.heap.size w2 (w2.alloc (.cells #[.func (.func 60) #[] #[.pointer (some ⟨c1, 0, none⟩)]] 44)) := (Below.refl _ _).alloc (Nat.le_refl _) _
      have b4 : Below (w2.alloc (.cells #[.func (.func 60) #[] #[.pointer (some ⟨c1, 0, none⟩)]] 44)).heap.size (w2.alloc (.cells #[.func (.func 60) #[] #[.pointer (some ⟨c1, 0, none⟩)]] 44)) ((w2.alloc (.cells #[.func (.func 60) #[] #[.pointer (some ⟨c1, 0, none⟩)]] 44)).alloc (.cells #[.func (.func 60) #[] #[.pointer (some ⟨c2, 0, none⟩)]] 44)) := (Below.refl _ _).alloc (Nat.le_refl _) _
      have hs : (w2.alloc (.cells #[.func (.func 60) #[] #[.pointer (some ⟨c1, 0, none⟩)]] 44)).heap.size = w2.heap.size + 1 := by simp
      have n2 := box_new (w2.alloc (.cells #[.func (.func 60) #[] #[.pointer (some ⟨c1, 0, none⟩)]] 44)) (.func (.func 60) #[] #[.pointer (some ⟨c2, 0, none⟩)]) 44
      rw [hs] at n2
      have B4 := bel2 b3 b4
      have C1 : Cof _ w2.heap.size p := ⟨c1, B, _, box_old (box_new w2 _ _) b4, box_old (box_old K1.out b2) B4, ((H.out.below b1).below b2).below B4⟩
      have C2 : Cof _ (w2.heap.size + 1) q := ⟨c2, B', _, n2, box_old K2.out B4, ((H'.out.below b1).below b2).below B4⟩
      have HC := Lib.hid (And.intro C1 (And.intro C2 (((hN.below b1).below b2).below B4)))
      have B5 := bel2 B2 B4
      clear C1 C2 n2 hs b3 b4 hN
      go_wp2_with fail
      refine (polyOrNone_at _ _ _ ent_pr1 (p.length + q.length - 1) _ (by omega) (by omega) (prF p q) ?_).mono ?_
      · intro W i hi hb
        exact pr1_any W (HC.out.2.2.below hb) p q _ _ i HP.out HQ.out (HC.out.1.below hb) (HC.out.2.1.below hb) (by omega)
      · rintro e w3 ⟨r, rfl, hr, b6⟩
        go_wp2
        go_ret2
        exact ⟨r, by rw [HD.out]; rfl, by rw [HR.out]; exact hr.base B5.size, bel2 B5 b6⟩
end Go.Proofs.YtbhmlfidideemaaDoor

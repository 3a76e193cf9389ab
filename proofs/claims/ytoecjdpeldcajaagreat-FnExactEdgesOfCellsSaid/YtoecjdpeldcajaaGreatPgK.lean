/-
  Hulls and polygons in the model and in the program: what the calls return.
  Conditions: the slice reads as the list that is named; coordinates of hulls are small.
-/
import Derived.Test.YtoecjdpeldcajaaGreatPgH
import Derived.Deep.AppendLies
namespace Go.Proofs.YtoecjdpeldcajaaGreat
set_option linter.unusedSimpArgs false
set_option linter.unusedVariables false
open Go.ChangeShapes Go.WideShapes Go.ChangeAt Go.RowKit
open Go.Sort (grow)

theorem srt_sm {k : Nat} {l : List Pt} (h : ∀ q ∈ l, Sm k q) : ∀ q ∈ srtP l, Sm k q := fun q hq => h q ((srtP_mem l q).1 hq)
theorem pts_sm {l : List Pt} (h : ptsB l = true) : ∀ q ∈ l, Sm 100 q := fun q hq => Sm.of (((ptsB_iff l).1 h).2.2 q hq)
theorem take_rev (s : List Pt) (k : Nat) (hk : k < s.length) : s.reverse.take (k + 1) = s.reverse.take k ++ [pd s (s.length - 1 - k)] := by
  rw [take_pd s.reverse k (by rw [List.length_reverse]; exact hk)]
  congr 2
  unfold pd
  rw [List.getD_eq_getElem?_getD, List.getD_eq_getElem?_getD, List.getElem?_reverse hk]
def huR (l : List Pt) : List Pt := if ptsB l = true then hulL l else []
theorem huR_yes {l : List Pt} (h : ptsB l = true) : huR l = hulL l := if_pos h
theorem huR_no {l : List Pt} (h : ptsB l = false) : huR l = [] := if_neg (by simp [h])
theorem belA {x w : World} (h : Below x.heap.size x w) (o : Obj) : Below x.heap.size x (w.alloc o) := h.alloc h.size o
/-- An append of a part of a row of our own onto another one, at a step of a drawn region. -/
theorem step_app_b {w : World} {ops : Array Oper} {o : Oper} {a : Act} {K : Act → World → Prop} {Q : Exit → Act → World → Prop} {E : Prop} (hgd : o.guard = none) (s t : Operand)
    (ho : o.op = .call { callee := .builtin .append, args := #[s, t], argTypes := #[72, 72] })
    (x : World) (v : Value) (n : Nat) (xs : List Int) (hs : a.eval s = v) (hown : w.ownsRow x.heap.size 55 2 v n (ints xs))
    (ad : Addr) (m c : Nat) (news : List Int) (hx : a.eval t = .slice (some ad) m c) (hl : news.length = m * 2) (hnews : ∀ j u, (ints news)[j]? = some u → w.cell? (ad.add j) = some u)
    (hb : n + m ≤ 1000000) (hS : Below x.heap.size x w)
    (h : ∀ v' w', w'.ownsRow x.heap.size 55 2 v' (n + m) (ints (xs ++ news)) → Below x.heap.size x w' → K (a.put o.dst v') w') :
    if Region.wanted o (yielded ops a.tmps) = true then Oper.wp Tryz.prog o a w K Q else E := by
  obtain ⟨i0, hi, hz0, hz1, hz2⟩ := info_parts infoPoint
  refine step_append_own hgd s t 72 ho x.heap.size 55 i0 (.agg #[.int .i64 0, .int .i64 0]) 2 16 Tryz.underlying72 hi hz0 hz1 hz2 rfl (by decide) v n (ints xs) hs hown ad m c (ints news) hx (by simp [ints, hl]) hnews (onesP news) (by unfold maxLen; omega) (by omega) hS.size ?_
  intro v' w' h1 h2 h3
  refine h v' w' ?_ (hS.grown h2 hS.size fun k hk => (World.ownsRow.lt hown k hk).1)
  unfold ints at h1 ⊢
  rw [List.map_append]
  exact h1
set_option maxHeartbeats 2000000 in
set_option maxRecDepth 100000 in
theorem pyHull_any (w : World) (B : Nat) (v : Value) (l : List Pt) (h : PtS w B v l) (hz : l.length ≤ 100000) (hsm : ∀ q ∈ l, Sm 1000 q) : Calls Tryz.prog 69 #[v] w fun e w' => GivesPt (hulL l) w e w' := by
  have HSM := Lib.hid hsm
  have HH := Lib.hid (hul_same l)
  have HLE := Lib.hid (srtP_le l)
  clear hsm
  go_enter Tryz.func69, Tryz.ntmps69
  go_wp2_with fail
  refine (pySorted_any _ B _ l h hz).mono ?_
  rintro e w1 ⟨r, rfl, hr, b1⟩
  obtain ⟨s, hs⟩ : ∃ s, s = srtP l := ⟨_, rfl⟩
  have hsms : ∀ q ∈ s, Sm 1000 q := by rw [hs]; exact srt_sm HSM.out
  have hpw : s.Pairwise Bf := by rw [hs]; exact srtP_pw l
  rw [← hs] at hr HH HLE
  have HS := Lib.hid hsms
  have HPW := Lib.hid hpw
  have hle : s.length ≤ 100000 := by have := HLE.out; omega
  clear hs HLE hsms hpw h hz
  by_cases h2 : s.length < 2
  · have HE := Lib.hid (show hulL l = s by rw [← HH.out]; unfold hulM; rw [if_pos h2])
    have HR := Lib.hid hr
    obtain ⟨A, cap, rfl, -, -⟩ := PtS.parts hr
    have h2' : (s.length : Int) < 2 := by omega
    clear hr
    go_wp2
    go_ret
    exact ⟨_, rfl, by rw [HE.out]; exact HR.out, b1⟩
  · have HE := Lib.hid (show hulL l = (stkH trn s).reverse.dropLast ++ (stkH trn s.reverse).reverse.dropLast by rw [← HH.out]; unfold hulM; rw [if_neg h2])
    have HR := Lib.hid hr
    have hlow2 := inv_two geo_up HPW.out (by omega)
    have hup2 := inv_two geo_back (s := s.reverse) (List.pairwise_reverse.2 HPW.out) (by rw [List.length_reverse]; omega)
    have hlow3 := stkH_le trn s
    have hup3 := stkH_le trn s.reverse
    rw [List.length_reverse] at hup3
    obtain ⟨A, cap, rfl, -, hp⟩ := PtS.parts hr
    have HP := Lib.hid hp
    obtain ⟨n, hn⟩ : ∃ n, n = s.length := ⟨_, rfl⟩
    have HN := Lib.hid hn
    rw [← hn] at h2 hle hlow3 hup3 ⊢
    have h2' : ¬ (n : Int) < 2 := by omega
    have q1 : IntKind.i64.wrap ((n : Int) - 1) = (n : Int) - 1 := IntWalk.i64_in _ (by omega)
    clear hr hp hn
    go_wp2_with fail
    refine (pyHalf_any _ _ _ s (by rw [HN.out]; exact HR.out) (by rw [← HN.out]; exact hle) HS.out).mono ?_
    rintro e w2 ⟨vl, rfl, hlow, b2⟩
    have hb2 := bel2 b1 b2
    go_wp2
    go_loopw [5, 6] (fun o i wr => ∃ k : Nat, k ≤ n ∧ i = .int .i64 ((n : Int) - 1 - k) ∧ PtS wr w2.heap.size o (s.reverse.take k) ∧ Below w2.heap.size w2 wr) (fun _ i _ => ((intOf i) + 1).toNat)
    case atStart => exact ⟨0, by omega, by simp, by rw [List.take_zero]; exact FS.nil_ _ _ _ _, Below.refl _ _⟩
    case round =>
      obtain ⟨k, hk, rfl, ho, hb⟩ := hrel
      by_cases hlt : k < n
      · have hks : k < s.length := by rw [← HN.out]; exact hlt
        obtain ⟨g, rfl, hc0⟩ := HP.out (n - 1 - k) (by rw [← HN.out]; omega)
        obtain ⟨p, hpe⟩ : ∃ p, p = pd s (n - 1 - k) := ⟨_, rfl⟩
        have HNX := Lib.hid (show s.reverse.take (k + 1) = s.reverse.take k ++ [p] by rw [take_rev s k hks, hpe, HN.out])
        rw [← hpe] at hc0
        obtain ⟨c0, c1⟩ := X2.below (X2.below hc0 b2) hb
        obtain ⟨j, hj⟩ : ∃ j, j = n - 1 - k := ⟨_, rfl⟩
        have hji : (n : Int) - 1 - k = (j : Int) := by omega
        rw [← hj] at c0 c1
        rw [hji]
        have hjn : j < n := by omega
        have q2 : IntKind.i64.wrap ((j : Int) - 1) = (j : Int) - 1 := IntWalk.i64_in _ (by omega)
        have HJ := Lib.hid (show (j : Int) - 1 = (n : Int) - 1 - ((k + 1 : Nat) : Int) by omega)
        have HB := Lib.hid hb
        have HLT := Lib.hid (fun g hg => (World.ownsRow.lt ho g hg).1)
        have hwr := hb.size
        have ho' := FS.alloc ho (.cells #[.int .i64 p.1, .int .i64 p.2] 55)
        have htk : (s.reverse.take k).length ≤ 1000000 := by rw [List.length_take, List.length_reverse]; omega
        clear hc0 hpe hj hji ho hb
        go_wp2_with (at_builtin; refine wpList_append_pt _ rfl _ _ rfl w2.heap.size _ (s.reverse.take k) rfl ho' wr.heap.size p rfl (P2.new wr p _) htk (by simp; omega) ?_; intro v' w3 hown' hgrow)
        go_roundw
        case rel => exact ⟨k + 1, by omega, by rw [HJ.out], by rw [HNX.out]; exact hown', (HB.out.alloc hwr _).grown hgrow (by simp; omega) HLT.out⟩
        case measure => simp [intOf] <;> omega
      · obtain rfl : k = n := by omega
        have hneg : ¬ (0 : Int) ≤ (k : Int) - 1 - (k : Int) := by omega
        rw [show s.reverse.take k = s.reverse by rw [HN.out, ← List.length_reverse, List.take_length]] at ho
        have HB := Lib.hid (bel2 hb2 hb)
        have hlow' := Lib.hid (FS.below hlow hb)
        have HB2 := Lib.hid hb
        clear hb q1
        go_wp2_with fail
        refine (pyHalf_any _ _ _ s.reverse ho (by rw [List.length_reverse, ← HN.out]; exact hle) (fun q hq => HS.out q (List.mem_reverse.1 hq))).mono ?_
        rintro e w3 ⟨vu, rfl, hup, b3⟩
        have HL := Lib.hid (FS.below hlow'.out b3)
        have HU := Lib.hid hup
        have HB3 := Lib.hid (bel2 HB.out b3)
        clear b3 ho
        obtain ⟨ul, hul⟩ : ∃ ul, ul = (stkH trn s).reverse := ⟨_, rfl⟩
        obtain ⟨uu, huu⟩ : ∃ uu, uu = (stkH trn s.reverse).reverse := ⟨_, rfl⟩
        have e1 : ul.length = (stkH trn s).length := by rw [hul, List.length_reverse]
        have e2 : uu.length = (stkH trn s.reverse).length := by rw [huu, List.length_reverse]
        rw [← e1] at hlow2 hlow3
        rw [← e2] at hup2 hup3
        rw [← hul] at HL HE hlow
        rw [← huu] at HU HE hup
        obtain ⟨gl, capl, rfl, -, hcl, -⟩ := PtS.some hlow (by omega)
        obtain ⟨gu, capu, rfl, -, hcu, -⟩ := PtS.some hup (by omega)
        obtain ⟨a, ha⟩ : ∃ a, a = ul.length := ⟨_, rfl⟩
        obtain ⟨b, hb⟩ : ∃ b, b = uu.length := ⟨_, rfl⟩
        have HA := Lib.hid ha
        have HBB := Lib.hid hb
        have HNL := Lib.hid (ptS_news rfl HL.out)
        have HNU := Lib.hid (ptS_news rfl HU.out)
        rw [← ha] at hlow2 hlow3 hcl ⊢
        rw [← hb] at hup2 hup3 hcu ⊢
        clear hul huu e1 e2 ha hb hlow hup hlow' hneg
        have q3 : IntKind.i64.wrap ((a : Int) - 1) = ((a - 1 : Nat) : Int) := by rw [IntWalk.i64_in _ (by omega)]; omega
        have q4 : IntKind.i64.wrap ((b : Int) - 1) = ((b - 1 : Nat) : Int) := by rw [IntWalk.i64_in _ (by omega)]; omega
        have l1 : a - 1 ≤ capl := by omega
        have l2 : b - 1 ≤ capu := by omega
        have l3 : ¬ capl = 0 := by omega
        have l4 : ¬ capu = 0 := by omega
        have hS : Below w3.heap.size w3 w3 := Below.refl _ _
        go_wp2_with fail
        go_region_held3 (fun w' => Below w3.heap.size w3 w') (repeat' (first | with_reducible assumption | with_reducible refine Below.drew ?_ | with_reducible refine belN ?_ _ | with_reducible refine belA ?_ _)) (first | (refine step_app_b (by rfl) (.tmp 32) (.tmp 37) (by rfl) w3 (.slice (some ⟨w3.heap.size, 0, none⟩) 0 0) 0 [] (by rfl) (twP_new _ _ (Nat.le_refl _)) ⟨gl, 0, none⟩ (a - 1) _ ((flatP ul).take ((a - 1) * 2)) (by rfl) (by rw [List.length_take, flatP_len, ← HA.out]; omega) (preP_news HNL.out (by assumption) _) (by omega) (by assumption) ?_; intro v1 w4 hown1 hS1) | (refine step_app_b (by rfl) (.tmp 38) (.tmp 43) (by rfl) w3 v1 (0 + (a - 1)) ([] ++ (flatP ul).take ((a - 1) * 2)) (by rfl) hown1 ⟨gu, 0, none⟩ (b - 1) _ ((flatP uu).take ((b - 1) * 2)) (by rfl) (by rw [List.length_take, flatP_len, ← HBB.out]; omega) (preP_news HNU.out (by assumption) _) (by omega) (by assumption) ?_; intro v2 w5 hown2 hS2))
        all_goals
          go_wp2
          go_ret
          have hrow := FS.base (zs := [] ++ (flatP ul).take ((a - 1) * 2) ++ (flatP uu).take ((b - 1) * 2)) hown2 HB3.out.size
          refine ⟨_, rfl, ?_, bel2 HB3.out hS2⟩
          rw [HE.out]
          have el : (ul.dropLast ++ uu.dropLast).length = 0 + (a - 1) + (b - 1) := by rw [List.length_append, List.length_dropLast, List.length_dropLast, ← HA.out, ← HBB.out]; omega
          unfold PtS
          rw [el, flatP_app, List.dropLast_eq_take, List.dropLast_eq_take, ← flatP_take, ← flatP_take, ← HA.out, ← HBB.out]
          exact hrow
/-- A point behind a row of points of our own, which then lies where it lay or in a new block. -/
theorem wpList_append_ptl {ops : Array Oper} {rest : List Oper} {o : Oper} {a : Act} {Q : Exit → Act → World → Prop} (w : World) (hgd : o.guard = none) (s x : Operand)
    (ho : o.op = .call { callee := .builtin .append, args := #[s, x], argTypes := #[72, 72] })
    (B : Nat) (v : Value) (l : List Pt) (hs : a.eval s = v) (hown : PtS w B v l) (n : Nat) (p : Pt) (hx : a.eval x = .slice (some ⟨n, 0, none⟩) 1 1)
    (hp : P2 w n p) (hn : l.length ≤ 1000000) (hB : B ≤ w.heap.size) (H : Nat) (hH : w.heap.size = H)
    (h : ∀ v' w', PtS w' B v' (l ++ [p]) → w.grownBy w' v.ownBlock → (∀ g, v'.ownBlock = some g → v.ownBlock = some g ∨ g = H) → wpList Tryz.prog ops Q rest (a.put o.dst v') w') :
    wpList Tryz.prog ops Q (o :: rest) a w := by
  obtain ⟨i0, hi, hz0, hz1, hz2⟩ := info_parts infoPoint
  refine wpList_append_lies w hgd s x 72 ho B 55 i0 (.agg #[.int .i64 0, .int .i64 0]) 2 16 Tryz.underlying72 hi hz0 hz1 hz2 rfl (by decide) v l.length _ hs hown ⟨n, 0, none⟩ 1 1 (ints (encP p)) hx rfl (P2.news hp) (by intro u hu; simp [ints, encP] at hu; rcases hu with rfl | rfl <;> rfl) (by omega) (by unfold maxLen; omega) (by omega) hB H hH ?_
  intro g cap w' h1 h2 h3 h4
  refine h _ w' (ptS_snoc rfl h1) h2 fun g' hg' => ?_
  simp only [Value.ownBlock, Option.some.injEq] at hg'
  subst hg'
  exact h3
theorem ent_taken : EntP 99 := enters_of Tryz.func99 (by kernel_rfl) rfl
theorem cor_up : CorP 99 #[.int .i64 1] trn := fun W a b c ha hb hc => by
  have := taken_any 1 (.inl rfl) a b c W ha hb hc
  rw [show (1 : Int) * trn a b c = trn a b c by omega] at this
  exact this
theorem cor_dn : CorP 99 #[.int .i64 (-1)] trnN := fun W a b c ha hb hc => by
  have := taken_any (-1) (.inr rfl) a b c W ha hb hc
  rw [show (-1 : Int) * trn a b c = trnN a b c by unfold trnN; omega] at this
  exact this
theorem up_at (U : List Pt) (k : Nat) (hk : k + 2 < U.length) : U.tail.take (k + 1) = U.tail.take k ++ [pd U.reverse (U.length - 2 - k)] := by
  rw [take_pd U.tail k (by rw [List.length_tail]; omega)]
  congr 2
  unfold pd
  rw [List.getD_eq_getElem?_getD, List.getD_eq_getElem?_getD, List.getElem?_reverse (by omega), List.getElem?_tail]
  congr 2
  omega
/-- The list is one that nobody else has: x is a world before it. -/
theorem hullOf_any (x w : World) (B : Nat) (v : Value) (l : List Pt) (h : PtS w B v l) (hz : l.length ≤ 100000) (hsm : ∀ q ∈ l, Sm 1000 q) (hx : Below x.heap.size x w) (hB : x.heap.size ≤ B) : Calls Tryz.prog 85 #[v] w fun e w' => GivesPt (hulL l) x e w' := by
  have HSM := Lib.hid hsm
  have HLT := Lib.hid (fun g hg => Nat.le_trans hB (World.ownsRow.lt h g hg).1)
  have HSS := Lib.hid (sort_srt l)
  have HSL := Lib.hid (sortP_len l)
  have HLE := Lib.hid (srtP_le l)
  clear hsm
  go_enter Tryz.func85, Tryz.ntmps85
  go_wp2_with fail
  refine (sortFuncP_any _ B _ l h (by omega)).mono ?_
  rintro e w1 ⟨rfl, h1, g1⟩
  have hb1 := hx.grown g1 hx.size HLT.out
  go_wp2_with fail
  refine (compactP_any _ B _ (sortP l) h1 (by rw [HSL.out]; omega)).mono ?_
  rintro e w2 ⟨r, rfl, hr, g2⟩
  have hb2 := hb1.grown g2 hb1.size HLT.out
  rw [HSS.out] at hr
  obtain ⟨s, hs⟩ : ∃ s, s = srtP l := ⟨_, rfl⟩
  have HS := Lib.hid (show ∀ q ∈ s, Sm 1000 q by rw [hs]; exact srt_sm HSM.out)
  rw [← hs] at hr HLE
  have hle : s.length ≤ 100000 := by have := HLE.out; omega
  have HU := Lib.hid (show hulL l = (stkH trn s).reverse ++ (stkH trnN s).tail.dropLast by unfold hulL lowH uppH; rw [← hs])
  have HR := Lib.hid hr
  have HB2 := Lib.hid hb2
  clear h h1 g1 g2 hb1 hs HSS HSL HLT HLE hx hb2
  go_wp2_with fail
  refine (keepCornersP_any _ _ _ trn ent_taken B _ s HS.out hle HR.out cor_up).mono ?_
  rintro e w3 ⟨vl, rfl, hlow, b3⟩
  have h3 := FS.below HR.out b3
  go_wp2_with fail
  refine (keepCornersP_any _ _ _ trnN ent_taken B _ s HS.out hle h3 cor_dn).mono ?_
  rintro e w4 ⟨vu, rfl, hup, b4⟩
  have hlow4 := Lib.hid (FS.below hlow b4)
  have HB4 := Lib.hid (bel2 (bel2 HB2.out b3) b4)
  have hxs := (bel2 HB2.out b3).size
  have hxs2 := HB2.out.size
  obtain ⟨U, hU⟩ : ∃ U, U = stkH trnN s := ⟨_, rfl⟩
  have hUl : U.length ≤ 100000 := by rw [hU]; exact Nat.le_trans (stkH_le _ _) hle
  have hLl : (stkH trn s).length ≤ 100000 := Nat.le_trans (stkH_le _ _) hle
  rw [← hU] at hup HU
  obtain ⟨L, hL⟩ : ∃ L, L = (stkH trn s).reverse := ⟨_, rfl⟩
  have hLL : L.length ≤ 100000 := by rw [hL, List.length_reverse]; exact hLl
  rw [← hL] at hlow4 HU
  have hbl := HB4.out.size
  obtain ⟨A, cap, rfl, -, hp⟩ := PtS.parts hup
  have HP := Lib.hid hp
  rw [List.length_reverse]
  obtain ⟨m, hm⟩ : ∃ m, m = U.length := ⟨_, rfl⟩
  have HM := Lib.hid hm
  rw [← hm] at hUl ⊢
  have q1 : IntKind.i64.wrap ((m : Int) - 2) = (m : Int) - 2 := IntWalk.i64_in _ (by omega)
  have hrow0 := FS.base hlow4.out hxs2
  have HNE := Lib.hid (show ∀ g gu, vl.ownBlock = some g → A = some ⟨gu, 0, none⟩ → g ≠ gu from fun g gu hg hA => by
    have h1 := (World.ownsRow.lt hlow g hg).2
    have h2 := (World.ownsRow.lt hup gu (by rw [hA]; rfl)).1
    omega)
  clear hp hm hU hL hlow hup b3 b4 h3 hr hLl
  go_wp2
  clear q1
  go_loopw [3, 5] (fun o i wr => ∃ k : Nat, (k : Int) ≤ max 0 ((m : Int) - 2) ∧ i = .int .i64 ((m : Int) - 2 - k) ∧ PtS wr x.heap.size o (L ++ U.tail.take k) ∧ Below x.heap.size x wr ∧ Hid (∀ j, j < m → ∃ g, A = some ⟨g, 0, none⟩ ∧ X2 wr g (j * 2) (pd U.reverse j)) ∧ Hid (∀ g gu, o.ownBlock = some g → A = some ⟨gu, 0, none⟩ → g ≠ gu)) (fun _ i _ => (intOf i).toNat)
  case atStart => exact ⟨0, by omega, by simp, by rw [List.take_zero, List.append_nil]; exact hrow0, HB4.out, Lib.hid (fun j hj => HP.out j (by rw [List.length_reverse, ← HM.out]; exact hj)), HNE⟩
  case round =>
    obtain ⟨k, hk, rfl, ho, hb, HC, hne⟩ := hrel
    clear hrow0 HNE
    by_cases hlt : (k : Int) < (m : Int) - 2
    · obtain ⟨j, hj⟩ : ∃ j, j = m - 2 - k := ⟨_, rfl⟩
      have hjm : j < m := by omega
      obtain ⟨gu, rfl, hc0⟩ := HC.out j hjm
      obtain ⟨p, hpe⟩ : ∃ p, p = pd U.reverse j := ⟨_, rfl⟩
      rw [← hpe] at hc0
      have HNX := Lib.hid (show U.tail.take (k + 1) = U.tail.take k ++ [p] by rw [up_at U k (by rw [← HM.out]; omega), hpe, hj, HM.out])
      obtain ⟨c0, c1⟩ := hc0
      have hgl : gu < wr.heap.size := cell_lt c0
      have hji : (m : Int) - 2 - k = (j : Int) := by omega
      rw [hji]
      have hj0 : (0 : Int) < (j : Int) := by omega
      have q2 : IntKind.i64.wrap ((j : Int) - 1) = (j : Int) - 1 := IntWalk.i64_in _ (by omega)
      have HJ := Lib.hid (show (j : Int) - 1 = (m : Int) - 2 - ((k + 1 : Nat) : Int) by omega)
      have HK := Lib.hid (show ((k + 1 : Nat) : Int) ≤ max 0 ((m : Int) - 2) by omega)
      have HB := Lib.hid hb
      have HLT2 := Lib.hid (fun g hg => (World.ownsRow.lt ho g hg).1)
      have HLT3 := Lib.hid (fun g hg => (World.ownsRow.lt ho g hg).2)
      have hwr := hb.size
      have ho' := FS.alloc ho (.cells #[.int .i64 p.1, .int .i64 p.2] 55)
      have htk : (L ++ U.tail.take k).length ≤ 1000000 := by rw [List.length_append, List.length_take, List.length_tail, ← HM.out]; omega
      have HC' := Lib.hid (fun j hj => by
        obtain ⟨g', hg', hx⟩ := HC.out j hj
        obtain rfl : gu = g' := by simpa using hg'
        exact (hx : X2 wr gu (j * 2) (pd U.reverse j)))
      clear hpe hj hji ho hb HC hk hlt
      go_wp2_with (at_builtin; refine wpList_append_ptl _ rfl _ _ rfl x.heap.size _ (L ++ U.tail.take k) rfl ho' wr.heap.size p rfl (P2.new wr p _) htk (by simp; omega) _ rfl ?_; intro v' w5 hown' hgrow hat)
      go_roundw
      case rel =>
        refine ⟨k + 1, HK.out, by rw [HJ.out], by rw [HNX.out, ← List.append_assoc]; exact hown', (HB.out.alloc hwr _).grown hgrow (by simp; omega) HLT2.out, Lib.hid fun j hj => ⟨gu, rfl, ?_⟩, Lib.hid fun g gu' hg hgu => ?_⟩
        · have hx := X2.below (HC'.out j hj) ((Below.refl _ wr).alloc (Nat.le_refl _) (.cells #[.int .i64 p.1, .int .i64 p.2] 55))
          have hno : some gu ≠ u3.ownBlock := fun h => hne.out gu gu h.symm rfl rfl
          exact ⟨hgrow.cell (a := ⟨gu, j * 2, none⟩) hx.1 hno, hgrow.cell (a := ⟨gu, j * 2 + 1, none⟩) hx.2 hno⟩
        · obtain rfl : gu = gu' := by simpa using hgu
          rcases hat g hg with h | h
          · exact hne.out g gu h rfl
          · rw [World.size_alloc] at h; omega
      case measure => simp [intOf] <;> omega
    · have hneg : ¬ (0 : Int) < (m : Int) - 2 - (k : Int) := by omega
      have HE := Lib.hid (show U.tail.take k = U.tail.dropLast by
        rw [List.dropLast_eq_take, List.length_tail, ← HM.out]
        by_cases h2 : 2 ≤ m
        · rw [show k = m - 1 - 1 by omega]
        · have : U.tail = [] := List.length_eq_zero_iff.1 (by rw [List.length_tail, ← HM.out]; omega)
          rw [this]; simp)
      obtain ⟨R, hR⟩ : ∃ R, R = L ++ U.tail.take k := ⟨_, rfl⟩
      have HRR := Lib.hid (show hulL l = R by rw [HU.out, ← HE.out, hR])
      rw [← hR] at ho
      have HO := Lib.hid ho
      obtain ⟨A', cap', rfl, -, -⟩ := PtS.parts ho
      clear hne hR ho
      go_wp2
      go_ret
      exact ⟨_, rfl, by rw [HRR.out]; exact HO.out, hb⟩
end Go.Proofs.YtoecjdpeldcajaaGreat

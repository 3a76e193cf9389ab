/-
  DualPolygon of the model: what the calls return.
  Condition: the slice reads as the list that is named.
-/
import Derived.Test.YthegkifhbgopoaaDuC
import Derived.Deep.AppendLies
namespace Go.Proofs.Ythegkifhbgopoaa
set_option linter.unusedSimpArgs false
set_option linter.unusedVariables false
open Go.ChangeShapes Go.WideShapes Go.ChangeAt Go.RowKit
open Go.Sort (grow)

theorem insB_at {H : Pt → Bool} {u : Pt} {l : List Pt} {k : Nat} (h : ∀ j, j < k → j < l.length ∧ hfB H (pd l j) u = true) (h' : k < l.length → hfB H (pd l k) u = false) : insB H l u = l.take k ++ u :: l.drop k := by
  unfold insB
  rw [antB_at h h']
/-- Nothing that lay there when x was has changed. -/
abbrev S1 (x w : World) : Prop := Below x.heap.size x w
theorem S1.drew {x w : World} (h : S1 x w) : S1 x w.drew := Below.drew h
theorem S1.drewN {x w : World} (h : S1 x w) (n : Nat) : S1 x (w.drewN n) := belN h n
theorem S1.alloc {x w : World} (h : S1 x w) (o : Obj) : S1 x (w.alloc o) := Below.alloc h (Below.size h) o
theorem S1.bel {x w : World} (h : S1 x w) : Below x.heap.size x w := h
theorem flatP_take (d : List Pt) (k : Nat) : (flatP d).take (k * 2) = flatP (d.take k) := by
  induction d generalizing k with
  | nil => simp [flatP]
  | cons a d ih =>
    cases k with
    | zero => simp [flatP]
    | succ k =>
      show (encP a ++ flatP d).take ((k + 1) * 2) = encP a ++ flatP (d.take k)
      rw [← ih k, List.take_append, show (encP a).take ((k + 1) * 2) = encP a from List.take_of_length_le (by simp [encP]; omega), show (k + 1) * 2 - (encP a).length = k * 2 by simp [encP]; omega]
theorem flatP_drop (d : List Pt) (k : Nat) : (flatP d).drop (k * 2) = flatP (d.drop k) := by
  induction d generalizing k with
  | nil => simp [flatP]
  | cons a d ih =>
    cases k with
    | zero => simp [flatP]
    | succ k =>
      show (encP a ++ flatP d).drop ((k + 1) * 2) = flatP (d.drop k)
      rw [← ih k, List.drop_append, show (encP a).drop ((k + 1) * 2) = [] from List.drop_eq_nil_of_le (by simp [encP]; omega), show (k + 1) * 2 - (encP a).length = k * 2 by simp [encP]; omega, List.nil_append]
theorem onesP (zs : List Int) : ∀ u ∈ ints zs, u.oneCell' = true := fun u hu => by
  simp only [ints, List.mem_map] at hu
  obtain ⟨y, -, rfl⟩ := hu
  rfl
theorem P2.kept {w w' : World} {g : Nat} {r : Pt} {v : Value} (h : P2 w g r) (hk : ∀ p u, w.cell? p = some u → (∀ k, v.ownBlock = some k → p.block ≠ k) → w'.cell? p = some u) (hne : ∀ k, v.ownBlock = some k → g ≠ k) : P2 w' g r :=
  ⟨hk _ _ h.1 hne, hk _ _ h.2 hne⟩
theorem P2.news {w : World} {g : Nat} {r : Pt} (h : P2 w g r) : ∀ j u, (ints (encP r))[j]? = some u → w.cell? ((⟨g, 0, none⟩ : Addr).add j) = some u := fun j u hu => by
  have e : (⟨g, 0, none⟩ : Addr).add j = ⟨g, j, none⟩ := by unfold Addr.add; split <;> simp_all
  rw [e]
  match j, hu with
  | 0, hu => rw [h.1]; exact hu
  | 1, hu => rw [h.2]; exact hu
  | j + 2, hu => simp [ints, encP] at hu
theorem preP_news {x w : World} {g : Nat} {zs : List Int} (h : ∀ j u, (ints zs)[j]? = some u → x.cell? ((⟨g, 0, none⟩ : Addr).add j) = some u) (hb : Below x.heap.size x w) (q : Nat) : ∀ j u, (ints (zs.take q))[j]? = some u → w.cell? ((⟨g, 0, none⟩ : Addr).add j) = some u := fun j u hu => by
  refine box_o (h j u ?_) hb
  unfold ints at hu ⊢
  rw [List.map_take] at hu
  rcases Nat.lt_or_ge j q with hj | hj
  · rwa [List.getElem?_take_of_lt hj] at hu
  · rw [List.getElem?_eq_none (by simp; omega)] at hu; cases hu
theorem postP_news {x w : World} {g : Nat} {zs : List Int} (h : ∀ j u, (ints zs)[j]? = some u → x.cell? ((⟨g, 0, none⟩ : Addr).add j) = some u) (hb : Below x.heap.size x w) (q : Nat) : ∀ j u, (ints (zs.drop q))[j]? = some u → w.cell? ((⟨g, q, none⟩ : Addr).add j) = some u := fun j u hu => by
  have e : (⟨g, q, none⟩ : Addr).add j = (⟨g, 0, none⟩ : Addr).add (q + j) := by
    unfold Addr.add
    by_cases hj : j = 0
    · subst hj
      by_cases hq : q = 0
      · subst hq; rfl
      · simp [hq]
    · rw [if_neg hj, if_neg (by omega)]; simp
  rw [e]
  refine box_o (h (q + j) u ?_) hb
  unfold ints at hu ⊢
  rw [List.map_drop, List.getElem?_drop] at hu
  exact hu
theorem nilP_news {w : World} {ad : Addr} {zs : List Int} (h : zs = []) : ∀ j u, (ints zs)[j]? = some u → w.cell? (ad.add j) = some u := fun j u hu => by
  subst h; simp [ints] at hu
theorem ptS_news {w : World} {B g cap n : Nat} {l : List Pt} (hn : n = l.length) (h : PtS w B (.slice (some ⟨g, 0, none⟩) n cap) l) : ∀ j u, (ints (flatP l))[j]? = some u → w.cell? ((⟨g, 0, none⟩ : Addr).add j) = some u := fun j u hu => by
  subst hn
  have hj : j < (ints (flatP l)).length := by
    rcases Nat.lt_or_ge j (ints (flatP l)).length with h' | h'
    · exact h'
    · rw [List.getElem?_eq_none h'] at hu; cases hu
  have hj' : j < l.length * 2 := by simpa [ints, flatP_len] using hj
  have e : (⟨g, 0, none⟩ : Addr).add j = ⟨g, j, none⟩ := by unfold Addr.add; split <;> simp_all
  rw [e, World.ownsRow.cellAt h j hj', hu]
theorem step_app_sd {w : World} {ops : Array Oper} {o : Oper} {a : Act} {K : Act → World → Prop} {Q : Exit → Act → World → Prop} {E : Prop} (hgd : o.guard = none) (s t : Operand)
    (ho : o.op = .call { callee := .builtin .append, args := #[s, t], argTypes := #[66, 66] })
    (x : World) (v : Value) (n : Nat) (xs : List Int) (hs : a.eval s = v) (hown : w.ownsRow x.heap.size 108 2 v n (ints xs))
    (ad : Addr) (m c : Nat) (news : List Int) (hx : a.eval t = .slice (some ad) m c) (hl : news.length = m * 2) (hnews : ∀ j u, (ints news)[j]? = some u → w.cell? (ad.add j) = some u)
    (hb : n + m ≤ 1000000) (hS : S1 x w)
    (h : ∀ v' w', w'.ownsRow x.heap.size 108 2 v' (n + m) (ints (xs ++ news)) → S1 x w' → (∀ p u, w.cell? p = some u → (∀ k, v.ownBlock = some k → p.block ≠ k) → w'.cell? p = some u) → K (a.put o.dst v') w') :
    if Region.wanted o (yielded ops a.tmps) = true then Oper.wp Try.prog o a w K Q else E := by
  obtain ⟨i0, hi, hz0, hz1, hz2⟩ := info_parts infoPoint
  refine step_append_own hgd s t 66 ho x.heap.size 108 i0 (.agg #[.int .i64 0, .int .i64 0]) 2 16 Try.underlying66 hi hz0 hz1 hz2 rfl (by decide) v n (ints xs) hs hown ad m c (ints news) hx (by simp [ints, hl]) hnews (onesP news) (by unfold maxLen; omega) (by omega) (Below.size hS) ?_
  intro v' w' h1 h2 h3
  refine h v' w' ?_ (Below.grown hS h2 (Below.size hS) fun k hk => (World.ownsRow.lt hown k hk).1) (fun p u hc hne => h2.cell hc (fun e => hne _ e.symm rfl))
  unfold ints at h1 ⊢
  rw [List.map_append]
  exact h1
theorem step_app_noneP {w : World} {ops : Array Oper} {o : Oper} {a : Act} {K : Act → World → Prop} {Q : Exit → Act → World → Prop} {E : Prop} (hgd : o.guard = none) (s t : Operand)
    (ho : o.op = .call { callee := .builtin .append, args := #[s, t], argTypes := #[66, 66] })
    (B : Nat) (v : Value) (n : Nat) (xs : List Value) (hs : a.eval s = v) (hown : w.ownsRow B 108 2 v n xs) (hx : a.eval t = .slice none 0 0)
    (h : K (a.put o.dst v) w) : if Region.wanted o (yielded ops a.tmps) = true then Oper.wp Try.prog o a w K Q else E := by
  obtain ⟨i0, hi, hz0, hz1, hz2⟩ := info_parts infoPoint
  have hw : Region.wanted o (yielded ops a.tmps) = true := by simp [Region.wanted, hgd]
  rw [if_pos hw]
  exact Lib.wp_append_run w s t 66 66 ho v (.slice none 0 0) hs hx v w (run_append_owned_none w B 66 o.type 108 i0 2 Try.underlying66 hi v n xs hown) h
theorem twP_new (w : World) (B : Nat) (h : B ≤ w.heap.size) : (w.alloc (.cells #[] 108)).ownsRow B 108 2 (.slice (some ⟨w.heap.size, 0, none⟩) 0 0) 0 (ints []) := World.ownsRow_made w #[] 0 h (Nat.zero_le _) rfl
theorem twP_new' (w : World) (o : Obj) (B : Nat) (h : B ≤ w.heap.size) : ((w.alloc o).alloc (.cells #[] 108)).ownsRow B 108 2 (.slice (some ⟨w.heap.size + 1, 0, none⟩) 0 0) 0 (ints []) := by
  have hs : (w.alloc o).heap.size = w.heap.size + 1 := by simp
  have := twP_new (w.alloc o) B (by omega)
  rwa [hs] at this
theorem litP_new2 (w : World) (o : Obj) (r : Pt) : P2 ((w.alloc o).alloc (.cells #[.int .i64 r.1, .int .i64 r.2] 108)) (w.heap.size + 1) r := by
  have h := P2.new (w.alloc o) r 108
  have hs : (w.alloc o).heap.size = w.heap.size + 1 := by simp
  rwa [hs] at h
theorem litP_new3 (w : World) (o : Obj) (r : Pt) : P2 ((w.alloc (.cells #[.int .i64 r.1, .int .i64 r.2] 108)).alloc o) w.heap.size r :=
  P2.below (P2.new w r 108) ((Below.refl _ _).alloc (Nat.le_refl _) o)
theorem putP_row_is {w : World} {B n k m : Nat} {v : Value} {l L : List Pt} {r : Pt} (hn : n = l.length) (hk : k ≤ n) (hm : m = n - k) (hL : L = l.take k ++ r :: l.drop k) (h : FS 108 2 w B v (0 + k + 1 + m) ([] ++ (flatP l).take (k * 2) ++ encP r ++ (flatP l).drop (k * 2))) : PtS w B v L := by
  subst hL
  have e : (l.take k ++ r :: l.drop k).length = 0 + k + 1 + m := by simp; omega
  unfold PtS
  rw [e]
  rw [flatP_take, flatP_drop] at h
  have e2 : flatP (l.take k ++ r :: l.drop k) = [] ++ flatP (l.take k) ++ encP r ++ flatP (l.drop k) := by
    rw [flatP_appD]; simp [flatP]
  rw [e2]
  exact h
def hfI (b : Bool) : Int := if b = true then 0 else 1
theorem stHalf_any (x y : Int) (w : World) : Calls Try.prog 168 #[.int .i64 x, .int .i64 y] w fun e w' => e = .returned (.int .i64 (hfI (uwB (x, y)))) ∧ w = w' := by
  obtain ⟨r, hr⟩ : ∃ r, r = hfI (uwB (x, y)) := ⟨_, rfl⟩
  rw [← hr]
  unfold hfI at hr
  have HR := Lib.hid hr
  clear hr
  by_cases h1 : 0 < y
  · have HE := Lib.hid (show r = 0 by rw [HR.out, if_pos ((uw_at x y).2 (.inl h1))])
    go_enter Try.func168, Try.ntmps168
    go_wp2
    go_ret
    exact ⟨ret_i64 HE.out.symm, rfl⟩
  · by_cases h2 : y = 0
    · subst h2
      by_cases h3 : 0 < x
      · have HE := Lib.hid (show r = 0 by rw [HR.out, if_pos ((uw_at x 0).2 (.inr ⟨rfl, h3⟩))])
        go_enter Try.func168, Try.ntmps168
        go_wp2
        go_ret
        exact ⟨ret_i64 HE.out.symm, rfl⟩
      · have HE := Lib.hid (show r = 1 by rw [HR.out, if_neg (by rw [uw_at]; omega)])
        go_enter Try.func168, Try.ntmps168
        go_wp2
        go_ret
        exact ⟨ret_i64 HE.out.symm, rfl⟩
    · have hy : (y == 0) = false := by simpa using h2
      have HE := Lib.hid (show r = 1 by rw [HR.out, if_neg (by rw [uw_at]; omega)])
      go_enter Try.func168, Try.ntmps168
      go_wp2
      go_ret
      exact ⟨ret_i64 HE.out.symm, rfl⟩
set_option maxHeartbeats 1000000 in
theorem stAngle_any (p q : Pt) (w : World) (hp : Sm 400 p) (hq : Sm 400 q) : Calls Try.prog 141 #[.int .i64 p.1, .int .i64 p.2, .int .i64 q.1, .int .i64 q.2] w fun e w' => e = .returned (.bool (hfB uwB p q)) ∧ w = w' := by
  obtain ⟨b1, b2, b3⟩ := cr_bd hp hq
  obtain ⟨a, b⟩ := p
  obtain ⟨c, d⟩ := q
  have HP := Lib.hid (fun W => stHalf_any a b W)
  have HQ := Lib.hid (fun W => stHalf_any c d W)
  have HE := Lib.hid (show hfB uwB (a, b) (c, d) = if uwB (a, b) = uwB (c, d) then decide (0 < a * d - b * c) else uwB (a, b) from rfl)
  rw [HE.out]
  have hc : cr (a, b) (c, d) = a * d - b * c := rfl
  rw [hc] at b3
  simp only at b1 b2
  have q1 : IntKind.i64.wrap (a * d) = a * d := IntWalk.i64_in _ (by omega)
  have q2 : IntKind.i64.wrap (b * c) = b * c := IntWalk.i64_in _ (by omega)
  have q3 : IntKind.i64.wrap (a * d - b * c) = a * d - b * c := IntWalk.i64_in _ (by omega)
  generalize uwB (a, b) = f at HP ⊢
  generalize uwB (c, d) = g at HQ ⊢
  clear hp hq b1 b2 b3 HE hc
  show Calls Try.prog 141 #[.int .i64 a, .int .i64 b, .int .i64 c, .int .i64 d] w _
  cases f <;> cases g
  all_goals
    simp only [hfI, if_true, Bool.false_eq_true, if_false] at HP HQ
    simp only [if_true, Bool.false_eq_true, Bool.true_eq_false, if_false, reduceCtorEq]
    go_enter Try.func141, Try.ntmps141
    go_wp2_with fail
    refine (HP.out _).mono ?_
    rintro e w' ⟨rfl, rfl⟩
    go_wp2_with fail
    refine (HQ.out _).mono ?_
    rintro e w' ⟨rfl, rfl⟩
    first
      | (go_wp2_with fail
         refine (HP.out _).mono ?_
         rintro e w' ⟨rfl, rfl⟩
         go_wp2_with fail
         refine (HQ.out _).mono ?_
         rintro e w' ⟨rfl, rfl⟩
         go_wp2
         go_ret
         exact ⟨ret_bool (by first | rfl | (simp only [decide_eq_decide]; omega)), rfl⟩)
      | (go_wp2
         go_ret
         exact ⟨ret_bool (by first | rfl | (simp only [decide_eq_decide]; omega)), rfl⟩)
set_option maxHeartbeats 4000000 in
set_option maxRecDepth 100000 in
theorem stSides_any (w : World) (B : Nat) (v : Value) (l : List Tm) (h : RyS w B v l) (hl : ryB l = true) : Calls Try.prog 114 #[v] w fun e w' => GivesPt (duS l) w e w' := by
  obtain ⟨A2, cap2, rfl, -, hp2⟩ := RyS.parts h
  have HP2 := Lib.hid hp2
  obtain ⟨N, hN⟩ : ∃ N, N = l.length := ⟨_, rfl⟩
  have HN := Lib.hid hN
  have hz := ryB_le hl
  have HRT := Lib.hid (fun j (hj : j < l.length) => ryB_at hl hj)
  have HSM := Lib.hid (fun n (hn : n ≤ l.length) => show ∀ a ∈ insA uwB (sdL9 l) n, Sm 400 a from fun a ha => sdL_sm hl a (List.mem_of_mem_take ((insA_perm uwB (sdL9 l) n (by rw [sdL9_len]; exact hn)).mem_iff.1 ha)))
  have HQ := Lib.hid (fun (p q : Pt) (hp : Sm 400 p) (hq : Sm 400 q) (W : World) => show Calls Try.prog 141 #[.int .i64 p.1, .int .i64 p.2, .int .i64 q.1, .int .i64 q.2] W fun e w' => e = .returned (.bool (hfB uwB p q)) ∧ Gr W w' from (stAngle_any p q W hp hq).mono (by rintro e w' ⟨h, rfl⟩; exact ⟨h, gr0 _⟩))
  rw [← hN] at hz ⊢
  clear hp2 h hN hl
  go_enter Try.func114, Try.ntmps114
  go_wp2
  go_loopw [3, 11] (fun o i wr => ∃ n : Nat, n ≤ N ∧ i = .int .i64 n ∧ PtS wr w.heap.size o (insA uwB (sdL9 l) n) ∧ Below w.heap.size w wr ∧ Hid ((insA uwB (sdL9 l) n).length = 0 → o = .slice none 0 0)) (fun _ i _ => N - (intOf i).toNat)
  case atStart => exact ⟨0, by omega, rfl, FS.nil_ _ _ _ _, Below.refl _ _, Lib.hid fun _ => rfl⟩
  case round =>
    obtain ⟨n, hn, rfl, ho, hb, hnil⟩ := hrel
    by_cases hlt : n < N
    · have hnl : n < l.length := by rw [← HN.out]; exact hlt
      obtain ⟨gp, rfl, hc0⟩ := HP2.out n hnl
      have hc1 := X3.below hc0 hb
      obtain ⟨s, hs⟩ : ∃ s, s = insA uwB (sdL9 l) n := ⟨_, rfl⟩
      have hsl : s.length ≤ n := by rw [hs, insA_len]; exact Nat.le_refl _
      have HSS := Lib.hid (show ∀ a ∈ s, Sm 400 a by rw [hs]; exact HSM.out n (by omega))
      have hrt := HRT.out n hnl
      have HPS := Lib.hid (sdO_bd hrt)
      have HX0 := Lib.hid (show insA uwB (sdL9 l) (n + 1) = insB uwB s (sdO (td l n)) by rw [hs, ← pd_sdL hnl]; rfl)
      rw [← hs] at ho hnil
      obtain ⟨b1, b2⟩ := ry_bd hrt
      obtain ⟨p1, p2, p3, p4, -, p6, p7⟩ := ryT_parts hrt
      obtain ⟨a, b, c, ht⟩ : ∃ a b c, td l n = (a, b, c) := ⟨_, _, _, rfl⟩
      rw [ht] at hc1 b1 b2 p1 p2 p3 p4 p6 p7 HPS HX0
      dsimp only at hc1 b1 b2 p1 p2 p3 p4 p6 p7
      obtain ⟨px, hpx⟩ : ∃ px, px = c * b := ⟨_, rfl⟩
      obtain ⟨py, hpy⟩ : ∃ py, py = -c * a := ⟨_, rfl⟩
      have hsd : sdO (a, b, c) = (px, py) := by rw [hpx, hpy]; rfl
      rw [hsd] at HPS HX0
      have q1 : IntKind.i64.wrap (c * b) = px := by rw [hpx]; exact IntWalk.i64_in _ (by omega)
      have q2 : IntKind.i64.wrap (-c) = -c := IntWalk.i64_in _ (by omega)
      have q3 : IntKind.i64.wrap (-c * a) = py := by rw [hpy]; exact IntWalk.i64_in _ (by rw [Int.neg_mul]; omega)
      have HX := Lib.hid HX0.out
      have hT := T3.new wr (a, b, c) 39
      have hbA := hb.alloc hb.size (.cells #[.int .i64 a, .int .i64 b, .int .i64 c] 39)
      have hoA := FS.alloc ho (.cells #[.int .i64 a, .int .i64 b, .int .i64 c] 39)
      obtain ⟨m, hm⟩ : ∃ m, m = s.length := ⟨_, rfl⟩
      have HM := Lib.hid hm
      obtain ⟨A, cap, rfl, -, hps⟩ := PtS.parts hoA
      have HS := Lib.hid hps
      have HO := Lib.hid hoA
      obtain ⟨c0, c1, c2⟩ := hc1
      have hgl := cell_lt c0
      rw [← hm] at hsl ⊢
      clear hc0 hs ho hb hps hm ht hpx hpy hsd b1 b2 p1 p2 p3 p4 p6 p7 hrt HX0
      go_wp2
      generalize wr.alloc (.cells #[.int .i64 a, .int .i64 b, .int .i64 c] 39) = wA at hT hbA hoA HO HS ⊢
      have hgA : wr.heap.size < wA.heap.size := cell_lt hT.1
      obtain ⟨g0, g1, g2⟩ := T3.grown hT
      refine wp_region_quiet_grown (by kernel_rfl) (by kernel_rfl) ?_
      repeat (go_big_quiet_step ((fail)))
      refine wpQuiet_nil ?_
      intro _ hw'
      obtain ⟨⟨nq, osq⟩, hw''⟩ := hw'
      subst hw''
      have HB := Lib.hid (bel2 hbA (grB nq osq))
      have HO := Lib.hid (FS.below HO.out (grB nq osq))
      have HS := Lib.hid (show ∀ k, k < s.length → ∃ g, A = some ⟨g, 0, none⟩ ∧ X2 (grow (wA.drewN nq) osq) g (k * 2) (pd s k) from fun k hk => by
        obtain ⟨g, e, hx⟩ := HS.out k hk
        exact ⟨g, e, X2.below hx (grB nq osq)⟩)
      generalize grow (wA.drewN nq) osq = wB at HB HO HS ⊢
      clear hT hbA hoA g0 g1 g2 c0 c1 c2 hgl hgA q1 q2 q3
      go_wp2
      go_loopw [8] (fun i wq => ∃ W : World, W = wq ∧ ∃ k : Nat, k ≤ m ∧ i = .int .i64 k ∧ Hid (∀ j, j < k → j < s.length ∧ hfB uwB (pd s j) (px, py) = true) ∧ Hid (Gr wB wq)) (fun i _ => m - (intOf i).toNat)
      case atStart => exact ⟨_, rfl, 0, by omega, rfl, Lib.hid (by omega), Lib.hid (gr0 _)⟩
      case round =>
        obtain ⟨wq, rfl, k, hk, rfl, hlow, hgw⟩ := hrel
        by_cases hltk : k < m
        · have hkl : k < s.length := by rw [← HM.out]; exact hltk
          obtain ⟨g, rfl, hcs⟩ := HS.out k hkl
          obtain ⟨a0, a1⟩ := X2.grown (X2.below hcs hgw.out.below)
          have hcap : m ≤ cap := by
            rcases HO.out.2 with ⟨hx, -⟩ | ⟨g', cap', cur, hv, hB, hh, hn, hc, hs, ht⟩
            · cases hx
            · simp only [Value.slice.injEq, true_and] at hv
              obtain ⟨-, -, rfl⟩ := hv
              rw [HM.out]; exact hn
          have HQA := Lib.hid (fun W => show Calls Try.prog 141 #[.int .i64 (pd s k).1, .int .i64 (pd s k).2, .int .i64 px, .int .i64 py] W fun e w' => e = .returned (.bool (hfB uwB (pd s k) (px, py))) ∧ Gr W w' from HQ.out (pd s k) (px, py) (HSS.out _ (by rw [pd_eq s k hkl]; exact List.getElem_mem _)) HPS.out W)
          cases hq : hfB uwB (pd s k) (px, py)
          · rw [hq] at HQA
            have HK' := Lib.hid (show insB uwB s (px, py) = s.take k ++ (px, py) :: s.drop k from insB_at hlow.out (fun _ => hq))
            clear hq
            go_wp2_with fail
            refine wp_region_quiet_grown (by kernel_rfl) (by kernel_rfl) ?_
            repeat (go_big_quiet_step ((first | (go_at_call 141; refine Calls.grown_of (HQA.out _)))))
            refine wpQuiet_nil ?_
            intro _ hw'
            obtain ⟨⟨nq, osq⟩, hw''⟩ := hw'
            subst hw''
            have HXG := Lib.hid (hgw.out.trans ⟨nq, osq, rfl⟩)
            generalize grow (wq.drewN nq) osq = X at HXG ⊢
            clear a0 a1
            have HXB := Lib.hid (bel2 HB.out HXG.out.below)
            have HRX := Lib.hid (ptS_news rfl (FS.below HO.out HXG.out.below))
            have l1 : k ≤ cap := by omega
            have l3 : ¬ cap = 0 := by omega
            have hck : ¬ cap = k := by omega
            have hSX : S1 X X := Below.refl _ _
            go_wp2_with fail
            go_region_held3 (fun w' => S1 X w') (repeat' (first | with_reducible assumption | with_reducible refine S1.drew ?_ | with_reducible refine S1.drewN ?_ _ | with_reducible refine S1.alloc ?_ _)) (first | (refine step_app_sd (by rfl) (.tmp 47) (.tmp 50) (by rfl) X (.slice (some ⟨X.heap.size, 0, none⟩) 0 0) (0) [] (by rfl) (twP_new _ _ (Nat.le_refl _)) ⟨g, 0, none⟩ k _ ((flatP s).take (k * 2)) (by rfl) (by rw [List.length_take, flatP_len, ← HM.out] <;> omega) (preP_news HRX.out (S1.bel (by assumption)) _) (by omega) (by assumption) ?_; intro v1 w1 hown1 hS1 hk1) | (refine step_app_sd (by rfl) (.tmp 47) (.tmp 50) (by rfl) X (.slice (some ⟨X.heap.size, 0, none⟩) 0 0) (0) [] (by rfl) (World.ownsRow.alloc (twP_new _ _ (Nat.le_refl _)) _) ⟨g, 0, none⟩ k _ ((flatP s).take (k * 2)) (by rfl) (by rw [List.length_take, flatP_len, ← HM.out] <;> omega) (preP_news HRX.out (S1.bel (by assumption)) _) (by omega) (by assumption) ?_; intro v1 w1 hown1 hS1 hk1; have c51 := P2.kept (litP_new2 _ _ (px, py)) hk1 (by intro q hq; simp [Value.ownBlock] at hq; omega)) | (refine step_app_sd (by rfl) (.tmp 47) (.tmp 50) (by rfl) X (.slice (some ⟨X.heap.size + 1, 0, none⟩) 0 0) (0) [] (by rfl) (twP_new' _ _ _ (Nat.le_refl _)) ⟨g, 0, none⟩ k _ ((flatP s).take (k * 2)) (by rfl) (by rw [List.length_take, flatP_len, ← HM.out] <;> omega) (preP_news HRX.out (S1.bel (by assumption)) _) (by omega) (by assumption) ?_; intro v1 w1 hown1 hS1 hk1; have c51 := P2.kept (litP_new3 _ _ (px, py)) hk1 (by intro q hq; simp [Value.ownBlock] at hq; omega)) | (refine step_app_sd (by rfl) (.tmp 56) (.tmp 59) (by rfl) X v2 (0 + k + 1) ([] ++ ((flatP s).take (k * 2)) ++ encP (px, py)) (by rfl) hown2 ⟨g, k * 2, none⟩ (m - k) _ ((flatP s).drop (k * 2)) (by rfl) (by rw [List.length_drop, flatP_len, ← HM.out] <;> omega) (postP_news HRX.out (S1.bel (by assumption)) _) (by omega) (by assumption) ?_; intro v3 w3 hown3 hS3 hk3) | (refine step_app_sd (by rfl) (.tmp 51) (.tmp 55) (by rfl) X v1 (0 + k) ([] ++ ((flatP s).take (k * 2))) (by rfl) (by first | exact hown1 | exact World.ownsRow.alloc hown1 _) _ 1 _ (encP (px, py)) (by rfl) rfl (by first | exact P2.news c51 | exact P2.news (P2.new _ (px, py) _)) (by omega) (by assumption) ?_; intro v2 w2 hown2 hS2 hk2))
            all_goals
              have hb3 := bel2 HXB.out hS3
              have hrow := FS.base (zs := [] ++ ((flatP s).take (k * 2)) ++ encP (px, py) ++ ((flatP s).drop (k * 2))) hown3 HXB.out.size
              go_wp2
              go_roundw
              case rel => exact ⟨n + 1, by omega, by go_num, by rw [HX.out]; exact putP_row_is HM.out (by omega) (by omega) HK'.out hrow, hb3, Lib.hid (fun h => by rw [HX.out, HK'.out] at h; simp at h)⟩
              case measure => simp [intOf]; omega
          · have HL := Lib.hid (show ∀ j, j < k + 1 → j < s.length ∧ hfB uwB (pd s j) (px, py) = true from fun j hj => by
              rcases Nat.lt_or_ge j k with h | h
              · exact hlow.out j h
              · obtain rfl : j = k := by omega
                exact ⟨hkl, hq⟩)
            rw [hq] at HQA
            clear hq
            go_wp2_with fail
            refine wp_region_quiet_grown (by kernel_rfl) (by kernel_rfl) ?_
            repeat (go_big_quiet_step ((first | (go_at_call 141; refine Calls.grown_of (HQA.out _)))))
            refine wpQuiet_nil ?_
            intro _ hw'
            obtain ⟨⟨nq, osq⟩, hw''⟩ := hw'
            subst hw''
            go_wp2
            go_roundw
            case rel => exact ⟨_, rfl, k + 1, by omega, by go_num, HL, Lib.hid (hgw.out.trans ⟨_, _, rfl⟩)⟩
            case measure => simp [intOf]; omega
        · obtain rfl : k = m := by omega
          have HK' := Lib.hid (show insB uwB s (px, py) = s.take k ++ (px, py) :: s.drop k from insB_at hlow.out (fun h => by rw [← HM.out] at h; omega))
          go_wp2_with fail
          refine wp_region_quiet_grown (by kernel_rfl) (by kernel_rfl) ?_
          repeat (go_big_quiet_step ((fail)))
          refine wpQuiet_nil ?_
          intro _ hw'
          obtain ⟨⟨nq, osq⟩, hw''⟩ := hw'
          subst hw''
          have HXG := Lib.hid (hgw.out.trans ⟨nq, osq, rfl⟩)
          generalize grow (wq.drewN nq) osq = X at HXG ⊢
          have HXB := Lib.hid (bel2 HB.out HXG.out.below)
          have hSX : S1 X X := Below.refl _ _
          rcases HO.out.2 with ⟨hx, h0⟩ | ⟨g, cap', cur, hx, hB, hh, hnc, hc, hs, ht⟩
          · simp only [Value.slice.injEq] at hx
            obtain ⟨rfl, -, rfl⟩ := hx
            rw [← HM.out] at h0
            subst h0
            go_wp2_with fail
            go_region_held3 (fun w' => S1 X w') (repeat' (first | with_reducible assumption | with_reducible refine S1.drew ?_ | with_reducible refine S1.drewN ?_ _ | with_reducible refine S1.alloc ?_ _)) (first | (refine step_app_noneP (by rfl) (.tmp 47) (.tmp 50) (by rfl) X.heap.size (.slice (some ⟨X.heap.size, 0, none⟩) 0 0) 0 (ints []) (by rfl) (by first | exact twP_new _ _ (Nat.le_refl _) | exact World.ownsRow.alloc (twP_new _ _ (Nat.le_refl _)) _) (by rfl) ?_) | (refine step_app_noneP (by rfl) (.tmp 47) (.tmp 50) (by rfl) X.heap.size (.slice (some ⟨X.heap.size + 1, 0, none⟩) 0 0) 0 (ints []) (by rfl) (twP_new' _ _ _ (Nat.le_refl _)) (by rfl) ?_) | (refine step_app_sd (by rfl) (.tmp 51) (.tmp 55) (by rfl) X (.slice (some ⟨X.heap.size, 0, none⟩) 0 0) 0 [] (by rfl) (World.ownsRow.alloc (twP_new _ _ (Nat.le_refl _)) _) ⟨X.heap.size + 1, 0, none⟩ 1 1 (encP (px, py)) (by rfl) rfl (P2.news (litP_new2 _ _ (px, py))) (by omega) (by assumption) ?_; intro v2 w2 hown2 hS2 hk2) | (refine step_app_sd (by rfl) (.tmp 51) (.tmp 55) (by rfl) X (.slice (some ⟨X.heap.size + 1, 0, none⟩) 0 0) 0 [] (by rfl) (twP_new' _ _ _ (Nat.le_refl _)) ⟨X.heap.size, 0, none⟩ 1 1 (encP (px, py)) (by rfl) rfl (P2.news (litP_new3 _ _ (px, py))) (by omega) (by assumption) ?_; intro v2 w2 hown2 hS2 hk2) | (refine step_app_noneP (by rfl) (.tmp 56) (.tmp 59) (by rfl) X.heap.size v2 (0 + 1) _ (by rfl) hown2 (by rfl) ?_))
            all_goals
              go_wp2
              go_roundw
              case rel => exact ⟨n + 1, by omega, by go_num, by rw [HX.out, HK'.out, List.eq_nil_of_length_eq_zero HM.out.symm]; exact FS.base (zs := [] ++ encP (px, py)) hown2 HXB.out.size, bel2 HXB.out hS2, Lib.hid (fun h => by rw [HX.out, HK'.out] at h; simp at h)⟩
              case measure => simp [intOf]; omega
          · simp only [Value.slice.injEq, true_and] at hx
            obtain ⟨rfl, -, rfl⟩ := hx
            have HRX := Lib.hid (ptS_news rfl (FS.below HO.out HXG.out.below))
            rw [← HM.out] at hnc
            clear hh hc hs ht hB
            by_cases hc : cap = k
            · subst hc
              by_cases l3 : cap = 0
              · exfalso; have := hnil.out (by rw [← HM.out]; exact l3); simp at this
              · have l1 : cap ≤ cap := by omega
                go_wp2_with fail
                go_region_held3 (fun w' => S1 X w') (repeat' (first | with_reducible assumption | with_reducible refine S1.drew ?_ | with_reducible refine S1.drewN ?_ _ | with_reducible refine S1.alloc ?_ _)) (first | (refine step_app_sd (by rfl) (.tmp 47) (.tmp 50) (by rfl) X (.slice (some ⟨X.heap.size, 0, none⟩) 0 0) (0) [] (by rfl) (twP_new _ _ (Nat.le_refl _)) ⟨g, 0, none⟩ cap _ ((flatP s).take (cap * 2)) (by rfl) (by rw [List.length_take, flatP_len, ← HM.out] <;> omega) (preP_news HRX.out (S1.bel (by assumption)) _) (by omega) (by assumption) ?_; intro v1 w1 hown1 hS1 hk1) | (refine step_app_sd (by rfl) (.tmp 47) (.tmp 50) (by rfl) X (.slice (some ⟨X.heap.size, 0, none⟩) 0 0) (0) [] (by rfl) (World.ownsRow.alloc (twP_new _ _ (Nat.le_refl _)) _) ⟨g, 0, none⟩ cap _ ((flatP s).take (cap * 2)) (by rfl) (by rw [List.length_take, flatP_len, ← HM.out] <;> omega) (preP_news HRX.out (S1.bel (by assumption)) _) (by omega) (by assumption) ?_; intro v1 w1 hown1 hS1 hk1; have c51 := P2.kept (litP_new2 _ _ (px, py)) hk1 (by intro q hq; simp [Value.ownBlock] at hq; omega)) | (refine step_app_sd (by rfl) (.tmp 47) (.tmp 50) (by rfl) X (.slice (some ⟨X.heap.size + 1, 0, none⟩) 0 0) (0) [] (by rfl) (twP_new' _ _ _ (Nat.le_refl _)) ⟨g, 0, none⟩ cap _ ((flatP s).take (cap * 2)) (by rfl) (by rw [List.length_take, flatP_len, ← HM.out] <;> omega) (preP_news HRX.out (S1.bel (by assumption)) _) (by omega) (by assumption) ?_; intro v1 w1 hown1 hS1 hk1; have c51 := P2.kept (litP_new3 _ _ (px, py)) hk1 (by intro q hq; simp [Value.ownBlock] at hq; omega)) | (refine step_app_sd (by rfl) (.tmp 56) (.tmp 59) (by rfl) X v2 (0 + cap + 1) ([] ++ ((flatP s).take (cap * 2)) ++ encP (px, py)) (by rfl) hown2 ⟨g, 0, none⟩ (0) _ ((flatP s).drop (cap * 2)) (by rfl) (by rw [List.length_drop, flatP_len, ← HM.out] <;> omega) (nilP_news (List.drop_eq_nil_of_le (by rw [flatP_len, ← HM.out] <;> omega))) (by omega) (by assumption) ?_; intro v3 w3 hown3 hS3 hk3) | (refine step_app_sd (by rfl) (.tmp 51) (.tmp 55) (by rfl) X v1 (0 + cap) ([] ++ ((flatP s).take (cap * 2))) (by rfl) (by first | exact hown1 | exact World.ownsRow.alloc hown1 _) _ 1 _ (encP (px, py)) (by rfl) rfl (by first | exact P2.news c51 | exact P2.news (P2.new _ (px, py) _)) (by omega) (by assumption) ?_; intro v2 w2 hown2 hS2 hk2))
                all_goals
                  have hb3 := bel2 HXB.out hS3
                  have hrow := FS.base (zs := [] ++ ((flatP s).take (cap * 2)) ++ encP (px, py) ++ ((flatP s).drop (cap * 2))) hown3 HXB.out.size
                  go_wp2
                  go_roundw
                  case rel => exact ⟨n + 1, by omega, by go_num, by rw [HX.out]; exact putP_row_is HM.out (by omega) (by omega) HK'.out hrow, hb3, Lib.hid (fun h => by rw [HX.out, HK'.out] at h; simp at h)⟩
                  case measure => simp [intOf]; omega
            · have hck : ¬ cap = k := hc
              have l1 : k ≤ cap := by omega
              have l3 : ¬ cap = 0 := by omega
              go_wp2_with fail
              go_region_held3 (fun w' => S1 X w') (repeat' (first | with_reducible assumption | with_reducible refine S1.drew ?_ | with_reducible refine S1.drewN ?_ _ | with_reducible refine S1.alloc ?_ _)) (first | (refine step_app_sd (by rfl) (.tmp 47) (.tmp 50) (by rfl) X (.slice (some ⟨X.heap.size, 0, none⟩) 0 0) (0) [] (by rfl) (twP_new _ _ (Nat.le_refl _)) ⟨g, 0, none⟩ k _ ((flatP s).take (k * 2)) (by rfl) (by rw [List.length_take, flatP_len, ← HM.out] <;> omega) (preP_news HRX.out (S1.bel (by assumption)) _) (by omega) (by assumption) ?_; intro v1 w1 hown1 hS1 hk1) | (refine step_app_sd (by rfl) (.tmp 47) (.tmp 50) (by rfl) X (.slice (some ⟨X.heap.size, 0, none⟩) 0 0) (0) [] (by rfl) (World.ownsRow.alloc (twP_new _ _ (Nat.le_refl _)) _) ⟨g, 0, none⟩ k _ ((flatP s).take (k * 2)) (by rfl) (by rw [List.length_take, flatP_len, ← HM.out] <;> omega) (preP_news HRX.out (S1.bel (by assumption)) _) (by omega) (by assumption) ?_; intro v1 w1 hown1 hS1 hk1; have c51 := P2.kept (litP_new2 _ _ (px, py)) hk1 (by intro q hq; simp [Value.ownBlock] at hq; omega)) | (refine step_app_sd (by rfl) (.tmp 47) (.tmp 50) (by rfl) X (.slice (some ⟨X.heap.size + 1, 0, none⟩) 0 0) (0) [] (by rfl) (twP_new' _ _ _ (Nat.le_refl _)) ⟨g, 0, none⟩ k _ ((flatP s).take (k * 2)) (by rfl) (by rw [List.length_take, flatP_len, ← HM.out] <;> omega) (preP_news HRX.out (S1.bel (by assumption)) _) (by omega) (by assumption) ?_; intro v1 w1 hown1 hS1 hk1; have c51 := P2.kept (litP_new3 _ _ (px, py)) hk1 (by intro q hq; simp [Value.ownBlock] at hq; omega)) | (refine step_app_sd (by rfl) (.tmp 56) (.tmp 59) (by rfl) X v2 (0 + k + 1) ([] ++ ((flatP s).take (k * 2)) ++ encP (px, py)) (by rfl) hown2 ⟨g, k * 2, none⟩ (0) _ ((flatP s).drop (k * 2)) (by rfl) (by rw [List.length_drop, flatP_len, ← HM.out] <;> omega) (nilP_news (List.drop_eq_nil_of_le (by rw [flatP_len, ← HM.out] <;> omega))) (by omega) (by assumption) ?_; intro v3 w3 hown3 hS3 hk3) | (refine step_app_sd (by rfl) (.tmp 51) (.tmp 55) (by rfl) X v1 (0 + k) ([] ++ ((flatP s).take (k * 2))) (by rfl) (by first | exact hown1 | exact World.ownsRow.alloc hown1 _) _ 1 _ (encP (px, py)) (by rfl) rfl (by first | exact P2.news c51 | exact P2.news (P2.new _ (px, py) _)) (by omega) (by assumption) ?_; intro v2 w2 hown2 hS2 hk2))
              all_goals
                have hb3 := bel2 HXB.out hS3
                have hrow := FS.base (zs := [] ++ ((flatP s).take (k * 2)) ++ encP (px, py) ++ ((flatP s).drop (k * 2))) hown3 HXB.out.size
                go_wp2
                go_roundw
                case rel => exact ⟨n + 1, by omega, by go_num, by rw [HX.out]; exact putP_row_is HM.out (by omega) (by omega) HK'.out hrow, hb3, Lib.hid (fun h => by rw [HX.out, HK'.out] at h; simp at h)⟩
                case measure => simp [intOf]; omega
    · obtain rfl : n = N := by omega
      have e : insA uwB (sdL9 l) n = duS l := by rw [HN.out]; rfl
      rw [e] at ho
      go_wp2
      go_ret
      exact ⟨_, rfl, ho, hb⟩
end Go.Proofs.Ythegkifhbgopoaa

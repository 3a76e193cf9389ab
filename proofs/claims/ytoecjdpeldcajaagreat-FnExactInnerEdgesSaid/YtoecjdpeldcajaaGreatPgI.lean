/-
  Points put in order, each one once, in the model: what the call returns.
  Condition: the slice reads as the list that is named.
-/
import Derived.Test.YtoecjdpeldcajaaGreatPgC
import Derived.Lib.AppendZeros
namespace Go.Proofs.YtoecjdpeldcajaaGreat
set_option linter.unusedSimpArgs false
set_option linter.unusedVariables false
open Go.ChangeShapes Go.WideShapes Go.ChangeAt Go.RowKit
open Go.Sort (grow)

theorem insP_at (p : Pt) : ∀ (k : Nat) (l : List Pt), (∀ j, j < k → j < l.length ∧ bfB (pd l j) p = true) → (k < l.length → bfB (pd l k) p = false) →
    insP p l = if k < l.length ∧ pd l k = p then l else l.take k ++ p :: l.drop k
  | 0, [], _, _ => by simp [insP]
  | 0, a :: r, _, h2 => by
    have h := h2 (by simp)
    simp only [pd, List.getD_cons_zero] at h ⊢
    unfold insP
    rw [h]
    by_cases h3 : a = p <;> simp [h3]
  | k + 1, [], h1, _ => by have := (h1 0 (by omega)).1; simp at this
  | k + 1, a :: r, h1, h2 => by
    have h0 := (h1 0 (by omega)).2
    simp only [pd, List.getD_cons_zero] at h0
    unfold insP
    rw [if_pos h0, insP_at p k r (fun j hj => by have := h1 (j + 1) (by omega); simpa [pd] using this) (fun hk => by have := h2 (by simpa using hk); simpa [pd] using this)]
    by_cases h3 : k < r.length ∧ pd r k = p
    · have h4 : k + 1 < (a :: r).length ∧ pd (a :: r) (k + 1) = p := by simpa [pd] using h3
      rw [if_pos h3, if_pos h4]
    · have h4 : ¬ (k + 1 < (a :: r).length ∧ pd (a :: r) (k + 1) = p) := by simpa [pd] using h3
      rw [if_neg h3, if_neg h4]; simp
theorem onesP (zs : List Int) : ∀ u ∈ ints zs, u.oneCell' = true := fun u hu => by
  simp only [ints, List.mem_map] at hu
  obtain ⟨y, -, rfl⟩ := hu
  rfl
/-- A point's block at b, and nothing that lay there when x was has changed. -/
abbrev S4P (x : World) (b : Nat) (r : Pt) (w : World) : Prop := w.cell? ⟨b, 0, none⟩ = some (.int .i64 r.1) ∧ w.cell? ⟨b, 1, none⟩ = some (.int .i64 r.2) ∧ Below x.heap.size x w
theorem S4P.of {x w : World} {b : Nat} {r : Pt} (h : P2 x b r) (hb : Below x.heap.size x w) : S4P x b r w := by
  obtain ⟨h1, h2⟩ := P2.below h hb
  exact ⟨h1, h2, hb⟩
theorem S4P.drew {x w : World} {b : Nat} {r : Pt} (h : S4P x b r w) : S4P x b r w.drew := ⟨h.1, h.2.1, h.2.2.drew⟩
theorem S4P.drewN {x w : World} {b : Nat} {r : Pt} (h : S4P x b r w) (n : Nat) : S4P x b r (w.drewN n) := ⟨h.1, h.2.1, belN h.2.2 n⟩
theorem S4P.alloc {x w : World} {b : Nat} {r : Pt} (h : S4P x b r w) (o : Obj) : S4P x b r (w.alloc o) := by
  obtain ⟨h1, h2⟩ := P2.below ⟨h.1, h.2.1⟩ ((Below.refl _ w).alloc (Nat.le_refl _) o)
  exact ⟨h1, h2, h.2.2.alloc h.2.2.size o⟩
theorem S4P.bel {x w : World} {b : Nat} {r : Pt} (h : S4P x b r w) : Below x.heap.size x w := h.2.2
theorem P2.kept {w w' : World} {g : Nat} {r : Pt} {v : Value} (h : P2 w g r) (hk : ∀ p u, w.cell? p = some u → (∀ k, v.ownBlock = some k → p.block ≠ k) → w'.cell? p = some u) (hne : ∀ k, v.ownBlock = some k → g ≠ k) : P2 w' g r :=
  ⟨hk _ _ h.1 hne, hk _ _ h.2 hne⟩
theorem P2.news {w : World} {g : Nat} {r : Pt} (h : P2 w g r) : ∀ j u, (ints (encP r))[j]? = some u → w.cell? ((⟨g, 0, none⟩ : Addr).add j) = some u := fun j u hu => by
  have e : (⟨g, 0, none⟩ : Addr).add j = ⟨g, j, none⟩ := by unfold Addr.add; split <;> simp_all
  rw [e]
  match j, hu with
  | 0, hu => rw [h.1]; exact hu
  | 1, hu => rw [h.2]; exact hu
  | j + 2, hu => simp [ints, encP] at hu
theorem preP_news {x w : World} {g : Nat} {zs : List Int} (h : ∀ j u, (ints zs)[j]? = some u → x.cell? ((⟨g, 0, none⟩ : Addr).add j) = some u) (hb : Below x.heap.size x w) (q : Nat) : ∀ j u, (ints (zs.take q))[j]? = some u → w.cell? ((⟨g, 0, none⟩ : Addr).add j) = some u := fun j u hu => by
  refine box_o (h j u ?_) hb
  unfold ints at hu ⊢
  rw [List.map_take] at hu
  rcases Nat.lt_or_ge j q with hj | hj
  · rwa [List.getElem?_take_of_lt hj] at hu
  · rw [List.getElem?_eq_none (by simp; omega)] at hu; cases hu
theorem postP_news {x w : World} {g : Nat} {zs : List Int} (h : ∀ j u, (ints zs)[j]? = some u → x.cell? ((⟨g, 0, none⟩ : Addr).add j) = some u) (hb : Below x.heap.size x w) (q : Nat) : ∀ j u, (ints (zs.drop q))[j]? = some u → w.cell? ((⟨g, q, none⟩ : Addr).add j) = some u := fun j u hu => by
  have e : (⟨g, q, none⟩ : Addr).add j = (⟨g, 0, none⟩ : Addr).add (q + j) := by
    unfold Addr.add
    by_cases hj : j = 0
    · subst hj
      by_cases hq : q = 0
      · subst hq; rfl
      · simp [hq]
    · rw [if_neg hj, if_neg (by omega)]; simp
  rw [e]
  refine box_o (h (q + j) u ?_) hb
  unfold ints at hu ⊢
  rw [List.map_drop, List.getElem?_drop] at hu
  exact hu
theorem nilP_news {w : World} {ad : Addr} {zs : List Int} (h : zs = []) : ∀ j u, (ints zs)[j]? = some u → w.cell? (ad.add j) = some u := fun j u hu => by
  subst h; simp [ints] at hu
theorem ptS_news {w : World} {B g cap n : Nat} {l : List Pt} (hn : n = l.length) (h : PtS w B (.slice (some ⟨g, 0, none⟩) n cap) l) : ∀ j u, (ints (flatP l))[j]? = some u → w.cell? ((⟨g, 0, none⟩ : Addr).add j) = some u := fun j u hu => by
  subst hn
  have hj : j < (ints (flatP l)).length := by
    rcases Nat.lt_or_ge j (ints (flatP l)).length with h' | h'
    · exact h'
    · rw [List.getElem?_eq_none h'] at hu; cases hu
  have hj' : j < l.length * 2 := by simpa [ints, flatP_len] using hj
  have e : (⟨g, 0, none⟩ : Addr).add j = ⟨g, j, none⟩ := by unfold Addr.add; split <;> simp_all
  rw [e, World.ownsRow.cellAt h j hj', hu]
theorem step_app_pt {w : World} {ops : Array Oper} {o : Oper} {a : Act} {K : Act → World → Prop} {Q : Exit → Act → World → Prop} {E : Prop} (hgd : o.guard = none) (s t : Operand)
    (ho : o.op = .call { callee := .builtin .append, args := #[s, t], argTypes := #[72, 72] })
    (x : World) (b : Nat) (r : Pt) (hT : P2 x b r) (v : Value) (n : Nat) (xs : List Int) (hs : a.eval s = v) (hown : w.ownsRow x.heap.size 55 2 v n (ints xs))
    (ad : Addr) (m c : Nat) (news : List Int) (hx : a.eval t = .slice (some ad) m c) (hl : news.length = m * 2) (hnews : ∀ j u, (ints news)[j]? = some u → w.cell? (ad.add j) = some u)
    (hb : n + m ≤ 1000000) (hS : S4P x b r w)
    (h : ∀ v' w', w'.ownsRow x.heap.size 55 2 v' (n + m) (ints (xs ++ news)) → S4P x b r w' → (∀ p u, w.cell? p = some u → (∀ k, v.ownBlock = some k → p.block ≠ k) → w'.cell? p = some u) → K (a.put o.dst v') w') :
    if Region.wanted o (yielded ops a.tmps) = true then Oper.wp Tryz.prog o a w K Q else E := by
  obtain ⟨i0, hi, hz0, hz1, hz2⟩ := info_parts infoPoint
  refine step_append_own hgd s t 72 ho x.heap.size 55 i0 (.agg #[.int .i64 0, .int .i64 0]) 2 16 Tryz.underlying72 hi hz0 hz1 hz2 rfl (by decide) v n (ints xs) hs hown ad m c (ints news) hx (by simp [ints, hl]) hnews (onesP news) (by unfold maxLen; omega) (by omega) hS.2.2.size ?_
  intro v' w' h1 h2 h3
  refine h v' w' ?_ (S4P.of hT (hS.2.2.grown h2 hS.2.2.size fun k hk => (World.ownsRow.lt hown k hk).1)) (fun p u hc hne => h2.cell hc (fun e => hne _ e.symm rfl))
  unfold ints at h1 ⊢
  rw [List.map_append]
  exact h1
theorem step_app_noneP {w : World} {ops : Array Oper} {o : Oper} {a : Act} {K : Act → World → Prop} {Q : Exit → Act → World → Prop} {E : Prop} (hgd : o.guard = none) (s t : Operand)
    (ho : o.op = .call { callee := .builtin .append, args := #[s, t], argTypes := #[72, 72] })
    (B : Nat) (v : Value) (n : Nat) (xs : List Value) (hs : a.eval s = v) (hown : w.ownsRow B 55 2 v n xs) (hx : a.eval t = .slice none 0 0)
    (h : K (a.put o.dst v) w) : if Region.wanted o (yielded ops a.tmps) = true then Oper.wp Tryz.prog o a w K Q else E := by
  obtain ⟨i0, hi, hz0, hz1, hz2⟩ := info_parts infoPoint
  have hw : Region.wanted o (yielded ops a.tmps) = true := by simp [Region.wanted, hgd]
  rw [if_pos hw]
  exact Lib.wp_append_run w s t 72 72 ho v (.slice none 0 0) hs hx v w (run_append_owned_none w B 72 o.type 55 i0 2 Tryz.underlying72 hi v n xs hown) h
theorem twP_new (w : World) (B : Nat) (h : B ≤ w.heap.size) : (w.alloc (.cells #[] 55)).ownsRow B 55 2 (.slice (some ⟨w.heap.size, 0, none⟩) 0 0) 0 (ints []) := World.ownsRow_made w #[] 0 h (Nat.zero_le _) rfl
theorem twP_new' (w : World) (o : Obj) (B : Nat) (h : B ≤ w.heap.size) : ((w.alloc o).alloc (.cells #[] 55)).ownsRow B 55 2 (.slice (some ⟨w.heap.size + 1, 0, none⟩) 0 0) 0 (ints []) := by
  have hs : (w.alloc o).heap.size = w.heap.size + 1 := by simp
  have := twP_new (w.alloc o) B (by omega)
  rwa [hs] at this
theorem litP_new2 (w : World) (o : Obj) (r : Pt) : P2 ((w.alloc o).alloc (.cells #[.int .i64 r.1, .int .i64 r.2] 55)) (w.heap.size + 1) r := by
  have h := P2.new (w.alloc o) r 55
  have hs : (w.alloc o).heap.size = w.heap.size + 1 := by simp
  rwa [hs] at h
theorem litP_new3 (w : World) (o : Obj) (r : Pt) : P2 ((w.alloc (.cells #[.int .i64 r.1, .int .i64 r.2] 55)).alloc o) w.heap.size r :=
  P2.below (P2.new w r 55) ((Below.refl _ _).alloc (Nat.le_refl _) o)
theorem putP_row_is {w : World} {B n k m : Nat} {v : Value} {l L : List Pt} {r : Pt} (hn : n = l.length) (hk : k ≤ n) (hm : m = n - k) (hL : L = l.take k ++ r :: l.drop k) (h : FS 55 2 w B v (0 + k + 1 + m) ([] ++ (flatP l).take (k * 2) ++ encP r ++ (flatP l).drop (k * 2))) : PtS w B v L := by
  subst hL
  have e : (l.take k ++ r :: l.drop k).length = 0 + k + 1 + m := by simp; omega
  unfold PtS
  rw [e]
  rw [flatP_take, flatP_drop] at h
  have e2 : flatP (l.take k ++ r :: l.drop k) = [] ++ flatP (l.take k) ++ encP r ++ flatP (l.drop k) := by
    rw [flatP_app]; simp [flatP]
  rw [e2]
  exact h
set_option maxHeartbeats 4000000 in
set_option maxRecDepth 100000 in
theorem pySorted_any (w : World) (B : Nat) (v : Value) (l : List Pt) (h : PtS w B v l) (hz : l.length ≤ 100000) : Calls Tryz.prog 87 #[v] w fun e w' => GivesPt (srtP l) w e w' := by
  obtain ⟨A2, cap2, rfl, -, hp2⟩ := PtS.parts h
  have HP2 := Lib.hid hp2
  obtain ⟨N, hN⟩ : ∃ N, N = l.length := ⟨_, rfl⟩
  have HN := Lib.hid hN
  have HQ := Lib.hid (fun s t W => pyBefore_any s t W)
  rw [← hN] at hz ⊢
  clear hp2 h hN
  go_enter Tryz.func87, Tryz.ntmps87
  go_wp2
  go_loopw [3, 9] (fun o i wr => ∃ n : Nat, n ≤ N ∧ i = .int .i64 n ∧ PtS wr w.heap.size o (srtP (l.take n)) ∧ Below w.heap.size w wr ∧ Hid ((srtP (l.take n)).length = 0 → o = .slice none 0 0)) (fun _ i _ => N - (intOf i).toNat)
  case atStart => exact ⟨0, by omega, rfl, FS.nil_ _ _ _ _, Below.refl _ _, Lib.hid fun _ => rfl⟩
  case round =>
    obtain ⟨n, hn, rfl, ho, hb, hnil⟩ := hrel
    by_cases hlt : n < N
    · have hnl : n < l.length := by rw [← HN.out]; exact hlt
      obtain ⟨gp, rfl, hc0⟩ := HP2.out n hnl
      have hc1 := X2.below hc0 hb
      obtain ⟨p, hp⟩ : ∃ p, p = pd l n := ⟨_, rfl⟩
      obtain ⟨s, hs⟩ : ∃ s, s = srtP (l.take n) := ⟨_, rfl⟩
      have HX := Lib.hid (show srtP (l.take (n + 1)) = insP p s by rw [take_pd l n hnl, srtP_snoc, ← hs, ← hp])
      have hsl : s.length ≤ n := by rw [hs]; exact Nat.le_trans (srtP_le _) (by simp; omega)
      rw [← hp] at hc1
      rw [← hs] at ho hnil
      have hT := P2.new wr p 55
      have hbA := hb.alloc hb.size (.cells #[.int .i64 p.1, .int .i64 p.2] 55)
      have hoA := FS.alloc ho (.cells #[.int .i64 p.1, .int .i64 p.2] 55)
      have hwr := hb.size
      obtain ⟨m, hm⟩ : ∃ m, m = s.length := ⟨_, rfl⟩
      have HM := Lib.hid hm
      have HPUT := Lib.hid (fun k h1 h2 => insP_at p k s h1 h2)
      obtain ⟨A, cap, rfl, -, hps⟩ := PtS.parts hoA
      have HS := Lib.hid hps
      have HO := Lib.hid hoA
      obtain ⟨c0, c1⟩ := hc1
      rw [← hm] at hsl ⊢
      clear hc0 hp hs ho hb hps hm
      go_wp2
      generalize wr.alloc (.cells #[.int .i64 p.1, .int .i64 p.2] 55) = wA at hT hbA hoA HO HS ⊢
      obtain ⟨gk, hgk⟩ : ∃ gk, gk = wr.heap.size := ⟨_, rfl⟩
      rw [← hgk] at hT ⊢
      have HT := Lib.hid hT
      have HB := Lib.hid hbA
      clear hT hbA hoA hgk c0 c1
      go_loopw [6] (fun i wq => ∃ W : World, W = wq ∧ ∃ k : Nat, k ≤ m ∧ i = .int .i64 k ∧ Hid (∀ j, j < k → j < s.length ∧ bfB (pd s j) p = true) ∧ Hid (Gr wA wq)) (fun i _ => m - (intOf i).toNat)
      case atStart => exact ⟨_, rfl, 0, by omega, rfl, Lib.hid (by omega), Lib.hid (gr0 _)⟩
      case round =>
        obtain ⟨wq, rfl, k, hk, rfl, hlow, hgw⟩ := hrel
        obtain ⟨t0, t1⟩ := P2.grown (P2.below HT.out hgw.out.below)
        by_cases hltk : k < m
        · have hkl : k < s.length := by rw [← HM.out]; exact hltk
          obtain ⟨g, rfl, hcs⟩ := HS.out k hkl
          obtain ⟨a0, a1⟩ := X2.grown (X2.below hcs hgw.out.below)
          have hcap : m ≤ cap := by
            rcases HO.out.2 with ⟨hx, -⟩ | ⟨g', cap', cur, hv, hB, hh, hn, hc, hs, ht⟩
            · cases hx
            · simp only [Value.slice.injEq, true_and] at hv
              obtain ⟨-, -, rfl⟩ := hv
              rw [HM.out]; exact hn
          cases hq : bfB (pd s k) p
          · have HQ' := Lib.hid (fun W => show Calls Tryz.prog 100 #[ptV (pd s k), ptV p] W fun e w' => e = .returned (.bool false) ∧ Gr W w' by rw [← hq]; exact HQ.out _ _ W)
            have HK := Lib.hid (HPUT.out k hlow.out (fun _ => hq))
            clear hq
            go_wp2_with fail
            refine wp_region_quiet_grown (by kernel_rfl) (by kernel_rfl) ?_
            repeat (go_big_quiet_step ((first | (go_at_call 100; refine Calls.grown_of (HQ'.out _)))))
            refine wpQuiet_nil ?_
            intro _ hw'
            obtain ⟨⟨nq, osq⟩, hw''⟩ := hw'
            subst hw''
            have HYG := Lib.hid (hgw.out.trans ⟨nq, osq, rfl⟩)
            generalize grow (wq.drewN nq) osq = Y at HYG ⊢
            clear t0 t1 a0 a1
            obtain ⟨t0, t1⟩ := P2.grown (P2.below HT.out HYG.out.below)
            obtain ⟨a0, a1⟩ := X2.grown (X2.below hcs HYG.out.below)
            cases hsm : eqB (pd s k) p
            · have he : ∀ W, Sem.run Tryz.prog (binOp .eql 55 (ptV (pd s k)) (ptV p)) W = .ok (.bool false) W := fun W => by rw [eqPt]; exact congrArg (fun b => Result.ok (Value.bool b) W) hsm
              have HK' := Lib.hid (show insP p s = s.take k ++ p :: s.drop k by rw [HK.out, if_neg (by rintro ⟨-, e⟩; rw [(eqB_iff _ _).2 e] at hsm; cases hsm)])
              clear hsm HK
              go_wp2_with fail
              refine wp_region_quiet_grown (by kernel_rfl) (by kernel_rfl) ?_
              repeat (go_big_quiet_step ((fail)))
              refine wpQuiet_nil ?_
              intro _ hw'
              obtain ⟨⟨nq, osq⟩, hw''⟩ := hw'
              subst hw''
              have HXG := Lib.hid (HYG.out.trans ⟨nq, osq, rfl⟩)
              generalize grow (Y.drewN nq) osq = X at HXG ⊢
              clear t0 t1 a0 a1
              have HXB := Lib.hid (bel2 HB.out HXG.out.below)
              have HTX := Lib.hid (P2.below HT.out HXG.out.below)
              have HRX := Lib.hid (ptS_news rfl (FS.below HO.out HXG.out.below))
              have l1 : k ≤ cap := by omega
              have l3 : ¬ cap = 0 := by omega
              have hck : ¬ cap = k := by omega
              have hSX : S4P X gk p X := S4P.of HTX.out (Below.refl _ _)
              obtain ⟨t0, t1⟩ := HTX.out
              go_wp2_with fail
              go_region_held3 (fun w' => S4P X gk p w') (repeat' (first | with_reducible assumption | with_reducible refine S4P.drew ?_ | with_reducible refine S4P.drewN ?_ _ | with_reducible refine S4P.alloc ?_ _)) (first | (refine step_app_pt (by rfl) (.tmp 39) (.tmp 42) (by rfl) X gk p HTX.out (.slice (some ⟨X.heap.size, 0, none⟩) 0 0) (0) [] (by rfl) (twP_new _ _ (Nat.le_refl _)) ⟨g, 0, none⟩ k _ ((flatP s).take (k * 2)) (by rfl) (by rw [List.length_take, flatP_len, ← HM.out]; omega) (preP_news HRX.out (S4P.bel (b := gk) (r := p) (by assumption)) _) (by omega) (by assumption) ?_; intro v1 w1 hown1 hS1 hk1) | (refine step_app_pt (by rfl) (.tmp 39) (.tmp 42) (by rfl) X gk p HTX.out (.slice (some ⟨X.heap.size, 0, none⟩) 0 0) (0) [] (by rfl) (World.ownsRow.alloc (twP_new _ _ (Nat.le_refl _)) _) ⟨g, 0, none⟩ k _ ((flatP s).take (k * 2)) (by rfl) (by rw [List.length_take, flatP_len, ← HM.out]; omega) (preP_news HRX.out (S4P.bel (b := gk) (r := p) (by assumption)) _) (by omega) (by assumption) ?_; intro v1 w1 hown1 hS1 hk1; have c51 := P2.kept (litP_new2 _ _ p) hk1 (by intro q hq; simp [Value.ownBlock] at hq; omega)) | (refine step_app_pt (by rfl) (.tmp 39) (.tmp 42) (by rfl) X gk p HTX.out (.slice (some ⟨X.heap.size + 1, 0, none⟩) 0 0) (0) [] (by rfl) (twP_new' _ _ _ (Nat.le_refl _)) ⟨g, 0, none⟩ k _ ((flatP s).take (k * 2)) (by rfl) (by rw [List.length_take, flatP_len, ← HM.out]; omega) (preP_news HRX.out (S4P.bel (b := gk) (r := p) (by assumption)) _) (by omega) (by assumption) ?_; intro v1 w1 hown1 hS1 hk1; have c51 := P2.kept (litP_new3 _ _ p) hk1 (by intro q hq; simp [Value.ownBlock] at hq; omega)) | (refine step_app_pt (by rfl) (.tmp 46) (.tmp 49) (by rfl) X gk p HTX.out v2 (0 + k + 1) ([] ++ ((flatP s).take (k * 2)) ++ encP p) (by rfl) hown2 ⟨g, k * 2, none⟩ (m - k) _ ((flatP s).drop (k * 2)) (by rfl) (by rw [List.length_drop, flatP_len, ← HM.out]; omega) (postP_news HRX.out (S4P.bel (b := gk) (r := p) (by assumption)) _) (by omega) (by assumption) ?_; intro v3 w3 hown3 hS3 hk3) | (refine step_app_pt (by rfl) (.tmp 43) (.tmp 45) (by rfl) X gk p HTX.out v1 (0 + k) ([] ++ ((flatP s).take (k * 2))) (by rfl) (by first | exact hown1 | exact World.ownsRow.alloc hown1 _) _ 1 _ (encP p) (by rfl) rfl (by first | exact P2.news c51 | exact P2.news (P2.new _ p _)) (by omega) (by assumption) ?_; intro v2 w2 hown2 hS2 hk2))
              all_goals
                have hb3 := bel2 HXB.out hS3.2.2
                have hrow := FS.base (zs := [] ++ ((flatP s).take (k * 2)) ++ encP p ++ ((flatP s).drop (k * 2))) hown3 HXB.out.size
                go_wp2
                go_roundw
                case rel => exact ⟨n + 1, by omega, by go_num, by rw [HX.out]; exact putP_row_is HM.out (by omega) (by omega) HK'.out hrow, hb3, Lib.hid (fun h => by rw [HX.out, HK'.out] at h; simp at h)⟩
                case measure => simp [intOf]; omega
            · have he : ∀ W, Sem.run Tryz.prog (binOp .eql 55 (ptV (pd s k)) (ptV p)) W = .ok (.bool true) W := fun W => by rw [eqPt]; exact congrArg (fun b => Result.ok (Value.bool b) W) hsm
              have HK' := Lib.hid (show insP p s = s by rw [HK.out, if_pos ⟨hkl, (eqB_iff _ _).1 hsm⟩])
              clear hsm HK
              go_wp2_with fail
              refine wp_region_quiet_grown (by kernel_rfl) (by kernel_rfl) ?_
              repeat (go_big_quiet_step ((fail)))
              refine wpQuiet_nil ?_
              intro _ hw'
              obtain ⟨⟨nq, osq⟩, hw''⟩ := hw'
              subst hw''
              have HXG := Lib.hid (HYG.out.trans ⟨nq, osq, rfl⟩)
              generalize grow (Y.drewN nq) osq = X at HXG ⊢
              clear t0 t1 a0 a1
              go_wp2
              go_roundw
              case rel => exact ⟨n + 1, by omega, by go_num, by rw [HX.out, HK'.out]; have := FS.below HO.out HXG.out.below; unfold PtS; rw [← HM.out] at this ⊢; exact this, bel2 HB.out HXG.out.below, Lib.hid (fun h => by rw [HX.out, HK'.out, ← HM.out] at h; omega)⟩
              case measure => simp [intOf]; omega
          · have HL := Lib.hid (show ∀ j, j < k + 1 → j < s.length ∧ bfB (pd s j) p = true from fun j hj => by
              rcases Nat.lt_or_ge j k with h | h
              · exact hlow.out j h
              · obtain rfl : j = k := by omega
                exact ⟨hkl, hq⟩)
            have HQ' := Lib.hid (fun W => show Calls Tryz.prog 100 #[ptV (pd s k), ptV p] W fun e w' => e = .returned (.bool true) ∧ Gr W w' by rw [← hq]; exact HQ.out _ _ W)
            clear hq
            go_wp2_with fail
            refine wp_region_quiet_grown (by kernel_rfl) (by kernel_rfl) ?_
            repeat (go_big_quiet_step ((first | (go_at_call 100; refine Calls.grown_of (HQ'.out _)))))
            refine wpQuiet_nil ?_
            intro _ hw'
            obtain ⟨⟨nq, osq⟩, hw''⟩ := hw'
            subst hw''
            go_wp2
            go_roundw
            case rel => exact ⟨_, rfl, k + 1, by omega, by go_num, HL, Lib.hid (hgw.out.trans ⟨_, _, rfl⟩)⟩
            case measure => simp [intOf]; omega
        · obtain rfl : k = m := by omega
          have HK := Lib.hid (HPUT.out k hlow.out (fun h => by rw [← HM.out] at h; omega))
          have HK' := Lib.hid (show insP p s = s.take k ++ p :: s.drop k by rw [HK.out, if_neg (by rw [← HM.out]; omega)])
          clear HK
          go_wp2_with fail
          refine wp_region_quiet_grown (by kernel_rfl) (by kernel_rfl) ?_
          repeat (go_big_quiet_step ((fail)))
          refine wpQuiet_nil ?_
          intro _ hw'
          obtain ⟨⟨nq, osq⟩, hw''⟩ := hw'
          subst hw''
          have HYG := Lib.hid (hgw.out.trans ⟨nq, osq, rfl⟩)
          generalize grow (wq.drewN nq) osq = Y at HYG ⊢
          clear t0 t1
          obtain ⟨t0, t1⟩ := P2.grown (P2.below HT.out HYG.out.below)
          go_wp2_with fail
          refine wp_region_quiet_grown (by kernel_rfl) (by kernel_rfl) ?_
          repeat (go_big_quiet_step ((fail)))
          refine wpQuiet_nil ?_
          intro _ hw'
          obtain ⟨⟨nq, osq⟩, hw''⟩ := hw'
          subst hw''
          have HXG := Lib.hid (HYG.out.trans ⟨nq, osq, rfl⟩)
          generalize grow (Y.drewN nq) osq = X at HXG ⊢
          clear t0 t1
          have HXB := Lib.hid (bel2 HB.out HXG.out.below)
          have HTX := Lib.hid (P2.below HT.out HXG.out.below)
          have hSX : S4P X gk p X := S4P.of HTX.out (Below.refl _ _)
          rcases HO.out.2 with ⟨hx, h0⟩ | ⟨g, cap', cur, hx, hB, hh, hnc, hc, hs, ht⟩
          · simp only [Value.slice.injEq] at hx
            obtain ⟨rfl, -, rfl⟩ := hx
            rw [← HM.out] at h0
            subst h0
            obtain ⟨t0, t1⟩ := HTX.out
            go_wp2_with fail
            go_region_held3 (fun w' => S4P X gk p w') (repeat' (first | with_reducible assumption | with_reducible refine S4P.drew ?_ | with_reducible refine S4P.drewN ?_ _ | with_reducible refine S4P.alloc ?_ _)) (first | (refine step_app_noneP (by rfl) (.tmp 39) (.tmp 42) (by rfl) X.heap.size (.slice (some ⟨X.heap.size, 0, none⟩) 0 0) 0 (ints []) (by rfl) (by first | exact twP_new _ _ (Nat.le_refl _) | exact World.ownsRow.alloc (twP_new _ _ (Nat.le_refl _)) _) (by rfl) ?_) | (refine step_app_noneP (by rfl) (.tmp 39) (.tmp 42) (by rfl) X.heap.size (.slice (some ⟨X.heap.size + 1, 0, none⟩) 0 0) 0 (ints []) (by rfl) (twP_new' _ _ _ (Nat.le_refl _)) (by rfl) ?_) | (refine step_app_pt (by rfl) (.tmp 43) (.tmp 45) (by rfl) X gk p HTX.out (.slice (some ⟨X.heap.size, 0, none⟩) 0 0) 0 [] (by rfl) (World.ownsRow.alloc (twP_new _ _ (Nat.le_refl _)) _) ⟨X.heap.size + 1, 0, none⟩ 1 1 (encP p) (by rfl) rfl (P2.news (litP_new2 _ _ p)) (by omega) (by assumption) ?_; intro v2 w2 hown2 hS2 hk2) | (refine step_app_pt (by rfl) (.tmp 43) (.tmp 45) (by rfl) X gk p HTX.out (.slice (some ⟨X.heap.size + 1, 0, none⟩) 0 0) 0 [] (by rfl) (twP_new' _ _ _ (Nat.le_refl _)) ⟨X.heap.size, 0, none⟩ 1 1 (encP p) (by rfl) rfl (P2.news (litP_new3 _ _ p)) (by omega) (by assumption) ?_; intro v2 w2 hown2 hS2 hk2) | (refine step_app_noneP (by rfl) (.tmp 46) (.tmp 49) (by rfl) X.heap.size v2 (0 + 1) _ (by rfl) hown2 (by rfl) ?_))
            all_goals
              go_wp2
              go_roundw
              case rel => exact ⟨n + 1, by omega, by go_num, by rw [HX.out, HK'.out, List.eq_nil_of_length_eq_zero HM.out.symm]; exact FS.base (zs := [] ++ encP p) hown2 HXB.out.size, bel2 HXB.out hS2.2.2, Lib.hid (fun h => by rw [HX.out, HK'.out] at h; simp at h)⟩
              case measure => simp [intOf]; omega
          · simp only [Value.slice.injEq, true_and] at hx
            obtain ⟨rfl, -, rfl⟩ := hx
            have HRX := Lib.hid (ptS_news rfl (FS.below HO.out HXG.out.below))
            rw [← HM.out] at hnc
            clear hh hc hs ht hB
            by_cases hc : cap = k
            · subst hc
              by_cases l3 : cap = 0
              · exfalso; have := hnil.out (by rw [← HM.out]; exact l3); simp at this
              · have l1 : cap ≤ cap := by omega
                obtain ⟨t0, t1⟩ := HTX.out
                go_wp2_with fail
                go_region_held3 (fun w' => S4P X gk p w') (repeat' (first | with_reducible assumption | with_reducible refine S4P.drew ?_ | with_reducible refine S4P.drewN ?_ _ | with_reducible refine S4P.alloc ?_ _)) (first | (refine step_app_pt (by rfl) (.tmp 39) (.tmp 42) (by rfl) X gk p HTX.out (.slice (some ⟨X.heap.size, 0, none⟩) 0 0) (0) [] (by rfl) (twP_new _ _ (Nat.le_refl _)) ⟨g, 0, none⟩ cap _ ((flatP s).take (cap * 2)) (by rfl) (by rw [List.length_take, flatP_len, ← HM.out]; omega) (preP_news HRX.out (S4P.bel (b := gk) (r := p) (by assumption)) _) (by omega) (by assumption) ?_; intro v1 w1 hown1 hS1 hk1) | (refine step_app_pt (by rfl) (.tmp 39) (.tmp 42) (by rfl) X gk p HTX.out (.slice (some ⟨X.heap.size, 0, none⟩) 0 0) (0) [] (by rfl) (World.ownsRow.alloc (twP_new _ _ (Nat.le_refl _)) _) ⟨g, 0, none⟩ cap _ ((flatP s).take (cap * 2)) (by rfl) (by rw [List.length_take, flatP_len, ← HM.out]; omega) (preP_news HRX.out (S4P.bel (b := gk) (r := p) (by assumption)) _) (by omega) (by assumption) ?_; intro v1 w1 hown1 hS1 hk1; have c51 := P2.kept (litP_new2 _ _ p) hk1 (by intro q hq; simp [Value.ownBlock] at hq; omega)) | (refine step_app_pt (by rfl) (.tmp 39) (.tmp 42) (by rfl) X gk p HTX.out (.slice (some ⟨X.heap.size + 1, 0, none⟩) 0 0) (0) [] (by rfl) (twP_new' _ _ _ (Nat.le_refl _)) ⟨g, 0, none⟩ cap _ ((flatP s).take (cap * 2)) (by rfl) (by rw [List.length_take, flatP_len, ← HM.out]; omega) (preP_news HRX.out (S4P.bel (b := gk) (r := p) (by assumption)) _) (by omega) (by assumption) ?_; intro v1 w1 hown1 hS1 hk1; have c51 := P2.kept (litP_new3 _ _ p) hk1 (by intro q hq; simp [Value.ownBlock] at hq; omega)) | (refine step_app_pt (by rfl) (.tmp 46) (.tmp 49) (by rfl) X gk p HTX.out v2 (0 + cap + 1) ([] ++ ((flatP s).take (cap * 2)) ++ encP p) (by rfl) hown2 ⟨g, 0, none⟩ (0) _ ((flatP s).drop (cap * 2)) (by rfl) (by rw [List.length_drop, flatP_len, ← HM.out]; omega) (nilP_news (List.drop_eq_nil_of_le (by rw [flatP_len, ← HM.out]; omega))) (by omega) (by assumption) ?_; intro v3 w3 hown3 hS3 hk3) | (refine step_app_pt (by rfl) (.tmp 43) (.tmp 45) (by rfl) X gk p HTX.out v1 (0 + cap) ([] ++ ((flatP s).take (cap * 2))) (by rfl) (by first | exact hown1 | exact World.ownsRow.alloc hown1 _) _ 1 _ (encP p) (by rfl) rfl (by first | exact P2.news c51 | exact P2.news (P2.new _ p _)) (by omega) (by assumption) ?_; intro v2 w2 hown2 hS2 hk2))
                all_goals
                  have hb3 := bel2 HXB.out hS3.2.2
                  have hrow := FS.base (zs := [] ++ ((flatP s).take (cap * 2)) ++ encP p ++ ((flatP s).drop (cap * 2))) hown3 HXB.out.size
                  go_wp2
                  go_roundw
                  case rel => exact ⟨n + 1, by omega, by go_num, by rw [HX.out]; exact putP_row_is HM.out (by omega) (by omega) HK'.out hrow, hb3, Lib.hid (fun h => by rw [HX.out, HK'.out] at h; simp at h)⟩
                  case measure => simp [intOf]; omega
            · have hck : ¬ cap = k := hc
              have l1 : k ≤ cap := by omega
              have l3 : ¬ cap = 0 := by omega
              obtain ⟨t0, t1⟩ := HTX.out
              go_wp2_with fail
              go_region_held3 (fun w' => S4P X gk p w') (repeat' (first | with_reducible assumption | with_reducible refine S4P.drew ?_ | with_reducible refine S4P.drewN ?_ _ | with_reducible refine S4P.alloc ?_ _)) (first | (refine step_app_pt (by rfl) (.tmp 39) (.tmp 42) (by rfl) X gk p HTX.out (.slice (some ⟨X.heap.size, 0, none⟩) 0 0) (0) [] (by rfl) (twP_new _ _ (Nat.le_refl _)) ⟨g, 0, none⟩ k _ ((flatP s).take (k * 2)) (by rfl) (by rw [List.length_take, flatP_len, ← HM.out]; omega) (preP_news HRX.out (S4P.bel (b := gk) (r := p) (by assumption)) _) (by omega) (by assumption) ?_; intro v1 w1 hown1 hS1 hk1) | (refine step_app_pt (by rfl) (.tmp 39) (.tmp 42) (by rfl) X gk p HTX.out (.slice (some ⟨X.heap.size, 0, none⟩) 0 0) (0) [] (by rfl) (World.ownsRow.alloc (twP_new _ _ (Nat.le_refl _)) _) ⟨g, 0, none⟩ k _ ((flatP s).take (k * 2)) (by rfl) (by rw [List.length_take, flatP_len, ← HM.out]; omega) (preP_news HRX.out (S4P.bel (b := gk) (r := p) (by assumption)) _) (by omega) (by assumption) ?_; intro v1 w1 hown1 hS1 hk1; have c51 := P2.kept (litP_new2 _ _ p) hk1 (by intro q hq; simp [Value.ownBlock] at hq; omega)) | (refine step_app_pt (by rfl) (.tmp 39) (.tmp 42) (by rfl) X gk p HTX.out (.slice (some ⟨X.heap.size + 1, 0, none⟩) 0 0) (0) [] (by rfl) (twP_new' _ _ _ (Nat.le_refl _)) ⟨g, 0, none⟩ k _ ((flatP s).take (k * 2)) (by rfl) (by rw [List.length_take, flatP_len, ← HM.out]; omega) (preP_news HRX.out (S4P.bel (b := gk) (r := p) (by assumption)) _) (by omega) (by assumption) ?_; intro v1 w1 hown1 hS1 hk1; have c51 := P2.kept (litP_new3 _ _ p) hk1 (by intro q hq; simp [Value.ownBlock] at hq; omega)) | (refine step_app_pt (by rfl) (.tmp 46) (.tmp 49) (by rfl) X gk p HTX.out v2 (0 + k + 1) ([] ++ ((flatP s).take (k * 2)) ++ encP p) (by rfl) hown2 ⟨g, k * 2, none⟩ (0) _ ((flatP s).drop (k * 2)) (by rfl) (by rw [List.length_drop, flatP_len, ← HM.out]; omega) (nilP_news (List.drop_eq_nil_of_le (by rw [flatP_len, ← HM.out]; omega))) (by omega) (by assumption) ?_; intro v3 w3 hown3 hS3 hk3) | (refine step_app_pt (by rfl) (.tmp 43) (.tmp 45) (by rfl) X gk p HTX.out v1 (0 + k) ([] ++ ((flatP s).take (k * 2))) (by rfl) (by first | exact hown1 | exact World.ownsRow.alloc hown1 _) _ 1 _ (encP p) (by rfl) rfl (by first | exact P2.news c51 | exact P2.news (P2.new _ p _)) (by omega) (by assumption) ?_; intro v2 w2 hown2 hS2 hk2))
              all_goals
                have hb3 := bel2 HXB.out hS3.2.2
                have hrow := FS.base (zs := [] ++ ((flatP s).take (k * 2)) ++ encP p ++ ((flatP s).drop (k * 2))) hown3 HXB.out.size
                go_wp2
                go_roundw
                case rel => exact ⟨n + 1, by omega, by go_num, by rw [HX.out]; exact putP_row_is HM.out (by omega) (by omega) HK'.out hrow, hb3, Lib.hid (fun h => by rw [HX.out, HK'.out] at h; simp at h)⟩
                case measure => simp [intOf]; omega
    · obtain rfl : n = N := by omega
      rw [show l.take n = l by rw [HN.out, List.take_length]] at ho
      go_wp2
      go_ret
      exact ⟨_, rfl, ho, hb⟩
end Go.Proofs.YtoecjdpeldcajaaGreat

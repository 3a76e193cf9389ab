/-
  Points put in order, each one once, in the model: what the call returns.
  Condition: the slice reads as the list that is named.
-/
import Derived.Test.YtamejfeaniokfaaPgS
import Derived.Lib.AppendZeros
import Derived.Deep.AppendLies
namespace Go.Proofs.Ytamejfeaniokfaa
set_option linter.unusedSimpArgs false
set_option linter.unusedVariables false
open Go.ChangeShapes Go.WideShapes Go.ChangeAt Go.RowKit
open Go.Sort (grow)

theorem insP_at (p : Pt) : ∀ (k : Nat) (l : List Pt), (∀ j, j < k → j < l.length ∧ bfB (pd l j) p = true) → (k < l.length → bfB (pd l k) p = false) →
    insP p l = if k < l.length ∧ pd l k = p then l else l.take k ++ p :: l.drop k
  | 0, [], _, _ => by simp [insP]
  | 0, a :: r, _, h2 => by
    have h := h2 (by simp)
    simp only [pd, List.getD_cons_zero] at h ⊢
    unfold insP
    rw [h]
    by_cases h3 : a = p <;> simp [h3]
  | k + 1, [], h1, _ => by have := (h1 0 (by omega)).1; simp at this
  | k + 1, a :: r, h1, h2 => by
    have h0 := (h1 0 (by omega)).2
    simp only [pd, List.getD_cons_zero] at h0
    unfold insP
    rw [if_pos h0, insP_at p k r (fun j hj => by have := h1 (j + 1) (by omega); simpa [pd] using this) (fun hk => by have := h2 (by simpa using hk); simpa [pd] using this)]
    by_cases h3 : k < r.length ∧ pd r k = p
    · have h4 : k + 1 < (a :: r).length ∧ pd (a :: r) (k + 1) = p := by simpa [pd] using h3
      rw [if_pos h3, if_pos h4]
    · have h4 : ¬ (k + 1 < (a :: r).length ∧ pd (a :: r) (k + 1) = p) := by simpa [pd] using h3
      rw [if_neg h3, if_neg h4]; simp
theorem onesP (zs : List Int) : ∀ u ∈ ints zs, u.oneCell' = true := fun u hu => by
  simp only [ints, List.mem_map] at hu
  obtain ⟨y, -, rfl⟩ := hu
  rfl
/-- A point's block at b, and nothing that lay there when x was has changed. -/
abbrev S4P (x : World) (b : Nat) (r : Pt) (w : World) : Prop := w.cell? ⟨b, 0, none⟩ = some (.int .i64 r.1) ∧ w.cell? ⟨b, 1, none⟩ = some (.int .i64 r.2) ∧ Below x.heap.size x w
theorem S4P.of {x w : World} {b : Nat} {r : Pt} (h : P2 x b r) (hb : Below x.heap.size x w) : S4P x b r w := by
  obtain ⟨h1, h2⟩ := P2.below h hb
  exact ⟨h1, h2, hb⟩
theorem S4P.drew {x w : World} {b : Nat} {r : Pt} (h : S4P x b r w) : S4P x b r w.drew := ⟨h.1, h.2.1, h.2.2.drew⟩
theorem S4P.drewN {x w : World} {b : Nat} {r : Pt} (h : S4P x b r w) (n : Nat) : S4P x b r (w.drewN n) := ⟨h.1, h.2.1, belN h.2.2 n⟩
theorem S4P.alloc {x w : World} {b : Nat} {r : Pt} (h : S4P x b r w) (o : Obj) : S4P x b r (w.alloc o) := by
  obtain ⟨h1, h2⟩ := P2.below ⟨h.1, h.2.1⟩ ((Below.refl _ w).alloc (Nat.le_refl _) o)
  exact ⟨h1, h2, h.2.2.alloc h.2.2.size o⟩
theorem S4P.bel {x w : World} {b : Nat} {r : Pt} (h : S4P x b r w) : Below x.heap.size x w := h.2.2
theorem P2.kept {w w' : World} {g : Nat} {r : Pt} {v : Value} (h : P2 w g r) (hk : ∀ p u, w.cell? p = some u → (∀ k, v.ownBlock = some k → p.block ≠ k) → w'.cell? p = some u) (hne : ∀ k, v.ownBlock = some k → g ≠ k) : P2 w' g r :=
  ⟨hk _ _ h.1 hne, hk _ _ h.2 hne⟩
theorem P2.news {w : World} {g : Nat} {r : Pt} (h : P2 w g r) : ∀ j u, (ints (encP r))[j]? = some u → w.cell? ((⟨g, 0, none⟩ : Addr).add j) = some u := fun j u hu => by
  have e : (⟨g, 0, none⟩ : Addr).add j = ⟨g, j, none⟩ := by unfold Addr.add; split <;> simp_all
  rw [e]
  match j, hu with
  | 0, hu => rw [h.1]; exact hu
  | 1, hu => rw [h.2]; exact hu
  | j + 2, hu => simp [ints, encP] at hu
theorem preP_news {x w : World} {g : Nat} {zs : List Int} (h : ∀ j u, (ints zs)[j]? = some u → x.cell? ((⟨g, 0, none⟩ : Addr).add j) = some u) (hb : Below x.heap.size x w) (q : Nat) : ∀ j u, (ints (zs.take q))[j]? = some u → w.cell? ((⟨g, 0, none⟩ : Addr).add j) = some u := fun j u hu => by
  refine box_o (h j u ?_) hb
  unfold ints at hu ⊢
  rw [List.map_take] at hu
  rcases Nat.lt_or_ge j q with hj | hj
  · rwa [List.getElem?_take_of_lt hj] at hu
  · rw [List.getElem?_eq_none (by simp; omega)] at hu; cases hu
theorem postP_news {x w : World} {g : Nat} {zs : List Int} (h : ∀ j u, (ints zs)[j]? = some u → x.cell? ((⟨g, 0, none⟩ : Addr).add j) = some u) (hb : Below x.heap.size x w) (q : Nat) : ∀ j u, (ints (zs.drop q))[j]? = some u → w.cell? ((⟨g, q, none⟩ : Addr).add j) = some u := fun j u hu => by
  have e : (⟨g, q, none⟩ : Addr).add j = (⟨g, 0, none⟩ : Addr).add (q + j) := by
    unfold Addr.add
    by_cases hj : j = 0
    · subst hj
      by_cases hq : q = 0
      · subst hq; rfl
      · simp [hq]
    · rw [if_neg hj, if_neg (by omega)]; simp
  rw [e]
  refine box_o (h (q + j) u ?_) hb
  unfold ints at hu ⊢
  rw [List.map_drop, List.getElem?_drop] at hu
  exact hu
theorem nilP_news {w : World} {ad : Addr} {zs : List Int} (h : zs = []) : ∀ j u, (ints zs)[j]? = some u → w.cell? (ad.add j) = some u := fun j u hu => by
  subst h; simp [ints] at hu
theorem ptS_news {w : World} {B g cap n : Nat} {l : List Pt} (hn : n = l.length) (h : PtS w B (.slice (some ⟨g, 0, none⟩) n cap) l) : ∀ j u, (ints (flatP l))[j]? = some u → w.cell? ((⟨g, 0, none⟩ : Addr).add j) = some u := fun j u hu => by
  subst hn
  have hj : j < (ints (flatP l)).length := by
    rcases Nat.lt_or_ge j (ints (flatP l)).length with h' | h'
    · exact h'
    · rw [List.getElem?_eq_none h'] at hu; cases hu
  have hj' : j < l.length * 2 := by simpa [ints, flatP_len] using hj
  have e : (⟨g, 0, none⟩ : Addr).add j = ⟨g, j, none⟩ := by unfold Addr.add; split <;> simp_all
  rw [e, World.ownsRow.cellAt h j hj', hu]
theorem step_app_pt {w : World} {ops : Array Oper} {o : Oper} {a : Act} {K : Act → World → Prop} {Q : Exit → Act → World → Prop} {E : Prop} (hgd : o.guard = none) (s t : Operand)
    (ho : o.op = .call { callee := .builtin .append, args := #[s, t], argTypes := #[23, 23] })
    (x : World) (b : Nat) (r : Pt) (hT : P2 x b r) (v : Value) (n : Nat) (xs : List Int) (hs : a.eval s = v) (hown : w.ownsRow x.heap.size 35 2 v n (ints xs))
    (ad : Addr) (m c : Nat) (news : List Int) (hx : a.eval t = .slice (some ad) m c) (hl : news.length = m * 2) (hnews : ∀ j u, (ints news)[j]? = some u → w.cell? (ad.add j) = some u)
    (hb : n + m ≤ 1000000) (hS : S4P x b r w)
    (h : ∀ v' w', w'.ownsRow x.heap.size 35 2 v' (n + m) (ints (xs ++ news)) → S4P x b r w' → (∀ p u, w.cell? p = some u → (∀ k, v.ownBlock = some k → p.block ≠ k) → w'.cell? p = some u) → K (a.put o.dst v') w') :
    if Region.wanted o (yielded ops a.tmps) = true then Oper.wp Try.prog o a w K Q else E := by
  obtain ⟨i0, hi, hz0, hz1, hz2⟩ := info_parts infoPoint
  refine step_append_own hgd s t 23 ho x.heap.size 35 i0 (.agg #[.int .i64 0, .int .i64 0]) 2 16 Try.underlying23 hi hz0 hz1 hz2 rfl (by decide) v n (ints xs) hs hown ad m c (ints news) hx (by simp [ints, hl]) hnews (onesP news) (by unfold maxLen; omega) (by omega) hS.2.2.size ?_
  intro v' w' h1 h2 h3
  refine h v' w' ?_ (S4P.of hT (hS.2.2.grown h2 hS.2.2.size fun k hk => (World.ownsRow.lt hown k hk).1)) (fun p u hc hne => h2.cell hc (fun e => hne _ e.symm rfl))
  unfold ints at h1 ⊢
  rw [List.map_append]
  exact h1
theorem step_app_noneP {w : World} {ops : Array Oper} {o : Oper} {a : Act} {K : Act → World → Prop} {Q : Exit → Act → World → Prop} {E : Prop} (hgd : o.guard = none) (s t : Operand)
    (ho : o.op = .call { callee := .builtin .append, args := #[s, t], argTypes := #[23, 23] })
    (B : Nat) (v : Value) (n : Nat) (xs : List Value) (hs : a.eval s = v) (hown : w.ownsRow B 35 2 v n xs) (hx : a.eval t = .slice none 0 0)
    (h : K (a.put o.dst v) w) : if Region.wanted o (yielded ops a.tmps) = true then Oper.wp Try.prog o a w K Q else E := by
  obtain ⟨i0, hi, hz0, hz1, hz2⟩ := info_parts infoPoint
  have hw : Region.wanted o (yielded ops a.tmps) = true := by simp [Region.wanted, hgd]
  rw [if_pos hw]
  exact Lib.wp_append_run w s t 23 23 ho v (.slice none 0 0) hs hx v w (run_append_owned_none w B 23 o.type 35 i0 2 Try.underlying23 hi v n xs hown) h
theorem twP_new (w : World) (B : Nat) (h : B ≤ w.heap.size) : (w.alloc (.cells #[] 35)).ownsRow B 35 2 (.slice (some ⟨w.heap.size, 0, none⟩) 0 0) 0 (ints []) := World.ownsRow_made w #[] 0 h (Nat.zero_le _) rfl
theorem twP_new' (w : World) (o : Obj) (B : Nat) (h : B ≤ w.heap.size) : ((w.alloc o).alloc (.cells #[] 35)).ownsRow B 35 2 (.slice (some ⟨w.heap.size + 1, 0, none⟩) 0 0) 0 (ints []) := by
  have hs : (w.alloc o).heap.size = w.heap.size + 1 := by simp
  have := twP_new (w.alloc o) B (by omega)
  rwa [hs] at this
theorem litP_new2 (w : World) (o : Obj) (r : Pt) : P2 ((w.alloc o).alloc (.cells #[.int .i64 r.1, .int .i64 r.2] 35)) (w.heap.size + 1) r := by
  have h := P2.new (w.alloc o) r 35
  have hs : (w.alloc o).heap.size = w.heap.size + 1 := by simp
  rwa [hs] at h
theorem litP_new3 (w : World) (o : Obj) (r : Pt) : P2 ((w.alloc (.cells #[.int .i64 r.1, .int .i64 r.2] 35)).alloc o) w.heap.size r :=
  P2.below (P2.new w r 35) ((Below.refl _ _).alloc (Nat.le_refl _) o)
theorem putP_row_is {w : World} {B n k m : Nat} {v : Value} {l L : List Pt} {r : Pt} (hn : n = l.length) (hk : k ≤ n) (hm : m = n - k) (hL : L = l.take k ++ r :: l.drop k) (h : FS 35 2 w B v (0 + k + 1 + m) ([] ++ (flatP l).take (k * 2) ++ encP r ++ (flatP l).drop (k * 2))) : PtS w B v L := by
  subst hL
  have e : (l.take k ++ r :: l.drop k).length = 0 + k + 1 + m := by simp; omega
  unfold PtS
  rw [e]
  rw [flatP_take, flatP_drop] at h
  have e2 : flatP (l.take k ++ r :: l.drop k) = [] ++ flatP (l.take k) ++ encP r ++ flatP (l.drop k) := by
    rw [flatP_app]; simp [flatP]
  rw [e2]
  exact h
set_option maxHeartbeats 4000000 in
set_option maxRecDepth 100000 in
theorem pySorted_any (w : World) (B : Nat) (v : Value) (l : List Pt) (h : PtS w B v l) (hz : l.length ≤ 100000) : Calls Try.prog 71 #[v] w fun e w' => GivesPt (srtP l) w e w' := by
  obtain ⟨A2, cap2, rfl, -, hp2⟩ := PtS.parts h
  have HP2 := Lib.hid hp2
  obtain ⟨N, hN⟩ : ∃ N, N = l.length := ⟨_, rfl⟩
  have HN := Lib.hid hN
  have HQ := Lib.hid (fun s t W => pyBefore_any s t W)
  rw [← hN] at hz ⊢
  clear hp2 h hN
  go_enter Try.func71, Try.ntmps71
  go_wp2
  go_loopw [3, 9] (fun o i wr => ∃ n : Nat, n ≤ N ∧ i = .int .i64 n ∧ PtS wr w.heap.size o (srtP (l.take n)) ∧ Below w.heap.size w wr ∧ Hid ((srtP (l.take n)).length = 0 → o = .slice none 0 0)) (fun _ i _ => N - (intOf i).toNat)
  case atStart => exact ⟨0, by omega, rfl, FS.nil_ _ _ _ _, Below.refl _ _, Lib.hid fun _ => rfl⟩
  case round =>
    obtain ⟨n, hn, rfl, ho, hb, hnil⟩ := hrel
    by_cases hlt : n < N
    · have hnl : n < l.length := by rw [← HN.out]; exact hlt
      obtain ⟨gp, rfl, hc0⟩ := HP2.out n hnl
      have hc1 := X2.below hc0 hb
      obtain ⟨p, hp⟩ : ∃ p, p = pd l n := ⟨_, rfl⟩
      obtain ⟨s, hs⟩ : ∃ s, s = srtP (l.take n) := ⟨_, rfl⟩
      have HX := Lib.hid (show srtP (l.take (n + 1)) = insP p s by rw [take_pd l n hnl, srtP_snoc, ← hs, ← hp])
      have hsl : s.length ≤ n := by rw [hs]; exact Nat.le_trans (srtP_le _) (by simp; omega)
      rw [← hp] at hc1
      rw [← hs] at ho hnil
      have hT := P2.new wr p 35
      have hbA := hb.alloc hb.size (.cells #[.int .i64 p.1, .int .i64 p.2] 35)
      have hoA := FS.alloc ho (.cells #[.int .i64 p.1, .int .i64 p.2] 35)
      have hwr := hb.size
      obtain ⟨m, hm⟩ : ∃ m, m = s.length := ⟨_, rfl⟩
      have HM := Lib.hid hm
      have HPUT := Lib.hid (fun k h1 h2 => insP_at p k s h1 h2)
      obtain ⟨A, cap, rfl, -, hps⟩ := PtS.parts hoA
      have HS := Lib.hid hps
      have HO := Lib.hid hoA
      obtain ⟨c0, c1⟩ := hc1
      rw [← hm] at hsl ⊢
      clear hc0 hp hs ho hb hps hm
      go_wp2
      generalize wr.alloc (.cells #[.int .i64 p.1, .int .i64 p.2] 35) = wA at hT hbA hoA HO HS ⊢
      obtain ⟨gk, hgk⟩ : ∃ gk, gk = wr.heap.size := ⟨_, rfl⟩
      rw [← hgk] at hT ⊢
      have HT := Lib.hid hT
      have HB := Lib.hid hbA
      clear hT hbA hoA hgk c0 c1
      go_loopw [6] (fun i wq => ∃ W : World, W = wq ∧ ∃ k : Nat, k ≤ m ∧ i = .int .i64 k ∧ Hid (∀ j, j < k → j < s.length ∧ bfB (pd s j) p = true) ∧ Hid (Gr wA wq)) (fun i _ => m - (intOf i).toNat)
      case atStart => exact ⟨_, rfl, 0, by omega, rfl, Lib.hid (by omega), Lib.hid (gr0 _)⟩
      case round =>
        obtain ⟨wq, rfl, k, hk, rfl, hlow, hgw⟩ := hrel
        obtain ⟨t0, t1⟩ := P2.grown (P2.below HT.out hgw.out.below)
        by_cases hltk : k < m
        · have hkl : k < s.length := by rw [← HM.out]; exact hltk
          obtain ⟨g, rfl, hcs⟩ := HS.out k hkl
          obtain ⟨a0, a1⟩ := X2.grown (X2.below hcs hgw.out.below)
          have hcap : m ≤ cap := by
            rcases HO.out.2 with ⟨hx, -⟩ | ⟨g', cap', cur, hv, hB, hh, hn, hc, hs, ht⟩
            · cases hx
            · simp only [Value.slice.injEq, true_and] at hv
              obtain ⟨-, -, rfl⟩ := hv
              rw [HM.out]; exact hn
          cases hq : bfB (pd s k) p
          · have HQ' := Lib.hid (fun W => show Calls Try.prog 86 #[ptV (pd s k), ptV p] W fun e w' => e = .returned (.bool false) ∧ Gr W w' by rw [← hq]; exact HQ.out _ _ W)
            have HK := Lib.hid (HPUT.out k hlow.out (fun _ => hq))
            clear hq
            go_wp2_with fail
            refine wp_region_quiet_grown (by kernel_rfl) (by kernel_rfl) ?_
            repeat (go_big_quiet_step ((first | (go_at_call 86; refine Calls.grown_of (HQ'.out _)))))
            refine wpQuiet_nil ?_
            intro _ hw'
            obtain ⟨⟨nq, osq⟩, hw''⟩ := hw'
            subst hw''
            have HYG := Lib.hid (hgw.out.trans ⟨nq, osq, rfl⟩)
            generalize grow (wq.drewN nq) osq = Y at HYG ⊢
            clear t0 t1 a0 a1
            obtain ⟨t0, t1⟩ := P2.grown (P2.below HT.out HYG.out.below)
            obtain ⟨a0, a1⟩ := X2.grown (X2.below hcs HYG.out.below)
            cases hsm : eqB (pd s k) p
            · have he : ∀ W, Sem.run Try.prog (binOp .eql 35 (ptV (pd s k)) (ptV p)) W = .ok (.bool false) W := fun W => by rw [eqPt]; exact congrArg (fun b => Result.ok (Value.bool b) W) hsm
              have HK' := Lib.hid (show insP p s = s.take k ++ p :: s.drop k by rw [HK.out, if_neg (by rintro ⟨-, e⟩; rw [(eqB_iff _ _).2 e] at hsm; cases hsm)])
              clear hsm HK
              go_wp2_with fail
              refine wp_region_quiet_grown (by kernel_rfl) (by kernel_rfl) ?_
              repeat (go_big_quiet_step ((fail)))
              refine wpQuiet_nil ?_
              intro _ hw'
              obtain ⟨⟨nq, osq⟩, hw''⟩ := hw'
              subst hw''
              have HXG := Lib.hid (HYG.out.trans ⟨nq, osq, rfl⟩)
              generalize grow (Y.drewN nq) osq = X at HXG ⊢
              clear t0 t1 a0 a1
              have HXB := Lib.hid (bel2 HB.out HXG.out.below)
              have HTX := Lib.hid (P2.below HT.out HXG.out.below)
              have HRX := Lib.hid (ptS_news rfl (FS.below HO.out HXG.out.below))
              have l1 : k ≤ cap := by omega
              have l3 : ¬ cap = 0 := by omega
              have hck : ¬ cap = k := by omega
              have hSX : S4P X gk p X := S4P.of HTX.out (Below.refl _ _)
              obtain ⟨t0, t1⟩ := HTX.out
              go_wp2_with fail
              go_region_held3 (fun w' => S4P X gk p w') (repeat' (first | with_reducible assumption | with_reducible refine S4P.drew ?_ | with_reducible refine S4P.drewN ?_ _ | with_reducible refine S4P.alloc ?_ _)) (first | (refine step_app_pt (by rfl) (.tmp 39) (.tmp 42) (by rfl) X gk p HTX.out (.slice (some ⟨X.heap.size, 0, none⟩) 0 0) (0) [] (by rfl) (twP_new _ _ (Nat.le_refl _)) ⟨g, 0, none⟩ k _ ((flatP s).take (k * 2)) (by rfl) (by rw [List.length_take, flatP_len, ← HM.out]; omega) (preP_news HRX.out (S4P.bel (b := gk) (r := p) (by assumption)) _) (by omega) (by assumption) ?_; intro v1 w1 hown1 hS1 hk1) | (refine step_app_pt (by rfl) (.tmp 39) (.tmp 42) (by rfl) X gk p HTX.out (.slice (some ⟨X.heap.size, 0, none⟩) 0 0) (0) [] (by rfl) (World.ownsRow.alloc (twP_new _ _ (Nat.le_refl _)) _) ⟨g, 0, none⟩ k _ ((flatP s).take (k * 2)) (by rfl) (by rw [List.length_take, flatP_len, ← HM.out]; omega) (preP_news HRX.out (S4P.bel (b := gk) (r := p) (by assumption)) _) (by omega) (by assumption) ?_; intro v1 w1 hown1 hS1 hk1; have c51 := P2.kept (litP_new2 _ _ p) hk1 (by intro q hq; simp [Value.ownBlock] at hq; omega)) | (refine step_app_pt (by rfl) (.tmp 39) (.tmp 42) (by rfl) X gk p HTX.out (.slice (some ⟨X.heap.size + 1, 0, none⟩) 0 0) (0) [] (by rfl) (twP_new' _ _ _ (Nat.le_refl _)) ⟨g, 0, none⟩ k _ ((flatP s).take (k * 2)) (by rfl) (by rw [List.length_take, flatP_len, ← HM.out]; omega) (preP_news HRX.out (S4P.bel (b := gk) (r := p) (by assumption)) _) (by omega) (by assumption) ?_; intro v1 w1 hown1 hS1 hk1; have c51 := P2.kept (litP_new3 _ _ p) hk1 (by intro q hq; simp [Value.ownBlock] at hq; omega)) | (refine step_app_pt (by rfl) (.tmp 46) (.tmp 49) (by rfl) X gk p HTX.out v2 (0 + k + 1) ([] ++ ((flatP s).take (k * 2)) ++ encP p) (by rfl) hown2 ⟨g, k * 2, none⟩ (m - k) _ ((flatP s).drop (k * 2)) (by rfl) (by rw [List.length_drop, flatP_len, ← HM.out]; omega) (postP_news HRX.out (S4P.bel (b := gk) (r := p) (by assumption)) _) (by omega) (by assumption) ?_; intro v3 w3 hown3 hS3 hk3) | (refine step_app_pt (by rfl) (.tmp 43) (.tmp 45) (by rfl) X gk p HTX.out v1 (0 + k) ([] ++ ((flatP s).take (k * 2))) (by rfl) (by first | exact hown1 | exact World.ownsRow.alloc hown1 _) _ 1 _ (encP p) (by rfl) rfl (by first | exact P2.news c51 | exact P2.news (P2.new _ p _)) (by omega) (by assumption) ?_; intro v2 w2 hown2 hS2 hk2))
              all_goals
                have hb3 := bel2 HXB.out hS3.2.2
                have hrow := FS.base (zs := [] ++ ((flatP s).take (k * 2)) ++ encP p ++ ((flatP s).drop (k * 2))) hown3 HXB.out.size
                go_wp2
                go_roundw
                case rel => exact ⟨n + 1, by omega, by go_num, by rw [HX.out]; exact putP_row_is HM.out (by omega) (by omega) HK'.out hrow, hb3, Lib.hid (fun h => by rw [HX.out, HK'.out] at h; simp at h)⟩
                case measure => simp [intOf]; omega
            · have he : ∀ W, Sem.run Try.prog (binOp .eql 35 (ptV (pd s k)) (ptV p)) W = .ok (.bool true) W := fun W => by rw [eqPt]; exact congrArg (fun b => Result.ok (Value.bool b) W) hsm
              have HK' := Lib.hid (show insP p s = s by rw [HK.out, if_pos ⟨hkl, (eqB_iff _ _).1 hsm⟩])
              clear hsm HK
              go_wp2_with fail
              refine wp_region_quiet_grown (by kernel_rfl) (by kernel_rfl) ?_
              repeat (go_big_quiet_step ((fail)))
              refine wpQuiet_nil ?_
              intro _ hw'
              obtain ⟨⟨nq, osq⟩, hw''⟩ := hw'
              subst hw''
              have HXG := Lib.hid (HYG.out.trans ⟨nq, osq, rfl⟩)
              generalize grow (Y.drewN nq) osq = X at HXG ⊢
              clear t0 t1 a0 a1
              go_wp2
              go_roundw
              case rel => exact ⟨n + 1, by omega, by go_num, by rw [HX.out, HK'.out]; have := FS.below HO.out HXG.out.below; unfold PtS; rw [← HM.out] at this ⊢; exact this, bel2 HB.out HXG.out.below, Lib.hid (fun h => by rw [HX.out, HK'.out, ← HM.out] at h; omega)⟩
              case measure => simp [intOf]; omega
          · have HL := Lib.hid (show ∀ j, j < k + 1 → j < s.length ∧ bfB (pd s j) p = true from fun j hj => by
              rcases Nat.lt_or_ge j k with h | h
              · exact hlow.out j h
              · obtain rfl : j = k := by omega
                exact ⟨hkl, hq⟩)
            have HQ' := Lib.hid (fun W => show Calls Try.prog 86 #[ptV (pd s k), ptV p] W fun e w' => e = .returned (.bool true) ∧ Gr W w' by rw [← hq]; exact HQ.out _ _ W)
            clear hq
            go_wp2_with fail
            refine wp_region_quiet_grown (by kernel_rfl) (by kernel_rfl) ?_
            repeat (go_big_quiet_step ((first | (go_at_call 86; refine Calls.grown_of (HQ'.out _)))))
            refine wpQuiet_nil ?_
            intro _ hw'
            obtain ⟨⟨nq, osq⟩, hw''⟩ := hw'
            subst hw''
            go_wp2
            go_roundw
            case rel => exact ⟨_, rfl, k + 1, by omega, by go_num, HL, Lib.hid (hgw.out.trans ⟨_, _, rfl⟩)⟩
            case measure => simp [intOf]; omega
        · obtain rfl : k = m := by omega
          have HK := Lib.hid (HPUT.out k hlow.out (fun h => by rw [← HM.out] at h; omega))
          have HK' := Lib.hid (show insP p s = s.take k ++ p :: s.drop k by rw [HK.out, if_neg (by rw [← HM.out]; omega)])
          clear HK
          go_wp2_with fail
          refine wp_region_quiet_grown (by kernel_rfl) (by kernel_rfl) ?_
          repeat (go_big_quiet_step ((fail)))
          refine wpQuiet_nil ?_
          intro _ hw'
          obtain ⟨⟨nq, osq⟩, hw''⟩ := hw'
          subst hw''
          have HYG := Lib.hid (hgw.out.trans ⟨nq, osq, rfl⟩)
          generalize grow (wq.drewN nq) osq = Y at HYG ⊢
          clear t0 t1
          obtain ⟨t0, t1⟩ := P2.grown (P2.below HT.out HYG.out.below)
          go_wp2_with fail
          refine wp_region_quiet_grown (by kernel_rfl) (by kernel_rfl) ?_
          repeat (go_big_quiet_step ((fail)))
          refine wpQuiet_nil ?_
          intro _ hw'
          obtain ⟨⟨nq, osq⟩, hw''⟩ := hw'
          subst hw''
          have HXG := Lib.hid (HYG.out.trans ⟨nq, osq, rfl⟩)
          generalize grow (Y.drewN nq) osq = X at HXG ⊢
          clear t0 t1
          have HXB := Lib.hid (bel2 HB.out HXG.out.below)
          have HTX := Lib.hid (P2.below HT.out HXG.out.below)
          have hSX : S4P X gk p X := S4P.of HTX.out (Below.refl _ _)
          rcases HO.out.2 with ⟨hx, h0⟩ | ⟨g, cap', cur, hx, hB, hh, hnc, hc, hs, ht⟩
          · simp only [Value.slice.injEq] at hx
            obtain ⟨rfl, -, rfl⟩ := hx
            rw [← HM.out] at h0
            subst h0
            obtain ⟨t0, t1⟩ := HTX.out
            go_wp2_with fail
            go_region_held3 (fun w' => S4P X gk p w') (repeat' (first | with_reducible assumption | with_reducible refine S4P.drew ?_ | with_reducible refine S4P.drewN ?_ _ | with_reducible refine S4P.alloc ?_ _)) (first | (refine step_app_noneP (by rfl) (.tmp 39) (.tmp 42) (by rfl) X.heap.size (.slice (some ⟨X.heap.size, 0, none⟩) 0 0) 0 (ints []) (by rfl) (by first | exact twP_new _ _ (Nat.le_refl _) | exact World.ownsRow.alloc (twP_new _ _ (Nat.le_refl _)) _) (by rfl) ?_) | (refine step_app_noneP (by rfl) (.tmp 39) (.tmp 42) (by rfl) X.heap.size (.slice (some ⟨X.heap.size + 1, 0, none⟩) 0 0) 0 (ints []) (by rfl) (twP_new' _ _ _ (Nat.le_refl _)) (by rfl) ?_) | (refine step_app_pt (by rfl) (.tmp 43) (.tmp 45) (by rfl) X gk p HTX.out (.slice (some ⟨X.heap.size, 0, none⟩) 0 0) 0 [] (by rfl) (World.ownsRow.alloc (twP_new _ _ (Nat.le_refl _)) _) ⟨X.heap.size + 1, 0, none⟩ 1 1 (encP p) (by rfl) rfl (P2.news (litP_new2 _ _ p)) (by omega) (by assumption) ?_; intro v2 w2 hown2 hS2 hk2) | (refine step_app_pt (by rfl) (.tmp 43) (.tmp 45) (by rfl) X gk p HTX.out (.slice (some ⟨X.heap.size + 1, 0, none⟩) 0 0) 0 [] (by rfl) (twP_new' _ _ _ (Nat.le_refl _)) ⟨X.heap.size, 0, none⟩ 1 1 (encP p) (by rfl) rfl (P2.news (litP_new3 _ _ p)) (by omega) (by assumption) ?_; intro v2 w2 hown2 hS2 hk2) | (refine step_app_noneP (by rfl) (.tmp 46) (.tmp 49) (by rfl) X.heap.size v2 (0 + 1) _ (by rfl) hown2 (by rfl) ?_))
            all_goals
              go_wp2
              go_roundw
              case rel => exact ⟨n + 1, by omega, by go_num, by rw [HX.out, HK'.out, List.eq_nil_of_length_eq_zero HM.out.symm]; exact FS.base (zs := [] ++ encP p) hown2 HXB.out.size, bel2 HXB.out hS2.2.2, Lib.hid (fun h => by rw [HX.out, HK'.out] at h; simp at h)⟩
              case measure => simp [intOf]; omega
          · simp only [Value.slice.injEq, true_and] at hx
            obtain ⟨rfl, -, rfl⟩ := hx
            have HRX := Lib.hid (ptS_news rfl (FS.below HO.out HXG.out.below))
            rw [← HM.out] at hnc
            clear hh hc hs ht hB
            by_cases hc : cap = k
            · subst hc
              by_cases l3 : cap = 0
              · exfalso; have := hnil.out (by rw [← HM.out]; exact l3); simp at this
              · have l1 : cap ≤ cap := by omega
                obtain ⟨t0, t1⟩ := HTX.out
                go_wp2_with fail
                go_region_held3 (fun w' => S4P X gk p w') (repeat' (first | with_reducible assumption | with_reducible refine S4P.drew ?_ | with_reducible refine S4P.drewN ?_ _ | with_reducible refine S4P.alloc ?_ _)) (first | (refine step_app_pt (by rfl) (.tmp 39) (.tmp 42) (by rfl) X gk p HTX.out (.slice (some ⟨X.heap.size, 0, none⟩) 0 0) (0) [] (by rfl) (twP_new _ _ (Nat.le_refl _)) ⟨g, 0, none⟩ cap _ ((flatP s).take (cap * 2)) (by rfl) (by rw [List.length_take, flatP_len, ← HM.out]; omega) (preP_news HRX.out (S4P.bel (b := gk) (r := p) (by assumption)) _) (by omega) (by assumption) ?_; intro v1 w1 hown1 hS1 hk1) | (refine step_app_pt (by rfl) (.tmp 39) (.tmp 42) (by rfl) X gk p HTX.out (.slice (some ⟨X.heap.size, 0, none⟩) 0 0) (0) [] (by rfl) (World.ownsRow.alloc (twP_new _ _ (Nat.le_refl _)) _) ⟨g, 0, none⟩ cap _ ((flatP s).take (cap * 2)) (by rfl) (by rw [List.length_take, flatP_len, ← HM.out]; omega) (preP_news HRX.out (S4P.bel (b := gk) (r := p) (by assumption)) _) (by omega) (by assumption) ?_; intro v1 w1 hown1 hS1 hk1; have c51 := P2.kept (litP_new2 _ _ p) hk1 (by intro q hq; simp [Value.ownBlock] at hq; omega)) | (refine step_app_pt (by rfl) (.tmp 39) (.tmp 42) (by rfl) X gk p HTX.out (.slice (some ⟨X.heap.size + 1, 0, none⟩) 0 0) (0) [] (by rfl) (twP_new' _ _ _ (Nat.le_refl _)) ⟨g, 0, none⟩ cap _ ((flatP s).take (cap * 2)) (by rfl) (by rw [List.length_take, flatP_len, ← HM.out]; omega) (preP_news HRX.out (S4P.bel (b := gk) (r := p) (by assumption)) _) (by omega) (by assumption) ?_; intro v1 w1 hown1 hS1 hk1; have c51 := P2.kept (litP_new3 _ _ p) hk1 (by intro q hq; simp [Value.ownBlock] at hq; omega)) | (refine step_app_pt (by rfl) (.tmp 46) (.tmp 49) (by rfl) X gk p HTX.out v2 (0 + cap + 1) ([] ++ ((flatP s).take (cap * 2)) ++ encP p) (by rfl) hown2 ⟨g, 0, none⟩ (0) _ ((flatP s).drop (cap * 2)) (by rfl) (by rw [List.length_drop, flatP_len, ← HM.out]; omega) (nilP_news (List.drop_eq_nil_of_le (by rw [flatP_len, ← HM.out]; omega))) (by omega) (by assumption) ?_; intro v3 w3 hown3 hS3 hk3) | (refine step_app_pt (by rfl) (.tmp 43) (.tmp 45) (by rfl) X gk p HTX.out v1 (0 + cap) ([] ++ ((flatP s).take (cap * 2))) (by rfl) (by first | exact hown1 | exact World.ownsRow.alloc hown1 _) _ 1 _ (encP p) (by rfl) rfl (by first | exact P2.news c51 | exact P2.news (P2.new _ p _)) (by omega) (by assumption) ?_; intro v2 w2 hown2 hS2 hk2))
                all_goals
                  have hb3 := bel2 HXB.out hS3.2.2
                  have hrow := FS.base (zs := [] ++ ((flatP s).take (cap * 2)) ++ encP p ++ ((flatP s).drop (cap * 2))) hown3 HXB.out.size
                  go_wp2
                  go_roundw
                  case rel => exact ⟨n + 1, by omega, by go_num, by rw [HX.out]; exact putP_row_is HM.out (by omega) (by omega) HK'.out hrow, hb3, Lib.hid (fun h => by rw [HX.out, HK'.out] at h; simp at h)⟩
                  case measure => simp [intOf]; omega
            · have hck : ¬ cap = k := hc
              have l1 : k ≤ cap := by omega
              have l3 : ¬ cap = 0 := by omega
              obtain ⟨t0, t1⟩ := HTX.out
              go_wp2_with fail
              go_region_held3 (fun w' => S4P X gk p w') (repeat' (first | with_reducible assumption | with_reducible refine S4P.drew ?_ | with_reducible refine S4P.drewN ?_ _ | with_reducible refine S4P.alloc ?_ _)) (first | (refine step_app_pt (by rfl) (.tmp 39) (.tmp 42) (by rfl) X gk p HTX.out (.slice (some ⟨X.heap.size, 0, none⟩) 0 0) (0) [] (by rfl) (twP_new _ _ (Nat.le_refl _)) ⟨g, 0, none⟩ k _ ((flatP s).take (k * 2)) (by rfl) (by rw [List.length_take, flatP_len, ← HM.out]; omega) (preP_news HRX.out (S4P.bel (b := gk) (r := p) (by assumption)) _) (by omega) (by assumption) ?_; intro v1 w1 hown1 hS1 hk1) | (refine step_app_pt (by rfl) (.tmp 39) (.tmp 42) (by rfl) X gk p HTX.out (.slice (some ⟨X.heap.size, 0, none⟩) 0 0) (0) [] (by rfl) (World.ownsRow.alloc (twP_new _ _ (Nat.le_refl _)) _) ⟨g, 0, none⟩ k _ ((flatP s).take (k * 2)) (by rfl) (by rw [List.length_take, flatP_len, ← HM.out]; omega) (preP_news HRX.out (S4P.bel (b := gk) (r := p) (by assumption)) _) (by omega) (by assumption) ?_; intro v1 w1 hown1 hS1 hk1; have c51 := P2.kept (litP_new2 _ _ p) hk1 (by intro q hq; simp [Value.ownBlock] at hq; omega)) | (refine step_app_pt (by rfl) (.tmp 39) (.tmp 42) (by rfl) X gk p HTX.out (.slice (some ⟨X.heap.size + 1, 0, none⟩) 0 0) (0) [] (by rfl) (twP_new' _ _ _ (Nat.le_refl _)) ⟨g, 0, none⟩ k _ ((flatP s).take (k * 2)) (by rfl) (by rw [List.length_take, flatP_len, ← HM.out]; omega) (preP_news HRX.out (S4P.bel (b := gk) (r := p) (by assumption)) _) (by omega) (by assumption) ?_; intro v1 w1 hown1 hS1 hk1; have c51 := P2.kept (litP_new3 _ _ p) hk1 (by intro q hq; simp [Value.ownBlock] at hq; omega)) | (refine step_app_pt (by rfl) (.tmp 46) (.tmp 49) (by rfl) X gk p HTX.out v2 (0 + k + 1) ([] ++ ((flatP s).take (k * 2)) ++ encP p) (by rfl) hown2 ⟨g, k * 2, none⟩ (0) _ ((flatP s).drop (k * 2)) (by rfl) (by rw [List.length_drop, flatP_len, ← HM.out]; omega) (nilP_news (List.drop_eq_nil_of_le (by rw [flatP_len, ← HM.out]; omega))) (by omega) (by assumption) ?_; intro v3 w3 hown3 hS3 hk3) | (refine step_app_pt (by rfl) (.tmp 43) (.tmp 45) (by rfl) X gk p HTX.out v1 (0 + k) ([] ++ ((flatP s).take (k * 2))) (by rfl) (by first | exact hown1 | exact World.ownsRow.alloc hown1 _) _ 1 _ (encP p) (by rfl) rfl (by first | exact P2.news c51 | exact P2.news (P2.new _ p _)) (by omega) (by assumption) ?_; intro v2 w2 hown2 hS2 hk2))
              all_goals
                have hb3 := bel2 HXB.out hS3.2.2
                have hrow := FS.base (zs := [] ++ ((flatP s).take (k * 2)) ++ encP p ++ ((flatP s).drop (k * 2))) hown3 HXB.out.size
                go_wp2
                go_roundw
                case rel => exact ⟨n + 1, by omega, by go_num, by rw [HX.out]; exact putP_row_is HM.out (by omega) (by omega) HK'.out hrow, hb3, Lib.hid (fun h => by rw [HX.out, HK'.out] at h; simp at h)⟩
                case measure => simp [intOf]; omega
    · obtain rfl : n = N := by omega
      rw [show l.take n = l by rw [HN.out, List.take_length]] at ho
      go_wp2
      go_ret
      exact ⟨_, rfl, ho, hb⟩
end Go.Proofs.Ytamejfeaniokfaa
/-
  Hulls in the model: what the calls return.
  Conditions: the slice reads as the list that is named; coordinates are small.
-/
namespace Go.Proofs.Ytamejfeaniokfaa
set_option linter.unusedSimpArgs false
set_option linter.unusedVariables false
open Go.ChangeShapes Go.WideShapes Go.ChangeAt Go.RowKit
open Go.Sort (grow)

theorem all_badP (l : List Pt) (k : Nat) (hk : k < l.length) (h : ptG (pd l k) = false) : ptsB l = false := by
  unfold ptsB
  have : l.all ptG = false := by
    rw [List.all_eq_false]
    exact ⟨_, pd_mem hk, by rw [h]; simp⟩
  rw [this]; simp
theorem all_nextP (l : List Pt) (k : Nat) (hk : k < l.length) (h : (l.take k).all ptG = true) (h' : ptG (pd l k) = true) : (l.take (k + 1)).all ptG = true := by
  rw [take_pd l k hk, List.all_append, h]; simpa using h'
theorem ptsB_end {l : List Pt} (h : l.all ptG = true) : ptsB l = inB l.length 1 40 := by
  unfold ptsB
  rw [h]
  unfold inB
  have e1 : decide ((1 : Int) ≤ l.length) = decide (1 ≤ l.length) := by congr 1; apply propext; omega
  have e2 : decide ((l.length : Int) ≤ 40) = decide (l.length ≤ 40) := by congr 1; apply propext; omega
  rw [e1, e2, Bool.and_true]
set_option maxHeartbeats 1000000 in
set_option maxRecDepth 100000 in
theorem pyPoints_any (w : World) (B : Nat) (v : Value) (l : List Pt) (h : PtS w B v l) : Calls Try.prog 50 #[v] w fun e w' => e = .returned (.bool (ptsB l)) ∧ Below w.heap.size w w' := by
  obtain ⟨A, cap, rfl, hm, hp⟩ := PtS.parts h
  have HP := Lib.hid hp
  obtain ⟨n, hn⟩ : ∃ n, n = l.length := ⟨_, rfl⟩
  have HN := Lib.hid hn
  rw [← hn] at hm ⊢
  unfold maxLen at hm
  have HT := Lib.hid (fun t W => pyOne_any t W)
  obtain ⟨r, hr⟩ : ∃ r, r = ptsB l := ⟨_, rfl⟩
  have HR := Lib.hid hr
  rw [← hr]
  clear hp h hn hr
  go_enter Try.func50, Try.ntmps50
  go_wp2
  go_loopw [7] (fun i wr => ∃ k : Nat, k ≤ n ∧ i = .int .i64 k ∧ Hid ((l.take k).all ptG = true) ∧ Below w.heap.size w wr) (fun i _ => n - (intOf i).toNat)
  case atStart => exact ⟨0, by omega, rfl, Lib.hid rfl, Below.refl _ _⟩
  case round =>
    obtain ⟨k, hk, rfl, hup, hb⟩ := hrel
    by_cases hlt : k < n
    · have hkl : k < l.length := by rw [← HN.out]; exact hlt
      obtain ⟨g, rfl, hc0⟩ := HP.out k hkl
      obtain ⟨c0, c1⟩ := X2.below hc0 hb
      obtain ⟨p, hpe⟩ : ∃ p, p = pd l k := ⟨_, rfl⟩
      have HPE := Lib.hid hpe
      rw [← hpe] at c0 c1
      have hb2 := hb.alloc hb.size (.cells #[.int .i64 p.1, .int .i64 p.2] 35)
      clear hc0 hpe
      cases hq : ptG p
      · have HT' := Lib.hid (fun W => show Calls Try.prog 40 #[ptV p] W fun e w' => e = .returned (.bool false) ∧ Gr W w' by rw [← hq]; exact HT.out p W)
        have HQ := Lib.hid (show r = false by rw [HR.out]; exact all_badP l k hkl (by rw [← HPE.out]; exact hq))
        clear hq
        go_wp2_with fail
        refine (HT'.out _).mono ?_
        rintro e w1 ⟨rfl, g1⟩
        go_wp2
        go_ret
        exact ⟨ret_bool HQ.out.symm, bel2 hb2 g1.below⟩
      · have HT' := Lib.hid (fun W => show Calls Try.prog 40 #[ptV p] W fun e w' => e = .returned (.bool true) ∧ Gr W w' by rw [← hq]; exact HT.out p W)
        have HQ := Lib.hid (all_nextP l k hkl hup.out (by rw [← HPE.out]; exact hq))
        clear hq
        go_wp2_with fail
        refine (HT'.out _).mono ?_
        rintro e w1 ⟨rfl, g1⟩
        go_wp2
        go_roundw
        case rel => exact ⟨k + 1, by omega, by go_num, HQ, bel2 hb2 g1.below⟩
        case measure => simp [intOf]; omega
    · obtain rfl : k = n := by omega
      have HQ := Lib.hid (show r = inB k 1 40 by rw [HR.out, HN.out]; exact ptsB_end (by have := hup.out; rwa [HN.out, List.take_length] at this))
      go_wp2_with fail
      refine (l1In_any _ _ _ _).mono ?_
      rintro e w' ⟨rfl, rfl⟩
      go_wp2
      go_ret
      exact ⟨ret_bool HQ.out.symm, hb⟩
theorem ptS_snoc {w : World} {B : Nat} {v : Value} {l : List Pt} {m : Nat} {t : Pt} (hm : m = l.length + 1) (h : w.ownsRow B 35 2 v m (ints (flatP l) ++ ints (encP t))) : PtS w B v (l ++ [t]) := by
  have e : (l ++ [t]).length = m := by rw [List.length_append, hm]; rfl
  unfold PtS FS
  rw [e, flatP_snoc]
  unfold ints at h ⊢
  rw [List.map_append]
  exact h
/-- A point behind a row of points of our own; the point lies at ad. -/
theorem wpList_append_pt {ops : Array Oper} {rest : List Oper} {o : Oper} {a : Act} {Q : Exit → Act → World → Prop} (w : World) (hgd : o.guard = none) (s x : Operand)
    (ho : o.op = .call { callee := .builtin .append, args := #[s, x], argTypes := #[23, 23] })
    (B : Nat) (v : Value) (l : List Pt) (hs : a.eval s = v) (hown : PtS w B v l) (n : Nat) (p : Pt) (hx : a.eval x = .slice (some ⟨n, 0, none⟩) 1 1)
    (hp : P2 w n p) (hn : l.length ≤ 1000000) (hB : B ≤ w.heap.size)
    (h : ∀ v' w', PtS w' B v' (l ++ [p]) → w.grownBy w' v.ownBlock → wpList Try.prog ops Q rest (a.put o.dst v') w') :
    wpList Try.prog ops Q (o :: rest) a w := by
  obtain ⟨i0, hi, hz0, hz1, hz2⟩ := info_parts infoPoint
  refine wpList_append_own w hgd s x 23 ho B 35 i0 (.agg #[.int .i64 0, .int .i64 0]) 2 16 Try.underlying23 hi hz0 hz1 hz2 rfl (by decide) v l.length _ hs hown ⟨n, 0, none⟩ 1 1 (ints (encP p)) hx rfl (P2.news hp) (by intro u hu; simp [ints, encP] at hu; rcases hu with rfl | rfl <;> rfl) (by unfold maxLen; omega) (by omega) hB ?_
  intro v' w' h1 h2 h3
  exact h v' w' (ptS_snoc rfl h1) h2
set_option maxHeartbeats 2000000 in
set_option maxRecDepth 100000 in
theorem pyHalf_any (w : World) (B : Nat) (v : Value) (l : List Pt) (h : PtS w B v l) (hz : l.length ≤ 100000) (hsm : ∀ q ∈ l, Sm 1000 q) : Calls Try.prog 72 #[v] w fun e w' => GivesPt (stkH trn l).reverse w e w' := by
  have HSM := Lib.hid hsm
  obtain ⟨A2, cap2, rfl, -, hp2⟩ := PtS.parts h
  have HP2 := Lib.hid hp2
  obtain ⟨N, hN⟩ : ∃ N, N = l.length := ⟨_, rfl⟩
  have HN := Lib.hid hN
  have HQ := Lib.hid (fun a b c W (ha : Sm 1000 a) (hb : Sm 1000 b) (hc : Sm 1000 c) => pyTurn_any a b c W ha hb hc)
  rw [← hN] at hz ⊢
  clear hp2 h hN hsm
  go_enter Try.func72, Try.ntmps72
  go_wp2
  go_loopw [3, 8] (fun o i wr => ∃ n : Nat, n ≤ N ∧ i = .int .i64 n ∧ PtS wr w.heap.size o (stkH trn (l.take n)).reverse ∧ Below w.heap.size w wr) (fun _ i _ => N - (intOf i).toNat)
  case atStart => exact ⟨0, by omega, rfl, FS.nil_ _ _ _ _, Below.refl _ _⟩
  case round =>
    obtain ⟨n, hn, rfl, ho, hb⟩ := hrel
    by_cases hlt : n < N
    · have hnl : n < l.length := by rw [← HN.out]; exact hlt
      obtain ⟨gp, rfl, hc0⟩ := HP2.out n hnl
      have hc1 := X2.below hc0 hb
      obtain ⟨k, hk⟩ : ∃ k, k = pd l n := ⟨_, rfl⟩
      have hks : Sm 1000 k := by rw [hk]; exact HSM.out _ (pd_mem hnl)
      rw [← hk] at hc1
      obtain ⟨s0, hs0⟩ : ∃ s0, s0 = stkH trn (l.take n) := ⟨_, rfl⟩
      have hsl : s0.length ≤ n := by rw [hs0]; exact Nat.le_trans (stkH_le _ _) (by simp; omega)
      have hsm0 : ∀ q ∈ s0, Sm 1000 q := fun q hq => by
        rw [hs0] at hq
        rcases stkH_mem _ _ hq with h | h
        · exact HSM.out q (List.mem_of_mem_take h)
        · simp at h
      rw [← hs0] at ho
      have HNX := Lib.hid (show stkH trn (l.take (n + 1)) = k :: popH trn k s0 by rw [take_pd l n hnl, stkH_snoc, ← hs0, ← hk])
      have hoA := FS.alloc ho (.cells #[.int .i64 k.1, .int .i64 k.2] 35)
      have hbA := hb.alloc hb.size (.cells #[.int .i64 k.1, .int .i64 k.2] 35)
      have hPA := P2.new wr k 35
      have hwr := hb.size
      obtain ⟨c0, c1⟩ := hc1
      clear hs0 hk ho hc0
      go_wp2
      generalize hW : wr.alloc (.cells #[.int .i64 k.1, .int .i64 k.2] 35) = W at hoA hbA hPA ⊢
      obtain ⟨gk, hgk⟩ : ∃ gk, gk = wr.heap.size := ⟨_, rfl⟩
      rw [← hgk] at hPA ⊢
      clear hb hW hgk c0 c1
      go_loopw [3] (fun o wq => ∃ W : World, W = wq ∧ ∃ s, PtS wq w.heap.size o s.reverse ∧ P2 wq gk k ∧ s.length ≤ n ∧ Hid (∀ q ∈ s, Sm 1000 q) ∧ Hid (popH trn k s = popH trn k s0) ∧ Below w.heap.size w wq) (fun o _ => slNP o)
      case atStart => exact ⟨_, rfl, s0, hoA, hPA, hsl, Lib.hid hsm0, Lib.hid rfl, hbA⟩
      case round =>
        obtain ⟨wq, rfl, s, ho2, hP2, hsl2, hsm2, hpop, hb2⟩ := hrel
        clear hoA hPA hbA hsl hsm0
        obtain ⟨t0, t1⟩ := P2.grown hP2
        have HO := Lib.hid ho2
        have hslN := PtS.slN ho2
        rw [List.length_reverse] at hslN
        have done : s.length < 2 ∨ (∃ j i t, s = j :: i :: t) := by
          match s with
          | [] => exact .inl (by simp)
          | [_] => exact .inl (by simp)
          | j :: i :: t => exact .inr ⟨j, i, t, rfl⟩
        rcases done with hsh | ⟨j, i, t, rfl⟩
        · have HPS := Lib.hid (popH_short (T := trn) (p := k) hsh)
          have HR := Lib.hid (show stkH trn (l.take (n + 1)) = k :: s by rw [HNX.out, ← hpop.out, HPS.out])
          obtain ⟨A, cap, rfl, -, -⟩ := PtS.parts ho2
          rw [List.length_reverse]
          obtain ⟨u, hu⟩ : ∃ u, u = s.length := ⟨_, rfl⟩
          have HU := Lib.hid hu
          rw [← hu] at hsh hsl2 ⊢
          have hg1 : decide ((1 : Int) < (u : Int)) = false := decide_eq_false (by omega)
          have hg2 : ((1 : Int) < (u : Int)) = False := eq_false (by omega)
          clear ho2 hslN hu
          go_wp2_with fail
          refine wp_region_quiet_grown (by kernel_rfl) (by kernel_rfl) ?_
          repeat (go_big_quiet_step ((fail)))
          refine wpQuiet_nil ?_
          intro _ hw'
          obtain ⟨⟨nq, osq⟩, hw''⟩ := hw'
          subst hw''
          have HYG := Lib.hid (show Gr wq (grow (wq.drewN nq) osq) from ⟨_, _, rfl⟩)
          generalize grow (wq.drewN nq) osq = Y at HYG ⊢
          have hrow := FS.below HO.out HYG.out.below
          have hbY := bel2 hb2 HYG.out.below
          obtain ⟨p0, p1⟩ := P2.below hP2 HYG.out.below
          clear t0 t1
          rw [List.length_reverse, ← HU.out] at hrow
          have hrow' : PtS (Y.alloc (.cells #[.int .i64 k.1, .int .i64 k.2] 35)) w.heap.size (.slice A u cap) s.reverse := by
            unfold PtS; rw [List.length_reverse, ← HU.out]; exact FS.alloc hrow _
          have hbY' := hbY.size
          have HBY := Lib.hid hbY
          have HLT := Lib.hid (fun g hg => (World.ownsRow.lt hrow g hg).1)
          clear hrow
          go_wp2_with (at_builtin; refine wpList_append_pt _ rfl _ _ rfl w.heap.size _ s.reverse rfl hrow' Y.heap.size k rfl (P2.new Y k _) (by rw [List.length_reverse, ← HU.out]; omega) (by simp; omega) ?_; intro v' w1 hown' hgrow)
          go_roundw
          case rel => exact ⟨n + 1, by omega, by go_num, by rw [HR.out, List.reverse_cons]; exact hown', (HBY.out.alloc hbY' _).grown hgrow (by simp; omega) HLT.out⟩
          case measure => simp [intOf]; omega
        · have hsi := hsm2.out i (by simp)
          have hsj := hsm2.out j (by simp)
          have htl : t.length ≤ 100000 := by simp at hsl2; omega
          obtain ⟨u, hu⟩ : ∃ u, u = (j :: i :: t).length := ⟨_, rfl⟩
          have HU := Lib.hid hu
          obtain ⟨A, cap, rfl, -, hp⟩ := PtS.parts ho2
          rw [List.length_reverse, ← hu]
          rw [← hu] at hslN hsl2
          simp only [List.length_cons] at hu
          obtain ⟨g, rfl, cj⟩ := hp (u - 1) (by simp; omega)
          obtain ⟨g', hg', ci⟩ := hp (u - 2) (by simp; omega)
          cases hg'
          obtain ⟨rv1, rv2⟩ := rev_twoP (j := j) (i := i) (t := t)
          rw [show u - 1 = t.length + 1 by omega, rv1, show t.length + 1 = u - 1 by omega] at cj
          rw [show u - 2 = t.length by omega, rv2, show t.length = u - 2 by omega] at ci
          have hu2 : 2 ≤ u := by omega
          have hu3 : u ≤ 200000 := by omega
          have hcap : u ≤ cap := by
            rcases HO.out.2 with ⟨hx, -⟩ | ⟨g', cap', cur, hv, hB, hh, hn, hc, hs, ht⟩
            · cases hx
            · simp only [Value.slice.injEq, true_and] at hv
              obtain ⟨-, -, rfl⟩ := hv
              rw [List.length_reverse, ← HU.out] at hn; exact hn
          obtain ⟨a0, a1⟩ := X2.grown ci
          obtain ⟨e0, e1⟩ := X2.grown cj
          have q7 : IntKind.i64.wrap ((u : Int) - 2) = ((u - 2 : Nat) : Int) := by rw [IntWalk.i64_in _ (by omega)]; omega
          have q8 : IntKind.i64.wrap ((u : Int) - 1) = ((u - 1 : Nat) : Int) := by rw [IntWalk.i64_in _ (by omega)]; omega
          have l1 : u - 2 < u := by omega
          have l2 : u - 1 < u := by omega
          have l3 : (1 : Int) < (u : Int) := by omega
          have z1 : (0 : Int) ≤ ((u - 2 : Nat) : Int) := by omega
          have z2 : (0 : Int) ≤ ((u - 1 : Nat) : Int) := by omega
          have z3 : ((u - 2 : Nat) : Int) < (u : Int) := by omega
          have z4 : ((u - 1 : Nat) : Int) < (u : Int) := by omega
          clear hu rv1 rv2 hp ho2
          cases hd : decide (0 < trn i j k)
          · have HPS := Lib.hid (popH_more (T := trn) (t := t) hd)
            have hle : trn i j k ≤ 0 := by have := of_decide_eq_false hd; omega
            clear hd
            go_wp2_with fail
            refine wp_region_quiet_grown (by kernel_rfl) (by kernel_rfl) ?_
            repeat (go_big_quiet_step ((first | (go_at_call 87; refine Calls.grown_of (HQ.out _ _ _ _ (by assumption) (by assumption) (by assumption))))))
            refine wpQuiet_nil ?_
            intro _ hw'
            obtain ⟨⟨nq, osq⟩, hw''⟩ := hw'
            subst hw''
            have HYG := Lib.hid (show Gr wq (grow (wq.drewN nq) osq) from ⟨_, _, rfl⟩)
            generalize grow (wq.drewN nq) osq = Y at HYG ⊢
            clear q7 t0 t1 a0 a1 e0 e1
            have hl1 : u - 1 ≤ cap := by omega
            go_wp2
            go_roundw
            case rel =>
              refine ⟨_, rfl, i :: t, ?_, P2.below hP2 HYG.out.below, by have := HU.out; simp only [List.length_cons] at this ⊢; omega, Lib.hid (fun q hq => hsm2.out q (List.mem_cons_of_mem _ hq)), Lib.hid (HPS.out.symm.trans hpop.out), bel2 hb2 HYG.out.below⟩
              have hr := FS.below HO.out HYG.out.below
              rw [List.length_reverse] at hr
              have hc := PtS.cut (m := u - 1) (n := (j :: i :: t).length) (l := (j :: i :: t).reverse) (by rw [List.length_reverse]) (by unfold PtS; rw [List.length_reverse]; exact hr) (by rw [← HU.out]; omega)
              have e : (j :: i :: t).reverse.take (u - 1) = (i :: t).reverse := by
                rw [List.reverse_cons, List.take_append_of_le_length (by rw [List.length_reverse]; have := HU.out; simp only [List.length_cons] at this ⊢; omega)]
                exact List.take_of_length_le (by rw [List.length_reverse]; have := HU.out; simp only [List.length_cons] at this ⊢; omega)
              rw [e] at hc
              exact hc
            case measure => simp [slNP]; omega
          · have HPS := Lib.hid (popH_stop (T := trn) (t := t) hd)
            have HR := Lib.hid (show stkH trn (l.take (n + 1)) = k :: j :: i :: t by rw [HNX.out, ← hpop.out, HPS.out])
            have hle : ¬ trn i j k ≤ 0 := by have := of_decide_eq_true hd; omega
            clear hd
            go_wp2_with fail
            refine wp_region_quiet_grown (by kernel_rfl) (by kernel_rfl) ?_
            repeat (go_big_quiet_step ((first | (go_at_call 87; refine Calls.grown_of (HQ.out _ _ _ _ (by assumption) (by assumption) (by assumption))))))
            refine wpQuiet_nil ?_
            intro _ hw'
            obtain ⟨⟨nq, osq⟩, hw''⟩ := hw'
            subst hw''
            have HYG := Lib.hid (show Gr wq (grow (wq.drewN nq) osq) from ⟨_, _, rfl⟩)
            generalize grow (wq.drewN nq) osq = Y at HYG ⊢
            have hrow := FS.below HO.out HYG.out.below
            have hbY := bel2 hb2 HYG.out.below
            obtain ⟨p0, p1⟩ := P2.below hP2 HYG.out.below
            clear q7 q8 t0 t1 a0 a1 e0 e1
            rw [List.length_reverse, ← HU.out] at hrow
            have hrow' : PtS (Y.alloc (.cells #[.int .i64 k.1, .int .i64 k.2] 35)) w.heap.size (.slice (some ⟨g, 0, none⟩) u cap) (j :: i :: t).reverse := by
              unfold PtS; rw [List.length_reverse, ← HU.out]; exact FS.alloc hrow _
            have hbY' := hbY.size
            have HBY := Lib.hid hbY
            have HLT := Lib.hid (fun g hg => (World.ownsRow.lt hrow g hg).1)
            clear hrow
            go_wp2_with (at_builtin; refine wpList_append_pt _ rfl _ _ rfl w.heap.size _ (j :: i :: t).reverse rfl hrow' Y.heap.size k rfl (P2.new Y k _) (by rw [List.length_reverse, ← HU.out]; omega) (by simp; omega) ?_; intro v' w1 hown' hgrow)
            go_roundw
            case rel => exact ⟨n + 1, by omega, by go_num, by rw [HR.out, List.reverse_cons]; exact hown', (HBY.out.alloc hbY' _).grown hgrow (by simp; omega) HLT.out⟩
            case measure => simp [intOf]; omega
    · obtain rfl : n = N := by omega
      rw [show l.take n = l by rw [HN.out, List.take_length]] at ho
      go_wp2
      go_ret
      exact ⟨_, rfl, ho, hb⟩
end Go.Proofs.Ytamejfeaniokfaa
/-
  Hulls and polygons in the model and in the program: what the calls return.
  Conditions: the slice reads as the list that is named; coordinates of hulls are small.
-/
namespace Go.Proofs.Ytamejfeaniokfaa
set_option linter.unusedSimpArgs false
set_option linter.unusedVariables false
open Go.ChangeShapes Go.WideShapes Go.ChangeAt Go.RowKit
open Go.Sort (grow)

theorem srt_sm {k : Nat} {l : List Pt} (h : ∀ q ∈ l, Sm k q) : ∀ q ∈ srtP l, Sm k q := fun q hq => h q ((srtP_mem l q).1 hq)
theorem pts_sm {l : List Pt} (h : ptsB l = true) : ∀ q ∈ l, Sm 100 q := fun q hq => Sm.of (((ptsB_iff l).1 h).2.2 q hq)
theorem take_rev (s : List Pt) (k : Nat) (hk : k < s.length) : s.reverse.take (k + 1) = s.reverse.take k ++ [pd s (s.length - 1 - k)] := by
  rw [take_pd s.reverse k (by rw [List.length_reverse]; exact hk)]
  congr 2
  unfold pd
  rw [List.getD_eq_getElem?_getD, List.getD_eq_getElem?_getD, List.getElem?_reverse hk]
def huR (l : List Pt) : List Pt := if ptsB l = true then hulL l else []
theorem huR_yes {l : List Pt} (h : ptsB l = true) : huR l = hulL l := if_pos h
theorem huR_no {l : List Pt} (h : ptsB l = false) : huR l = [] := if_neg (by simp [h])
theorem belA {x w : World} (h : Below x.heap.size x w) (o : Obj) : Below x.heap.size x (w.alloc o) := h.alloc h.size o
/-- An append of a part of a row of our own onto another one, at a step of a drawn region. -/
theorem step_app_b {w : World} {ops : Array Oper} {o : Oper} {a : Act} {K : Act → World → Prop} {Q : Exit → Act → World → Prop} {E : Prop} (hgd : o.guard = none) (s t : Operand)
    (ho : o.op = .call { callee := .builtin .append, args := #[s, t], argTypes := #[23, 23] })
    (x : World) (v : Value) (n : Nat) (xs : List Int) (hs : a.eval s = v) (hown : w.ownsRow x.heap.size 35 2 v n (ints xs))
    (ad : Addr) (m c : Nat) (news : List Int) (hx : a.eval t = .slice (some ad) m c) (hl : news.length = m * 2) (hnews : ∀ j u, (ints news)[j]? = some u → w.cell? (ad.add j) = some u)
    (hb : n + m ≤ 1000000) (hS : Below x.heap.size x w)
    (h : ∀ v' w', w'.ownsRow x.heap.size 35 2 v' (n + m) (ints (xs ++ news)) → Below x.heap.size x w' → K (a.put o.dst v') w') :
    if Region.wanted o (yielded ops a.tmps) = true then Oper.wp Try.prog o a w K Q else E := by
  obtain ⟨i0, hi, hz0, hz1, hz2⟩ := info_parts infoPoint
  refine step_append_own hgd s t 23 ho x.heap.size 35 i0 (.agg #[.int .i64 0, .int .i64 0]) 2 16 Try.underlying23 hi hz0 hz1 hz2 rfl (by decide) v n (ints xs) hs hown ad m c (ints news) hx (by simp [ints, hl]) hnews (onesP news) (by unfold maxLen; omega) (by omega) hS.size ?_
  intro v' w' h1 h2 h3
  refine h v' w' ?_ (hS.grown h2 hS.size fun k hk => (World.ownsRow.lt hown k hk).1)
  unfold ints at h1 ⊢
  rw [List.map_append]
  exact h1
set_option maxHeartbeats 2000000 in
set_option maxRecDepth 100000 in
theorem pyHull_any (w : World) (B : Nat) (v : Value) (l : List Pt) (h : PtS w B v l) (hz : l.length ≤ 100000) (hsm : ∀ q ∈ l, Sm 1000 q) : Calls Try.prog 52 #[v] w fun e w' => GivesPt (hulL l) w e w' := by
  have HSM := Lib.hid hsm
  have HH := Lib.hid (hul_same l)
  have HLE := Lib.hid (srtP_le l)
  clear hsm
  go_enter Try.func52, Try.ntmps52
  go_wp2_with fail
  refine (pySorted_any _ B _ l h hz).mono ?_
  rintro e w1 ⟨r, rfl, hr, b1⟩
  obtain ⟨s, hs⟩ : ∃ s, s = srtP l := ⟨_, rfl⟩
  have hsms : ∀ q ∈ s, Sm 1000 q := by rw [hs]; exact srt_sm HSM.out
  have hpw : s.Pairwise Bf := by rw [hs]; exact srtP_pw l
  rw [← hs] at hr HH HLE
  have HS := Lib.hid hsms
  have HPW := Lib.hid hpw
  have hle : s.length ≤ 100000 := by have := HLE.out; omega
  clear hs HLE hsms hpw h hz
  by_cases h2 : s.length < 2
  · have HE := Lib.hid (show hulL l = s by rw [← HH.out]; unfold hulM; rw [if_pos h2])
    have HR := Lib.hid hr
    obtain ⟨A, cap, rfl, -, -⟩ := PtS.parts hr
    have h2' : (s.length : Int) < 2 := by omega
    clear hr
    go_wp2
    go_ret
    exact ⟨_, rfl, by rw [HE.out]; exact HR.out, b1⟩
  · have HE := Lib.hid (show hulL l = (stkH trn s).reverse.dropLast ++ (stkH trn s.reverse).reverse.dropLast by rw [← HH.out]; unfold hulM; rw [if_neg h2])
    have HR := Lib.hid hr
    have hlow2 := inv_two geo_up HPW.out (by omega)
    have hup2 := inv_two geo_back (s := s.reverse) (List.pairwise_reverse.2 HPW.out) (by rw [List.length_reverse]; omega)
    have hlow3 := stkH_le trn s
    have hup3 := stkH_le trn s.reverse
    rw [List.length_reverse] at hup3
    obtain ⟨A, cap, rfl, -, hp⟩ := PtS.parts hr
    have HP := Lib.hid hp
    obtain ⟨n, hn⟩ : ∃ n, n = s.length := ⟨_, rfl⟩
    have HN := Lib.hid hn
    rw [← hn] at h2 hle hlow3 hup3 ⊢
    have h2' : ¬ (n : Int) < 2 := by omega
    have q1 : IntKind.i64.wrap ((n : Int) - 1) = (n : Int) - 1 := IntWalk.i64_in _ (by omega)
    clear hr hp hn
    go_wp2_with fail
    refine (pyHalf_any _ _ _ s (by rw [HN.out]; exact HR.out) (by rw [← HN.out]; exact hle) HS.out).mono ?_
    rintro e w2 ⟨vl, rfl, hlow, b2⟩
    have hb2 := bel2 b1 b2
    go_wp2
    go_loopw [5, 6] (fun o i wr => ∃ k : Nat, k ≤ n ∧ i = .int .i64 ((n : Int) - 1 - k) ∧ PtS wr w2.heap.size o (s.reverse.take k) ∧ Below w2.heap.size w2 wr) (fun _ i _ => ((intOf i) + 1).toNat)
    case atStart => exact ⟨0, by omega, by simp, by rw [List.take_zero]; exact FS.nil_ _ _ _ _, Below.refl _ _⟩
    case round =>
      obtain ⟨k, hk, rfl, ho, hb⟩ := hrel
      by_cases hlt : k < n
      · have hks : k < s.length := by rw [← HN.out]; exact hlt
        obtain ⟨g, rfl, hc0⟩ := HP.out (n - 1 - k) (by rw [← HN.out]; omega)
        obtain ⟨p, hpe⟩ : ∃ p, p = pd s (n - 1 - k) := ⟨_, rfl⟩
        have HNX := Lib.hid (show s.reverse.take (k + 1) = s.reverse.take k ++ [p] by rw [take_rev s k hks, hpe, HN.out])
        rw [← hpe] at hc0
        obtain ⟨c0, c1⟩ := X2.below (X2.below hc0 b2) hb
        obtain ⟨j, hj⟩ : ∃ j, j = n - 1 - k := ⟨_, rfl⟩
        have hji : (n : Int) - 1 - k = (j : Int) := by omega
        rw [← hj] at c0 c1
        rw [hji]
        have hjn : j < n := by omega
        have q2 : IntKind.i64.wrap ((j : Int) - 1) = (j : Int) - 1 := IntWalk.i64_in _ (by omega)
        have HJ := Lib.hid (show (j : Int) - 1 = (n : Int) - 1 - ((k + 1 : Nat) : Int) by omega)
        have HB := Lib.hid hb
        have HLT := Lib.hid (fun g hg => (World.ownsRow.lt ho g hg).1)
        have hwr := hb.size
        have ho' := FS.alloc ho (.cells #[.int .i64 p.1, .int .i64 p.2] 35)
        have htk : (s.reverse.take k).length ≤ 1000000 := by rw [List.length_take, List.length_reverse]; omega
        clear hc0 hpe hj hji ho hb
        go_wp2_with (at_builtin; refine wpList_append_pt _ rfl _ _ rfl w2.heap.size _ (s.reverse.take k) rfl ho' wr.heap.size p rfl (P2.new wr p _) htk (by simp; omega) ?_; intro v' w3 hown' hgrow)
        go_roundw
        case rel => exact ⟨k + 1, by omega, by rw [HJ.out], by rw [HNX.out]; exact hown', (HB.out.alloc hwr _).grown hgrow (by simp; omega) HLT.out⟩
        case measure => simp [intOf] <;> omega
      · obtain rfl : k = n := by omega
        have hneg : ¬ (0 : Int) ≤ (k : Int) - 1 - (k : Int) := by omega
        rw [show s.reverse.take k = s.reverse by rw [HN.out, ← List.length_reverse, List.take_length]] at ho
        have HB := Lib.hid (bel2 hb2 hb)
        have hlow' := Lib.hid (FS.below hlow hb)
        have HB2 := Lib.hid hb
        clear hb q1
        go_wp2_with fail
        refine (pyHalf_any _ _ _ s.reverse ho (by rw [List.length_reverse, ← HN.out]; exact hle) (fun q hq => HS.out q (List.mem_reverse.1 hq))).mono ?_
        rintro e w3 ⟨vu, rfl, hup, b3⟩
        have HL := Lib.hid (FS.below hlow'.out b3)
        have HU := Lib.hid hup
        have HB3 := Lib.hid (bel2 HB.out b3)
        clear b3 ho
        obtain ⟨ul, hul⟩ : ∃ ul, ul = (stkH trn s).reverse := ⟨_, rfl⟩
        obtain ⟨uu, huu⟩ : ∃ uu, uu = (stkH trn s.reverse).reverse := ⟨_, rfl⟩
        have e1 : ul.length = (stkH trn s).length := by rw [hul, List.length_reverse]
        have e2 : uu.length = (stkH trn s.reverse).length := by rw [huu, List.length_reverse]
        rw [← e1] at hlow2 hlow3
        rw [← e2] at hup2 hup3
        rw [← hul] at HL HE hlow
        rw [← huu] at HU HE hup
        obtain ⟨gl, capl, rfl, -, hcl, -⟩ := PtS.some hlow (by omega)
        obtain ⟨gu, capu, rfl, -, hcu, -⟩ := PtS.some hup (by omega)
        obtain ⟨a, ha⟩ : ∃ a, a = ul.length := ⟨_, rfl⟩
        obtain ⟨b, hb⟩ : ∃ b, b = uu.length := ⟨_, rfl⟩
        have HA := Lib.hid ha
        have HBB := Lib.hid hb
        have HNL := Lib.hid (ptS_news rfl HL.out)
        have HNU := Lib.hid (ptS_news rfl HU.out)
        rw [← ha] at hlow2 hlow3 hcl ⊢
        rw [← hb] at hup2 hup3 hcu ⊢
        clear hul huu e1 e2 ha hb hlow hup hlow' hneg
        have q3 : IntKind.i64.wrap ((a : Int) - 1) = ((a - 1 : Nat) : Int) := by rw [IntWalk.i64_in _ (by omega)]; omega
        have q4 : IntKind.i64.wrap ((b : Int) - 1) = ((b - 1 : Nat) : Int) := by rw [IntWalk.i64_in _ (by omega)]; omega
        have l1 : a - 1 ≤ capl := by omega
        have l2 : b - 1 ≤ capu := by omega
        have l3 : ¬ capl = 0 := by omega
        have l4 : ¬ capu = 0 := by omega
        have hS : Below w3.heap.size w3 w3 := Below.refl _ _
        go_wp2_with fail
        go_region_held3 (fun w' => Below w3.heap.size w3 w') (repeat' (first | with_reducible assumption | with_reducible refine Below.drew ?_ | with_reducible refine belN ?_ _ | with_reducible refine belA ?_ _)) (first | (refine step_app_b (by rfl) (.tmp 32) (.tmp 37) (by rfl) w3 (.slice (some ⟨w3.heap.size, 0, none⟩) 0 0) 0 [] (by rfl) (twP_new _ _ (Nat.le_refl _)) ⟨gl, 0, none⟩ (a - 1) _ ((flatP ul).take ((a - 1) * 2)) (by rfl) (by rw [List.length_take, flatP_len, ← HA.out]; omega) (preP_news HNL.out (by assumption) _) (by omega) (by assumption) ?_; intro v1 w4 hown1 hS1) | (refine step_app_b (by rfl) (.tmp 38) (.tmp 43) (by rfl) w3 v1 (0 + (a - 1)) ([] ++ (flatP ul).take ((a - 1) * 2)) (by rfl) hown1 ⟨gu, 0, none⟩ (b - 1) _ ((flatP uu).take ((b - 1) * 2)) (by rfl) (by rw [List.length_take, flatP_len, ← HBB.out]; omega) (preP_news HNU.out (by assumption) _) (by omega) (by assumption) ?_; intro v2 w5 hown2 hS2))
        all_goals
          go_wp2
          go_ret
          have hrow := FS.base (zs := [] ++ (flatP ul).take ((a - 1) * 2) ++ (flatP uu).take ((b - 1) * 2)) hown2 HB3.out.size
          refine ⟨_, rfl, ?_, bel2 HB3.out hS2⟩
          rw [HE.out]
          have el : (ul.dropLast ++ uu.dropLast).length = 0 + (a - 1) + (b - 1) := by rw [List.length_append, List.length_dropLast, List.length_dropLast, ← HA.out, ← HBB.out]; omega
          unfold PtS
          rw [el, flatP_app, List.dropLast_eq_take, List.dropLast_eq_take, ← flatP_take, ← flatP_take, ← HA.out, ← HBB.out]
          exact hrow
theorem pyGood_any (w : World) (B : Nat) (v : Value) (l : List Pt) (h : PtS w B v l) : Calls Try.prog 25 #[v] w fun e w' => e = .returned (.bool (pgB l)) ∧ Below w.heap.size w w' := by
  have H := Lib.hid h
  cases hq : ptsB l
  · have HQ := Lib.hid hq
    have HG := Lib.hid (show pgB l = false by unfold pgB; rw [hq]; rfl)
    clear hq h
    go_enter Try.func25, Try.ntmps25
    go_wp2_with fail
    refine (pyPoints_any _ B _ l H.out).mono ?_
    rintro e w1 ⟨rfl, b1⟩
    rw [HQ.out]
    go_wp2
    go_ret
    exact ⟨ret_bool HG.out.symm, b1⟩
  · have HQ := Lib.hid hq
    have HG := Lib.hid (show pgB l = decide (hulL l = l) by unfold pgB; rw [hq]; rfl)
    have HZ := Lib.hid ((ptsB_iff l).1 hq)
    clear hq h
    go_enter Try.func25, Try.ntmps25
    go_wp2_with fail
    refine (pyPoints_any _ B _ l H.out).mono ?_
    rintro e w1 ⟨rfl, b1⟩
    rw [HQ.out]
    have h1 := Lib.hid (FS.below H.out b1)
    go_wp2_with fail
    refine (pyHull_any _ B _ l h1.out (by have := HZ.out.2.1; omega) (fun q hq => (pts_sm HQ.out q hq).mono (by omega))).mono ?_
    rintro e w2 ⟨r, rfl, hr, b2⟩
    have h2 := Lib.hid (FS.below h1.out b2)
    go_wp2_with fail
    refine (pySame_any _ _ _ _ _ (hulL l) l hr h2.out).mono ?_
    rintro e w3 ⟨rfl, b3⟩
    go_wp2
    go_ret
    exact ⟨ret_bool HG.out.symm, bel2 (bel2 b1 b2) b3⟩
/-- A point behind a row of points of our own, which then lies where it lay or in a new block. -/
theorem wpList_append_ptl {ops : Array Oper} {rest : List Oper} {o : Oper} {a : Act} {Q : Exit → Act → World → Prop} (w : World) (hgd : o.guard = none) (s x : Operand)
    (ho : o.op = .call { callee := .builtin .append, args := #[s, x], argTypes := #[23, 23] })
    (B : Nat) (v : Value) (l : List Pt) (hs : a.eval s = v) (hown : PtS w B v l) (n : Nat) (p : Pt) (hx : a.eval x = .slice (some ⟨n, 0, none⟩) 1 1)
    (hp : P2 w n p) (hn : l.length ≤ 1000000) (hB : B ≤ w.heap.size) (H : Nat) (hH : w.heap.size = H)
    (h : ∀ v' w', PtS w' B v' (l ++ [p]) → w.grownBy w' v.ownBlock → (∀ g, v'.ownBlock = some g → v.ownBlock = some g ∨ g = H) → wpList Try.prog ops Q rest (a.put o.dst v') w') :
    wpList Try.prog ops Q (o :: rest) a w := by
  obtain ⟨i0, hi, hz0, hz1, hz2⟩ := info_parts infoPoint
  refine wpList_append_lies w hgd s x 23 ho B 35 i0 (.agg #[.int .i64 0, .int .i64 0]) 2 16 Try.underlying23 hi hz0 hz1 hz2 rfl (by decide) v l.length _ hs hown ⟨n, 0, none⟩ 1 1 (ints (encP p)) hx rfl (P2.news hp) (by intro u hu; simp [ints, encP] at hu; rcases hu with rfl | rfl <;> rfl) (by omega) (by unfold maxLen; omega) (by omega) hB H hH ?_
  intro g cap w' h1 h2 h3 h4
  refine h _ w' (ptS_snoc rfl h1) h2 fun g' hg' => ?_
  simp only [Value.ownBlock, Option.some.injEq] at hg'
  subst hg'
  exact h3
theorem ent_taken : EntP 49 := enters_of Try.func49 (by kernel_rfl) rfl
theorem cor_up : CorP 49 #[.int .i64 1] trn := fun W a b c ha hb hc => by
  have := taken_any 1 (.inl rfl) a b c W ha hb hc
  rw [show (1 : Int) * trn a b c = trn a b c by omega] at this
  exact this
theorem cor_dn : CorP 49 #[.int .i64 (-1)] trnN := fun W a b c ha hb hc => by
  have := taken_any (-1) (.inr rfl) a b c W ha hb hc
  rw [show (-1 : Int) * trn a b c = trnN a b c by unfold trnN; omega] at this
  exact this
theorem up_at (U : List Pt) (k : Nat) (hk : k + 2 < U.length) : U.tail.take (k + 1) = U.tail.take k ++ [pd U.reverse (U.length - 2 - k)] := by
  rw [take_pd U.tail k (by rw [List.length_tail]; omega)]
  congr 2
  unfold pd
  rw [List.getD_eq_getElem?_getD, List.getD_eq_getElem?_getD, List.getElem?_reverse (by omega), List.getElem?_tail]
  congr 2
  omega
/-- The list is one that nobody else has: x is a world before it. -/
theorem hullOf_any (x w : World) (B : Nat) (v : Value) (l : List Pt) (h : PtS w B v l) (hz : l.length ≤ 100000) (hsm : ∀ q ∈ l, Sm 1000 q) (hx : Below x.heap.size x w) (hB : x.heap.size ≤ B) : Calls Try.prog 24 #[v] w fun e w' => GivesPt (hulL l) x e w' := by
  have HSM := Lib.hid hsm
  have HLT := Lib.hid (fun g hg => Nat.le_trans hB (World.ownsRow.lt h g hg).1)
  have HSS := Lib.hid (sort_srt l)
  have HSL := Lib.hid (sortP_len l)
  have HLE := Lib.hid (srtP_le l)
  clear hsm
  go_enter Try.func24, Try.ntmps24
  go_wp2_with fail
  refine (sortFuncP_any _ B _ l h (by omega)).mono ?_
  rintro e w1 ⟨rfl, h1, g1⟩
  have hb1 := hx.grown g1 hx.size HLT.out
  go_wp2_with fail
  refine (compactP_any _ B _ (sortP l) h1 (by rw [HSL.out]; omega)).mono ?_
  rintro e w2 ⟨r, rfl, hr, g2⟩
  have hb2 := hb1.grown g2 hb1.size HLT.out
  rw [HSS.out] at hr
  obtain ⟨s, hs⟩ : ∃ s, s = srtP l := ⟨_, rfl⟩
  have HS := Lib.hid (show ∀ q ∈ s, Sm 1000 q by rw [hs]; exact srt_sm HSM.out)
  rw [← hs] at hr HLE
  have hle : s.length ≤ 100000 := by have := HLE.out; omega
  have HU := Lib.hid (show hulL l = (stkH trn s).reverse ++ (stkH trnN s).tail.dropLast by unfold hulL lowH uppH; rw [← hs])
  have HR := Lib.hid hr
  have HB2 := Lib.hid hb2
  clear h h1 g1 g2 hb1 hs HSS HSL HLT HLE hx hb2
  go_wp2_with fail
  refine (keepCornersP_any _ _ _ trn ent_taken B _ s HS.out hle HR.out cor_up).mono ?_
  rintro e w3 ⟨vl, rfl, hlow, b3⟩
  have h3 := FS.below HR.out b3
  go_wp2_with fail
  refine (keepCornersP_any _ _ _ trnN ent_taken B _ s HS.out hle h3 cor_dn).mono ?_
  rintro e w4 ⟨vu, rfl, hup, b4⟩
  have hlow4 := Lib.hid (FS.below hlow b4)
  have HB4 := Lib.hid (bel2 (bel2 HB2.out b3) b4)
  have hxs := (bel2 HB2.out b3).size
  have hxs2 := HB2.out.size
  obtain ⟨U, hU⟩ : ∃ U, U = stkH trnN s := ⟨_, rfl⟩
  have hUl : U.length ≤ 100000 := by rw [hU]; exact Nat.le_trans (stkH_le _ _) hle
  have hLl : (stkH trn s).length ≤ 100000 := Nat.le_trans (stkH_le _ _) hle
  rw [← hU] at hup HU
  obtain ⟨L, hL⟩ : ∃ L, L = (stkH trn s).reverse := ⟨_, rfl⟩
  have hLL : L.length ≤ 100000 := by rw [hL, List.length_reverse]; exact hLl
  rw [← hL] at hlow4 HU
  have hbl := HB4.out.size
  obtain ⟨A, cap, rfl, -, hp⟩ := PtS.parts hup
  have HP := Lib.hid hp
  rw [List.length_reverse]
  obtain ⟨m, hm⟩ : ∃ m, m = U.length := ⟨_, rfl⟩
  have HM := Lib.hid hm
  rw [← hm] at hUl ⊢
  have q1 : IntKind.i64.wrap ((m : Int) - 2) = (m : Int) - 2 := IntWalk.i64_in _ (by omega)
  have hrow0 := FS.base hlow4.out hxs2
  have HNE := Lib.hid (show ∀ g gu, vl.ownBlock = some g → A = some ⟨gu, 0, none⟩ → g ≠ gu from fun g gu hg hA => by
    have h1 := (World.ownsRow.lt hlow g hg).2
    have h2 := (World.ownsRow.lt hup gu (by rw [hA]; rfl)).1
    omega)
  clear hp hm hU hL hlow hup b3 b4 h3 hr hLl
  go_wp2
  clear q1
  go_loopw [3, 5] (fun o i wr => ∃ k : Nat, (k : Int) ≤ max 0 ((m : Int) - 2) ∧ i = .int .i64 ((m : Int) - 2 - k) ∧ PtS wr x.heap.size o (L ++ U.tail.take k) ∧ Below x.heap.size x wr ∧ Hid (∀ j, j < m → ∃ g, A = some ⟨g, 0, none⟩ ∧ X2 wr g (j * 2) (pd U.reverse j)) ∧ Hid (∀ g gu, o.ownBlock = some g → A = some ⟨gu, 0, none⟩ → g ≠ gu)) (fun _ i _ => (intOf i).toNat)
  case atStart => exact ⟨0, by omega, by simp, by rw [List.take_zero, List.append_nil]; exact hrow0, HB4.out, Lib.hid (fun j hj => HP.out j (by rw [List.length_reverse, ← HM.out]; exact hj)), HNE⟩
  case round =>
    obtain ⟨k, hk, rfl, ho, hb, HC, hne⟩ := hrel
    clear hrow0 HNE
    by_cases hlt : (k : Int) < (m : Int) - 2
    · obtain ⟨j, hj⟩ : ∃ j, j = m - 2 - k := ⟨_, rfl⟩
      have hjm : j < m := by omega
      obtain ⟨gu, rfl, hc0⟩ := HC.out j hjm
      obtain ⟨p, hpe⟩ : ∃ p, p = pd U.reverse j := ⟨_, rfl⟩
      rw [← hpe] at hc0
      have HNX := Lib.hid (show U.tail.take (k + 1) = U.tail.take k ++ [p] by rw [up_at U k (by rw [← HM.out]; omega), hpe, hj, HM.out])
      obtain ⟨c0, c1⟩ := hc0
      have hgl : gu < wr.heap.size := cell_lt c0
      have hji : (m : Int) - 2 - k = (j : Int) := by omega
      rw [hji]
      have hj0 : (0 : Int) < (j : Int) := by omega
      have q2 : IntKind.i64.wrap ((j : Int) - 1) = (j : Int) - 1 := IntWalk.i64_in _ (by omega)
      have HJ := Lib.hid (show (j : Int) - 1 = (m : Int) - 2 - ((k + 1 : Nat) : Int) by omega)
      have HK := Lib.hid (show ((k + 1 : Nat) : Int) ≤ max 0 ((m : Int) - 2) by omega)
      have HB := Lib.hid hb
      have HLT2 := Lib.hid (fun g hg => (World.ownsRow.lt ho g hg).1)
      have HLT3 := Lib.hid (fun g hg => (World.ownsRow.lt ho g hg).2)
      have hwr := hb.size
      have ho' := FS.alloc ho (.cells #[.int .i64 p.1, .int .i64 p.2] 35)
      have htk : (L ++ U.tail.take k).length ≤ 1000000 := by rw [List.length_append, List.length_take, List.length_tail, ← HM.out]; omega
      have HC' := Lib.hid (fun j hj => by
        obtain ⟨g', hg', hx⟩ := HC.out j hj
        obtain rfl : gu = g' := by simpa using hg'
        exact (hx : X2 wr gu (j * 2) (pd U.reverse j)))
      clear hpe hj hji ho hb HC hk hlt
      go_wp2_with (at_builtin; refine wpList_append_ptl _ rfl _ _ rfl x.heap.size _ (L ++ U.tail.take k) rfl ho' wr.heap.size p rfl (P2.new wr p _) htk (by simp; omega) _ rfl ?_; intro v' w5 hown' hgrow hat)
      go_roundw
      case rel =>
        refine ⟨k + 1, HK.out, by rw [HJ.out], by rw [HNX.out, ← List.append_assoc]; exact hown', (HB.out.alloc hwr _).grown hgrow (by simp; omega) HLT2.out, Lib.hid fun j hj => ⟨gu, rfl, ?_⟩, Lib.hid fun g gu' hg hgu => ?_⟩
        · have hx := X2.below (HC'.out j hj) ((Below.refl _ wr).alloc (Nat.le_refl _) (.cells #[.int .i64 p.1, .int .i64 p.2] 35))
          have hno : some gu ≠ u3.ownBlock := fun h => hne.out gu gu h.symm rfl rfl
          exact ⟨hgrow.cell (a := ⟨gu, j * 2, none⟩) hx.1 hno, hgrow.cell (a := ⟨gu, j * 2 + 1, none⟩) hx.2 hno⟩
        · obtain rfl : gu = gu' := by simpa using hgu
          rcases hat g hg with h | h
          · exact hne.out g gu h rfl
          · rw [World.size_alloc] at h; omega
      case measure => simp [intOf] <;> omega
    · have hneg : ¬ (0 : Int) < (m : Int) - 2 - (k : Int) := by omega
      have HE := Lib.hid (show U.tail.take k = U.tail.dropLast by
        rw [List.dropLast_eq_take, List.length_tail, ← HM.out]
        by_cases h2 : 2 ≤ m
        · rw [show k = m - 1 - 1 by omega]
        · have : U.tail = [] := List.length_eq_zero_iff.1 (by rw [List.length_tail, ← HM.out]; omega)
          rw [this]; simp)
      obtain ⟨R, hR⟩ : ∃ R, R = L ++ U.tail.take k := ⟨_, rfl⟩
      have HRR := Lib.hid (show hulL l = R by rw [HU.out, ← HE.out, hR])
      rw [← hR] at ho
      have HO := Lib.hid ho
      obtain ⟨A', cap', rfl, -, -⟩ := PtS.parts ho
      clear hne hR ho
      go_wp2
      go_ret
      exact ⟨_, rfl, by rw [HRR.out]; exact HO.out, hb⟩
end Go.Proofs.Ytamejfeaniokfaa
/-
  Hulls, polygons and edges in the program: what the calls return.
  Conditions: the slice reads as the list that is named; coordinates of edges are small.
-/
namespace Go.Proofs.Ytamejfeaniokfaa
set_option linter.unusedSimpArgs false
set_option linter.unusedVariables false
open Go.ChangeShapes Go.WideShapes Go.ChangeAt Go.RowKit
open Go.Sort (grow)

theorem ptsB_few {l : List Pt} (h : ¬ 1 ≤ l.length) : ptsB l = false := by unfold ptsB; rw [decide_eq_false h]; rfl
theorem ptsB_many {l : List Pt} (h : ¬ l.length ≤ 40) : ptsB l = false := by unfold ptsB; rw [decide_eq_false h]; simp
set_option maxHeartbeats 1000000 in
set_option maxRecDepth 100000 in
theorem implHullOf_any (w : World) (B : Nat) (v : Value) (l : List Pt) (h : PtS w B v l) : Calls Try.prog 33 #[v] w fun e w' => GivesPtB (ptsB l) (huR l) w e w' := by
  have H := Lib.hid h
  obtain ⟨A, cap, rfl, hm, hp⟩ := PtS.parts h
  have HP := Lib.hid hp
  obtain ⟨n, hn⟩ : ∃ n, n = l.length := ⟨_, rfl⟩
  have HN := Lib.hid hn
  rw [← hn] at hm ⊢
  unfold maxLen at hm
  clear hp h hn
  by_cases h1 : n < 1
  · have HQ := Lib.hid (ptsB_few (l := l) (by rw [← HN.out]; omega))
    have h1' : (n : Int) < 1 := by omega
    go_enter Try.func33, Try.ntmps33
    go_wp2
    go_ret2
    exact givesPtB_nil HQ.out (huR_no HQ.out) (Below.refl _ _)
  · by_cases h2 : 40 < n
    · have HQ := Lib.hid (ptsB_many (l := l) (by rw [← HN.out]; omega))
      have h1' : ¬ (n : Int) < 1 := by omega
      have h2' : (40 : Int) < (n : Int) := by omega
      go_enter Try.func33, Try.ntmps33
      go_wp2
      go_ret2
      exact givesPtB_nil HQ.out (huR_no HQ.out) (Below.refl _ _)
    · have h1' : ¬ (n : Int) < 1 := by omega
      have h2' : ¬ (40 : Int) < (n : Int) := by omega
      have HT := Lib.hid (fun t W => implIsPoint_any t W)
      go_enter Try.func33, Try.ntmps33
      go_wp2
      go_loopw [16] (fun i wr => ∃ k : Nat, k ≤ n ∧ i = .int .i64 k ∧ Hid ((l.take k).all ptG = true) ∧ Below w.heap.size w wr) (fun i _ => n - (intOf i).toNat)
      case atStart => exact ⟨0, by omega, rfl, Lib.hid rfl, Below.refl _ _⟩
      case round =>
        obtain ⟨k, hk, rfl, hup, hb⟩ := hrel
        by_cases hlt : k < n
        · have hkl : k < l.length := by rw [← HN.out]; exact hlt
          obtain ⟨g, rfl, hc0⟩ := HP.out k hkl
          obtain ⟨c0, c1⟩ := X2.below hc0 hb
          obtain ⟨p, hpe⟩ : ∃ p, p = pd l k := ⟨_, rfl⟩
          have HPE := Lib.hid hpe
          rw [← hpe] at c0 c1
          have hb2 := hb.alloc hb.size (.cells #[.int .i64 p.1, .int .i64 p.2] 35)
          clear hc0 hpe
          cases hq : ptG p
          · have HT' := Lib.hid (fun W => show Calls Try.prog 37 #[ptV p] W fun e w' => e = .returned (.bool false) ∧ Gr W w' by rw [← hq]; exact HT.out p W)
            have HQ := Lib.hid (all_badP l k hkl (by rw [← HPE.out]; exact hq))
            clear hq
            go_wp2_with fail
            refine (HT'.out _).mono ?_
            rintro e w1 ⟨rfl, g1⟩
            go_wp2
            go_ret2
            exact givesPtB_nil HQ.out (huR_no HQ.out) (bel2 hb2 g1.below)
          · have HT' := Lib.hid (fun W => show Calls Try.prog 37 #[ptV p] W fun e w' => e = .returned (.bool true) ∧ Gr W w' by rw [← hq]; exact HT.out p W)
            have HQ := Lib.hid (all_nextP l k hkl hup.out (by rw [← HPE.out]; exact hq))
            clear hq
            go_wp2_with fail
            refine (HT'.out _).mono ?_
            rintro e w1 ⟨rfl, g1⟩
            go_wp2
            go_roundw
            case rel => exact ⟨k + 1, by omega, by go_num, HQ, bel2 hb2 g1.below⟩
            case measure => simp [intOf]; omega
        · obtain rfl : k = n := by omega
          have HQ := Lib.hid (show ptsB l = true by rw [ptsB_end (by have := hup.out; rwa [HN.out, List.take_length] at this), inB_iff, ← HN.out]; omega)
          have hH := FS.below H.out hb
          have hH' : PtS wr B (.slice A k cap) l := by rw [HN.out]; exact hH
          go_wp2_with fail
          refine (cloneP_any _ B _ l hH' (by rw [← HN.out]; omega)).mono ?_
          rintro e w2 ⟨r, rfl, hr, b2⟩
          have hb2 := bel2 hb b2
          go_wp2_with fail
          refine (hullOf_any w _ _ _ l hr (by rw [← HN.out]; omega) (fun q hq => (pts_sm HQ.out q hq).mono (by omega)) hb2 hb.size).mono ?_
          rintro e w3 ⟨r3, rfl, hr3, b3⟩
          go_wp2
          go_ret2
          exact givesPtB_yes HQ.out (by rw [huR_yes HQ.out]; exact hr3) b3
theorem implIsPolygon_any (w : World) (B : Nat) (v : Value) (l : List Pt) (h : PtS w B v l) : Calls Try.prog 17 #[v] w fun e w' => e = .returned (.bool (pgB l)) ∧ Below w.heap.size w w' := by
  have H := Lib.hid h
  clear h
  cases hq : ptsB l
  · have HG := Lib.hid (show pgB l = false by unfold pgB; rw [hq]; rfl)
    have HQ := Lib.hid hq
    clear hq
    go_enter Try.func17, Try.ntmps17
    go_wp2_with fail
    refine (implHullOf_any _ B _ l H.out).mono ?_
    rintro e w1 ⟨r, rfl, hr, b1⟩
    rw [HQ.out]
    go_wp2
    go_ret
    exact ⟨ret_bool HG.out.symm, b1⟩
  · have HG := Lib.hid (show pgB l = decide (hulL l = l) by unfold pgB; rw [hq]; rfl)
    have HQ := Lib.hid hq
    clear hq
    go_enter Try.func17, Try.ntmps17
    go_wp2_with fail
    refine (implHullOf_any _ B _ l H.out).mono ?_
    rintro e w1 ⟨r, rfl, hr, b1⟩
    rw [HQ.out]
    rw [huR_yes HQ.out] at hr
    have h1 := Lib.hid (FS.below H.out b1)
    go_wp2_with fail
    refine (equalP_any _ _ _ _ _ (hulL l) l hr h1.out).mono ?_
    rintro e w2 ⟨rfl, b2⟩
    go_wp2
    go_ret
    exact ⟨ret_bool HG.out.symm, bel2 b1 b2⟩
/-- The edge at a corner; all edges. -/
def nxP (l : List Pt) (k : Nat) : Pt := pd l ((k + 1) % l.length)
def edP (l : List Pt) (k : Nat) : Pt := dfP (pd l k) (nxP l k)
def edT (l : List Pt) (k : Nat) : List Pt := (List.range k).map (edP l)
def edL (l : List Pt) : List Pt := if l.length = 1 then [] else edT l l.length
theorem edT_len (l : List Pt) (k : Nat) : (edT l k).length = k := by simp [edT]
theorem edT_next (l : List Pt) (k : Nat) : edT l (k + 1) = edT l k ++ [edP l k] := by simp [edT, List.range_succ]
theorem edT_pd (l : List Pt) {k n : Nat} (h : k < n) : pd (edT l n) k = edP l k := by
  rw [pd_eq _ _ (by rw [edT_len]; exact h)]; simp [edT]
theorem nx_lt {l : List Pt} (h : 0 < l.length) (k : Nat) : (k + 1) % l.length < l.length := Nat.mod_lt _ h
theorem nx_sm {m : Nat} {l : List Pt} (h : ∀ q ∈ l, Sm m q) (h0 : 0 < l.length) (k : Nat) : Sm m (nxP l k) := h _ (pd_mem (nx_lt h0 k))
theorem edL_sm {m : Nat} {l : List Pt} (h : ∀ q ∈ l, Sm m q) : ∀ q ∈ edL l, Sm (2 * m) q := fun q hq => by
  unfold edL at hq
  split at hq
  · simp at hq
  · unfold edT at hq
    obtain ⟨k, hk, rfl⟩ := List.mem_map.1 hq
    have hk := List.mem_range.1 hk
    exact (h _ (pd_mem hk)).df (nx_sm h (by omega) k)
theorem rem_nat (k n : Nat) : ((k : Int) + 1).tmod (n : Int) = (((k + 1) % n : Nat) : Int) := by
  rw [show ((k : Int) + 1) = ((k + 1 : Nat) : Int) by omega]; rfl
theorem partP_pt (zs : List Int) (j : Nat) (hj : j * 2 + 1 < zs.length) : ((part zs (j * 2)).set (j * 2) (gd zs (j * 2))).set (j * 2 + 1) (gd zs (j * 2 + 1)) = part zs ((j + 1) * 2) := by
  rw [part_set zs (j * 2) (by omega), part_set zs (j * 2 + 1) hj]
  congr 1
  omega
/-- A corner's block, the next corner in its row, and nothing that lay there when x was has changed. -/
abbrev SE (x : World) (gc gr o : Nat) (p q : Pt) (w : World) : Prop := w.cell? ⟨gc, 0, none⟩ = some (.int .i64 p.1) ∧ w.cell? ⟨gc, 1, none⟩ = some (.int .i64 p.2) ∧ w.cell? ⟨gr, o, none⟩ = some (.int .i64 q.1) ∧ w.cell? ⟨gr, o + 1, none⟩ = some (.int .i64 q.2) ∧ Below x.heap.size x w
theorem SE.of {x w : World} {gc gr o : Nat} {p q : Pt} (h : P2 w gc p) (h' : X2 w gr o q) (hb : Below x.heap.size x w) : SE x gc gr o p q w := ⟨h.1, h.2, h'.1, h'.2, hb⟩
theorem SE.drew {x w : World} {gc gr o : Nat} {p q : Pt} (h : SE x gc gr o p q w) : SE x gc gr o p q w.drew := ⟨h.1, h.2.1, h.2.2.1, h.2.2.2.1, h.2.2.2.2.drew⟩
theorem SE.gr {x w w' : World} {gc gr o : Nat} {p q : Pt} (h : SE x gc gr o p q w) (g : Gr w w') : SE x gc gr o p q w' := by
  have h1 := P2.below ⟨h.1, h.2.1⟩ g.below
  have h2 := X2.below ⟨h.2.2.1, h.2.2.2.1⟩ g.below
  exact ⟨h1.1, h1.2, h2.1, h2.2, bel2 h.2.2.2.2 g.below⟩
theorem SE.set {x w : World} {gc gr o : Nat} {p q : Pt} (h : SE x gc gr o p q w) (ge j : Nat) (v : Value) (h1 : gc ≠ ge) (h2 : gr ≠ ge) (h3 : x.heap.size ≤ ge) : SE x gc gr o p q (w.setCell ⟨ge, j, none⟩ v) :=
  ⟨(World.cell?_setCell_other _ _ _ _ (by simp <;> omega)).trans h.1, (World.cell?_setCell_other _ _ _ _ (by simp <;> omega)).trans h.2.1, (World.cell?_setCell_other _ _ _ _ (by simp <;> omega)).trans h.2.2.1, (World.cell?_setCell_other _ _ _ _ (by simp <;> omega)).trans h.2.2.2.1, h.2.2.2.2.setCell h3 _⟩
theorem row_cells {T : TypeId} {x w : World} {B g n : Nat} {zs : List Int} (h : x.ownsRow B T 2 (.slice (some ⟨g, 0, none⟩) n n) n (ints zs)) (hb : Below x.heap.size x w) (o : Nat) (ho : o + 1 < n * 2) (hl : n * 2 = zs.length) :
    w.cell? ⟨g, o, none⟩ = some (.int .i64 (gd zs o)) ∧ w.cell? ⟨g, o + 1, none⟩ = some (.int .i64 (gd zs (o + 1))) ∧ w.frozen? ⟨g, o, none⟩ = false ∧ w.frozen? ⟨g, o + 1, none⟩ = false := by
  have hr : w.ownsRow B T 2 (.slice (some ⟨g, 0, none⟩) n n) n (ints zs) := FS.below (zs := zs) h hb
  refine ⟨?_, ?_, World.ownsRow.frozenAt hr _, World.ownsRow.frozenAt hr _⟩
  · rw [World.ownsRow.cellAt hr o (by omega), getD_ints zs o (by omega)]
  · rw [World.ownsRow.cellAt hr (o + 1) (by omega), getD_ints zs (o + 1) (by omega)]
set_option maxHeartbeats 2000000 in
set_option maxRecDepth 100000 in
theorem edgesOf_any (w : World) (B : Nat) (v : Value) (l : List Pt) (h : PtS w B v l) (h0 : 0 < l.length) (hz : l.length ≤ 100000) (hsm : ∀ q ∈ l, Sm 1000 q) : Calls Try.prog 29 #[v] w fun e w' => GivesPt (edL l) w e w' := by
  have HSM := Lib.hid hsm
  have H0 := Lib.hid h
  obtain ⟨A, cap, rfl, hm, hp⟩ := PtS.parts h
  have HP := Lib.hid hp
  obtain ⟨n, hn⟩ : ∃ n, n = l.length := ⟨_, rfl⟩
  have HN := Lib.hid hn
  rw [← hn] at h0 hz ⊢
  clear hp h hn hm hsm
  by_cases h1 : n = 1
  · have HE := Lib.hid (show edL l = [] by unfold edL; rw [if_pos (by rw [← HN.out]; exact h1)])
    subst h1
    go_enter Try.func29, Try.ntmps29
    go_wp2
    go_ret
    exact ⟨_, rfl, by rw [HE.out]; exact FS.nil_ _ _ _ _, Below.refl _ _⟩
  · have HE := Lib.hid (show edL l = edT l n by unfold edL; rw [if_neg (by rw [← HN.out]; exact h1), HN.out])
    have h1' : ¬ (n : Int) = 1 := by omega
    have HQ := Lib.hid (fun p q W (hp : Sm 1000 p) (hq : Sm 1000 q) => stepTo_any p q W hp hq)
    obtain ⟨zs, hzs⟩ : ∃ zs, zs = flatP (edT l n) := ⟨_, rfl⟩
    have HZ := Lib.hid hzs
    have HZL := Lib.hid (show zs.length = n * 2 by rw [hzs, flatP_len, edT_len])
    obtain ⟨i0, hi, hz0, hz1, hz2⟩ := info_parts infoPoint
    clear hzs
    go_enter Try.func29, Try.ntmps29
    go_wp2_with (refine wpList_make_full _ rfl _ _ 23 rfl w.heap.size 35 i0 (.agg #[.int .i64 0, .int .i64 0]) 2 Try.underlying23 hi hz0 hz1 .i64 .i64 _ _ n rfl rfl rfl rfl (by rw [hz2]; omega) (by simp only [maxLen]; omega) (Nat.le_refl _) ?_; intro w2 hown hgrow)
    have hrow0 : w2.ownsRow w.heap.size 35 2 (.slice (some ⟨w.heap.size, 0, none⟩) n n) n (ints (part zs 0)) := by
      rw [show (madeCells (.agg #[.int .i64 0, .int .i64 0] : Value).cells (n * 2)).toList = ints (part zs 0) from by
        rw [show part zs 0 = List.replicate (n * 2) 0 by simp [part, HZL.out]]
        exact made_ints 2 _ (by omega)] at hown
      exact hown
    have hb0 : Below w.heap.size w w2 := (Below.refl _ w).grown hgrow (Nat.le_refl _) (fun _ h => by cases h)
    clear hown hgrow
    go_loopw [14] (fun i wr => ∃ j : Nat, j ≤ n ∧ i = .int .i64 j ∧ wr.ownsRow w.heap.size 35 2 (.slice (some ⟨w.heap.size, 0, none⟩) n n) n (ints (part zs (j * 2))) ∧ Below w.heap.size w wr) (fun i _ => n - (intOf i).toNat)
    case atStart => exact ⟨0, by omega, rfl, by rw [Nat.zero_mul]; exact hrow0, hb0⟩
    case round =>
      obtain ⟨j, hj, rfl, hrow, hb⟩ := hrel
      clear hrow0 hb0
      by_cases hlt : j < n
      · have hjl : j < l.length := by rw [← HN.out]; exact hlt
        obtain ⟨m, hm⟩ : ∃ m, m = (j + 1) % n := ⟨_, rfl⟩
        have HMM := Lib.hid (show ((j : Int) + 1).tmod (n : Int) = (m : Int) by rw [rem_nat, hm])
        have hmn : m < n := by rw [hm]; exact Nat.mod_lt _ h0
        obtain ⟨p, hpe⟩ : ∃ p, p = pd l j := ⟨_, rfl⟩
        obtain ⟨q, hqe⟩ : ∃ q, q = pd l m := ⟨_, rfl⟩
        have HED := Lib.hid (show edP l j = dfP p q by unfold edP nxP; rw [← HN.out, ← hm, hpe, hqe])
        have hp1 : Sm 1000 p := by rw [hpe]; exact HSM.out _ (pd_mem hjl)
        have hq1 : Sm 1000 q := by rw [hqe]; exact HSM.out _ (pd_mem (by rw [← HN.out]; exact hmn))
        obtain ⟨g, rfl, hc0⟩ := HP.out j hjl
        obtain ⟨g', hg', hd0⟩ := HP.out m (by rw [← HN.out]; exact hmn)
        cases hg'
        rw [← hpe] at hc0
        rw [← hqe] at hd0
        have hc1 := X2.below hc0 hb
        have hd1 := X2.below hd0 hb
        have hx0 := P2.new wr p 35
        have hd2 := X2.below hd1 ((Below.refl _ wr).alloc (Nat.le_refl _) (.cells #[.int .i64 p.1, .int .i64 p.2] 35))
        have hrowA := World.ownsRow.alloc hrow (.cells #[.int .i64 p.1, .int .i64 p.2] 35)
        have hbA := hb.alloc hb.size (.cells #[.int .i64 p.1, .int .i64 p.2] 35)
        have hwl := (World.ownsRow.lt hrow w.heap.size rfl).2
        obtain ⟨c0, c1⟩ := hc1
        clear hc0 hd0 hd1 hpe hqe hm hrow hb
        go_wp2
        generalize hX : wr.alloc (.cells #[.int .i64 p.1, .int .i64 p.2] 35) = X at hx0 hd2 hrowA hbA ⊢
        have hS : SE w wr.heap.size g (m * 2) p q X := SE.of hx0 hd2 hbA
        have HRA := Lib.hid hrowA
        have HCell := Lib.hid (fun (W : World) (hW : Gr X.drew W) => row_cells (zs := part zs (j * 2)) HRA.out ((gr0 X).drew.trans hW).below (j * 2) (by omega) (by rw [part_len zs _ (by rw [HZL.out]; omega)]; exact HZL.out.symm))
        have hgl : g ≠ w.heap.size := by have := World.ownsRow.lt H0.out g rfl; omega
        have hcl : wr.heap.size ≠ w.heap.size := by omega
        have q1 : IntKind.i64.wrap ((j : Int) + 1) = (j : Int) + 1 := IntWalk.i64_in _ (by omega)
        have q2 : ((j : Int) + 1).tmod (n : Int) = (m : Int) := HMM.out
        have q6 : ¬ n = 0 := by omega
        have q3 : ((n : Int) == 0) = false := by simp; omega
        have q4 : ¬ (n : Int) = 0 := by omega
        have q5 : IntKind.i64.wrap (m : Int) = (m : Int) := IntWalk.i64_in _ (by omega)
        have z1 : (0 : Int) ≤ (m : Int) := by omega
        go_region_held3 (fun w' => SE w wr.heap.size g (m * 2) p q w') (repeat' (first | with_reducible assumption | with_reducible refine SE.drew ?_ | with_reducible refine SE.set ?_ _ _ _ hcl hgl (Nat.le_refl _))) (first | (go_at_call 53; refine (HQ.out _ _ _ hp1 hq1).mono ?_; rintro e w' ⟨rfl, gg⟩; have hS2 := SE.gr (x := w) (gc := wr.heap.size) (gr := g) (o := m * 2) (p := p) (q := q) (by assumption) gg; obtain ⟨d0, d1, f0, f1⟩ := HCell.out _ gg))
        go_wp2
        go_roundw
        case rel =>
          have hr : w'.ownsRow w.heap.size 35 2 (.slice (some ⟨w.heap.size, 0, none⟩) n n) n (ints (part zs (j * 2))) := FS.below (zs := part zs (j * 2)) HRA.out ((gr0 X).drew.trans gg).below
          have s0 := World.ownsRow.stored hr (j * 2) (.int .i64 (dfP p q).1)
          have s1 := World.ownsRow.stored s0.1 (j * 2 + 1) (.int .i64 (dfP p q).2)
          have hrow3 := s1.1
          obtain ⟨e0, e1⟩ := flatP_gd (ps := edT l n) (j := j) (by rw [edT_len]; exact hlt)
          rw [edT_pd l hlt, HED.out, ← HZ.out] at e0 e1
          have hzl := HZL.out
          rw [← e0, ← e1, show ((ints (part zs (j * 2))).set (j * 2) (.int .i64 (gd zs (j * 2)))).set (j * 2 + 1) (.int .i64 (gd zs (j * 2 + 1))) = ints (part zs ((j + 1) * 2)) from by rw [← partP_pt zs j (by omega)]; unfold ints; simp only [List.map_set]] at hrow3
          exact ⟨j + 1, by omega, by go_num, by rw [← e0, ← e1]; exact hrow3, (hS2.2.2.2.2.setCell (Nat.le_refl _) _).setCell (Nat.le_refl _) _⟩
        case measure => simp [intOf]; omega
      · go_wp2
        go_ret
        have hl := HZL.out
        rw [part_end zs _ (by omega)] at hrow
        refine ⟨_, rfl, ?_, hb⟩
        rw [HE.out]
        unfold PtS
        rw [edT_len, ← HZ.out]
        exact hrow
end Go.Proofs.Ytamejfeaniokfaa

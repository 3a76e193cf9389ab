/-
  Points of polygons, of the program and of the model: what the calls return.
  Condition: the slice reads as the list that is named.
-/
import Derived.Test.YtiopinhdfoinoaaGreatDoorPgM
namespace Go.Proofs.YtiopinhdfoinoaaGreatDoor
set_option linter.unusedSimpArgs false
set_option linter.unusedVariables false
open Go.ChangeShapes Go.WideShapes Go.ChangeAt Go.RowKit
open Go.Sort (grow)

def hpB (l : List Pt) (p : Pt) : Bool := pgB l && ptG p
def hpR (l : List Pt) (p : Pt) : Bool := hpB l p && hasB l p
theorem hp_no1 {l : List Pt} {p : Pt} (h : pgB l = false) : hpB l p = false ∧ hpR l p = false := by unfold hpR hpB; rw [h]; simp
theorem hp_no2 {l : List Pt} {p : Pt} (h : ptG p = false) : hpB l p = false ∧ hpR l p = false := by unfold hpR hpB; rw [h]; simp
theorem hp_yes {l : List Pt} {p : Pt} (h : pgB l = true) (h' : ptG p = true) : hpB l p = true ∧ hpR l p = hasB l p := by unfold hpR hpB; rw [h, h']; simp
theorem has_1 {l : List Pt} {p : Pt} (h : l.length = 1) : hasB l p = eqB (pd l 0) p := by
  unfold hasB; rw [if_pos h]
  rw [Bool.eq_iff_iff, decide_eq_true_iff, eqB_iff]; rfl
theorem has_2 {l : List Pt} {p : Pt} (h : l.length = 2) : hasB l p = (decide (trn (pd l 0) (pd l 1) p = 0) && (decide ((p.1 - (pd l 0).1) * (p.1 - (pd l 1).1) ≤ 0) && decide ((p.2 - (pd l 0).2) * (p.2 - (pd l 1).2) ≤ 0))) := by
  unfold hasB; rw [if_neg (by omega), if_pos h]; rfl
theorem has_no {l : List Pt} {p : Pt} {k : Nat} (h1 : l.length ≠ 1) (h2 : l.length ≠ 2) (hk : k < l.length) (h : trn (pd l k) (nxP l k) p < 0) : hasB l p = false := by
  unfold hasB; rw [if_neg h1, if_neg h2, decide_eq_false_iff_not]
  intro hx
  have : 0 ≤ trn (pd l k) (nxP l k) p := hx k hk
  omega
theorem has_all {l : List Pt} {p : Pt} (h1 : l.length ≠ 1) (h2 : l.length ≠ 2) (h : ∀ k, k < l.length → ¬ trn (pd l k) (nxP l k) p < 0) : hasB l p = true := by
  unfold hasB; rw [if_neg h1, if_neg h2, decide_eq_true_iff]
  intro k hk
  have : ¬ trn (pd l k) (nxP l k) p < 0 := h k hk
  exact Int.not_lt.1 this
set_option maxHeartbeats 4000000 in
set_option maxRecDepth 100000 in
theorem pyHas_any (w : World) (B : Nat) (v : Value) (l : List Pt) (p : Pt) (h : PtS w B v l) (hg : pgB l = true) (hp : ptG p = true) : Calls Tryz.prog 49 #[v, ptV p] w fun e w' => e = .returned (.bool (hasB l p)) ∧ Below w.heap.size w w' := by
  obtain ⟨hsm, h0, hz⟩ := pg_sm hg
  have HSM := Lib.hid hsm
  have hps : Sm 1000 p := (Sm.of hp).mono (by omega)
  have HPS := Lib.hid hps
  have HT := Lib.hid (fun a b c W (ha : Sm 1000 a) (hb : Sm 1000 b) (hc : Sm 1000 c) => pyTurn_any a b c W ha hb hc)
  obtain ⟨A, cap, rfl, hm, hpp⟩ := PtS.parts h
  have HP := Lib.hid hpp
  obtain ⟨n, hn⟩ : ∃ n, n = l.length := ⟨_, rfl⟩
  have HN := Lib.hid hn
  obtain ⟨g, hgA, -⟩ := hpp 0 (by omega)
  subst hgA
  have HC := Lib.hid (fun k hk => by
    obtain ⟨g', hg', hx⟩ := HP.out k hk
    obtain rfl : g = g' := by simpa using hg'
    exact (X2.below hx ((Below.refl _ w).alloc (Nat.le_refl _) (.cells #[.int .i64 p.1, .int .i64 p.2] 30)) : X2 _ g (k * 2) (pd l k)))
  have hX := P2.new w p 30
  have hbX := (Below.refl _ w).alloc (Nat.le_refl _) (.cells #[.int .i64 p.1, .int .i64 p.2] 30)
  rw [← hn] at h0 hz ⊢
  by_cases h1 : n = 1
  · have HR := Lib.hid (has_1 (p := p) (show l.length = 1 by rw [← hn]; exact h1))
    subst h1
    have HE := Lib.hid (fun W => show Sem.run Tryz.prog (binOp .eql 30 (ptV (pd l 0)) (ptV p)) W = .ok (.bool (hasB l p)) W by rw [eqPt, HR.out]; rfl)
    obtain ⟨a0, a1⟩ := X2.grown (HC.out 0 (by rw [← HN.out]; omega))
    obtain ⟨e0, e1⟩ := P2.grown hX
    rw [Nat.zero_mul] at a0 a1
    have he := HE.out
    have HB := Lib.hid hbX
    clear hn hm hpp h hg hp hsm hps hX hbX h0
    go_enter Tryz.func49, Tryz.ntmps49
    go_wp2
    refine wp_region_quiet_grown (by kernel_rfl) (by kernel_rfl) ?_
    repeat (go_big_quiet_step ((fail)))
    refine wpQuiet_nil ?_
    intro _ hw'
    obtain ⟨⟨nq, osq⟩, hw''⟩ := hw'
    subst hw''
    go_wp2
    go_ret
    exact ⟨rfl, bel2 HB.out (grB _ _)⟩
  · by_cases h2 : n = 2
    · have HR := Lib.hid (has_2 (p := p) (show l.length = 2 by rw [← hn]; exact h2))
      have hl0 : 0 < l.length := by omega
      have hl1 : 1 < l.length := by omega
      obtain ⟨a, ha⟩ : ∃ a, a = pd l 0 := ⟨_, rfl⟩
      obtain ⟨b, hb⟩ : ∃ b, b = pd l 1 := ⟨_, rfl⟩
      have ha1 : Sm 1000 a := by rw [ha]; exact hsm _ (pd_mem hl0)
      have hb1 : Sm 1000 b := by rw [hb]; exact hsm _ (pd_mem hl1)
      have hc0 := HC.out 0 hl0
      have hc1 := HC.out 1 hl1
      rw [← ha, ← hb] at HR
      rw [← ha] at hc0
      rw [← hb] at hc1
      rw [HR.out]
      obtain ⟨a0, a1⟩ := X2.grown hc0
      obtain ⟨b0, b1⟩ := X2.grown hc1
      obtain ⟨e0, e1⟩ := P2.grown hX
      rw [Nat.zero_mul] at a0 a1
      rw [Nat.one_mul] at b0 b1
      have HB := Lib.hid hbX
      subst h2
      have hp1 := hps
      have hpa := ha1
      have hpb := hb1
      unfold Sm at hpa hpb hps
      have m1 := mul_bd (a := p.1 - a.1) (b := p.1 - b.1) 2000 2000 (by omega) (by omega)
      have m2 := mul_bd (a := p.2 - a.2) (b := p.2 - b.2) 2000 2000 (by omega) (by omega)
      have w1 : IntKind.i64.wrap (p.1 - a.1) = p.1 - a.1 := IntWalk.i64_in _ (by omega)
      have w2 : IntKind.i64.wrap (p.1 - b.1) = p.1 - b.1 := IntWalk.i64_in _ (by omega)
      have w3 : IntKind.i64.wrap (p.2 - a.2) = p.2 - a.2 := IntWalk.i64_in _ (by omega)
      have w4 : IntKind.i64.wrap (p.2 - b.2) = p.2 - b.2 := IntWalk.i64_in _ (by omega)
      have w5 : IntKind.i64.wrap ((p.1 - a.1) * (p.1 - b.1)) = (p.1 - a.1) * (p.1 - b.1) := IntWalk.i64_in _ (by omega)
      have w6 : IntKind.i64.wrap ((p.2 - a.2) * (p.2 - b.2)) = (p.2 - a.2) * (p.2 - b.2) := IntWalk.i64_in _ (by omega)
      clear hn hm hpp h hg hp hsm hX hbX h0 ha hb hc0 hc1 h1 hl0 hl1 m1 m2 hpa hpb hps
      obtain ⟨x, hx⟩ : ∃ x, x = trn a b p := ⟨_, rfl⟩
      have HT' := Lib.hid (fun W => show Calls Tryz.prog 70 #[ptV a, ptV b, ptV p] W fun e w' => e = .returned (.int .i64 x) ∧ Gr W w' by rw [hx]; exact HT.out a b p W ha1 hb1 hp1)
      rw [← hx]
      clear hx ha1 hb1 hp1
      by_cases t1 : x = 0
      · subst t1
        by_cases t2 : (p.1 - a.1) * (p.1 - b.1) ≤ 0
        · by_cases t3 : (p.2 - a.2) * (p.2 - b.2) ≤ 0
          · go_enter Tryz.func49, Tryz.ntmps49
            go_wp2
            refine wp_region_quiet_grown (by kernel_rfl) (by kernel_rfl) ?_
            repeat (go_big_quiet_step ((first | (go_at_call 70; refine Calls.grown_of (HT'.out _)))))
            refine wpQuiet_nil ?_
            intro _ hw'
            obtain ⟨⟨nq, osq⟩, hw''⟩ := hw'
            subst hw''
            go_wp2
            go_ret
            exact ⟨ret_bool (by simp [t2, t3]), bel2 HB.out (grB _ _)⟩
          · go_enter Tryz.func49, Tryz.ntmps49
            go_wp2
            refine wp_region_quiet_grown (by kernel_rfl) (by kernel_rfl) ?_
            repeat (go_big_quiet_step ((first | (go_at_call 70; refine Calls.grown_of (HT'.out _)))))
            refine wpQuiet_nil ?_
            intro _ hw'
            obtain ⟨⟨nq, osq⟩, hw''⟩ := hw'
            subst hw''
            go_wp2
            go_ret
            exact ⟨ret_bool (by simp [t2, t3]), bel2 HB.out (grB _ _)⟩
        · have t2' : decide ((p.1 - a.1) * (p.1 - b.1) ≤ 0) = false := decide_eq_false t2
          have t2'' : ((p.1 - a.1) * (p.1 - b.1) ≤ 0) = False := eq_false t2
          go_enter Tryz.func49, Tryz.ntmps49
          go_wp2
          refine wp_region_quiet_grown (by kernel_rfl) (by kernel_rfl) ?_
          repeat (go_big_quiet_step ((first | (go_at_call 70; refine Calls.grown_of (HT'.out _)))))
          refine wpQuiet_nil ?_
          intro _ hw'
          obtain ⟨⟨nq, osq⟩, hw''⟩ := hw'
          subst hw''
          go_wp2
          go_ret
          exact ⟨ret_bool (by rw [t2']; simp), bel2 HB.out (grB _ _)⟩
      · have t1' : (x == 0) = false := by simpa using t1
        have t1'' : (x = 0) = False := eq_false t1
        go_enter Tryz.func49, Tryz.ntmps49
        go_wp2
        refine wp_region_quiet_grown (by kernel_rfl) (by kernel_rfl) ?_
        repeat (go_big_quiet_step ((first | (go_at_call 70; refine Calls.grown_of (HT'.out _)))))
        refine wpQuiet_nil ?_
        intro _ hw'
        obtain ⟨⟨nq, osq⟩, hw''⟩ := hw'
        subst hw''
        go_wp2
        go_ret
        exact ⟨ret_bool (by simp [t1]), bel2 HB.out (grB _ _)⟩
    · have HL1 := Lib.hid (show l.length ≠ 1 by rw [← hn]; exact h1)
      have HL2 := Lib.hid (show l.length ≠ 2 by rw [← hn]; exact h2)
      have h1' : ¬ (n : Int) = 1 := by omega
      have h2' : ¬ (n : Int) = 2 := by omega
      have HB := Lib.hid hbX
      have HX := Lib.hid hX
      obtain ⟨r, hr⟩ : ∃ r, r = hasB l p := ⟨_, rfl⟩
      have HR := Lib.hid hr
      rw [← hr]
      clear hn hm hpp h hg hp hsm hps hX hbX hr h1 h2
      go_enter Tryz.func49, Tryz.ntmps49
      go_wp2
      generalize w.alloc (.cells #[.int .i64 p.1, .int .i64 p.2] 30) = W at HB HX HC ⊢
      go_loopw [65] (fun i wr => ∃ k : Nat, k ≤ n ∧ i = .int .i64 k ∧ Hid (∀ j, j < k → ¬ trn (pd l j) (nxP l j) p < 0) ∧ Below W.heap.size W wr) (fun i _ => n - (intOf i).toNat)
      case atStart => exact ⟨0, by omega, rfl, Lib.hid (by omega), Below.refl _ _⟩
      case round =>
        obtain ⟨k, hk, rfl, hall, hb⟩ := hrel
        by_cases hlt : k < n
        · have hkl : k < l.length := by rw [← HN.out]; exact hlt
          obtain ⟨m, hm⟩ : ∃ m, m = (k + 1) % n := ⟨_, rfl⟩
          have HMM := Lib.hid (show ((k : Int) + 1).tmod (n : Int) = (m : Int) by rw [rem_nat, hm])
          have hmn : m < n := by rw [hm]; exact Nat.mod_lt _ (by omega)
          obtain ⟨a, hpe⟩ : ∃ a, a = pd l k := ⟨_, rfl⟩
          obtain ⟨b, hqe⟩ : ∃ b, b = pd l m := ⟨_, rfl⟩
          have hnx : nxP l k = b := by unfold nxP; rw [← HN.out, ← hm, hqe]
          have ha1 : Sm 1000 a := by rw [hpe]; exact HSM.out _ (pd_mem hkl)
          have hb1 : Sm 1000 b := by rw [hqe]; exact HSM.out _ (pd_mem (by rw [← HN.out]; exact hmn))
          have hc0 := HC.out k hkl
          have hd0 := HC.out m (by rw [← HN.out]; exact hmn)
          rw [← hpe] at hc0
          rw [← hqe] at hd0
          have hc1 := X2.below hc0 hb
          have hc2 := X2.below hc1 ((Below.refl _ wr).alloc (Nat.le_refl _) (.cells #[.int .i64 a.1, .int .i64 a.2] 30))
          have hd2 := X2.below (X2.below hd0 hb) ((Below.refl _ wr).alloc (Nat.le_refl _) (.cells #[.int .i64 a.1, .int .i64 a.2] 30))
          have hx2 := P2.below (P2.below HX.out hb) ((Below.refl _ wr).alloc (Nat.le_refl _) (.cells #[.int .i64 a.1, .int .i64 a.2] 30))
          have ha2 := P2.new wr a 30
          have hbA := hb.alloc hb.size (.cells #[.int .i64 a.1, .int .i64 a.2] 30)
          have q1 : IntKind.i64.wrap ((k : Int) + 1) = (k : Int) + 1 := IntWalk.i64_in _ (by omega)
          have q2 : ((k : Int) + 1).tmod (n : Int) = (m : Int) := HMM.out
          have q3 : ((n : Int) == 0) = false := by simp; omega
          have q4 : ¬ (n : Int) = 0 := by omega
          have q5 : IntKind.i64.wrap (m : Int) = (m : Int) := IntWalk.i64_in _ (by omega)
          have z1 : (0 : Int) ≤ (m : Int) := by omega
          obtain ⟨c0, c1⟩ := hc1
          obtain ⟨x, hx⟩ : ∃ x, x = trn a b p := ⟨_, rfl⟩
          have HT' := Lib.hid (fun W => show Calls Tryz.prog 70 #[ptV a, ptV b, ptV p] W fun e w' => e = .returned (.int .i64 x) ∧ Gr W w' by rw [hx]; exact HT.out a b p W ha1 hb1 HPS.out)
          have HXE := Lib.hid (show trn (pd l k) (nxP l k) p = x by rw [hnx, ← hpe, hx])
          clear hc0 hd0 hpe hqe hm hnx hb hx ha1 hb1
          by_cases t : x < 0
          · have HE := Lib.hid (show r = false by rw [HR.out]; exact has_no HL1.out HL2.out hkl (by rw [HXE.out]; exact t))
            go_wp2
            generalize wr.alloc (.cells #[.int .i64 a.1, .int .i64 a.2] 30) = X at hc2 hd2 hx2 ha2 hbA ⊢
            obtain ⟨d0, d1⟩ := X2.grown hd2
            obtain ⟨e0, e1⟩ := P2.grown hx2
            obtain ⟨f0, f1⟩ := P2.grown ha2
            have HBA := Lib.hid hbA
            refine wp_region_quiet_grown (by kernel_rfl) (by kernel_rfl) ?_
            repeat (go_big_quiet_step ((first | (go_at_call 70; refine Calls.grown_of (HT'.out _)))))
            refine wpQuiet_nil ?_
            intro _ hw'
            obtain ⟨⟨nq, osq⟩, hw''⟩ := hw'
            subst hw''
            clear q1 q2 q5
            go_wp2
            go_ret
            exact ⟨ret_bool HE.out.symm, bel2 HB.out (bel2 HBA.out (grB _ _))⟩
          · have HA := Lib.hid (show ∀ j, j < k + 1 → ¬ trn (pd l j) (nxP l j) p < 0 from fun j hj => by
              rcases Nat.lt_or_ge j k with h | h
              · exact hall.out j h
              · obtain rfl : j = k := by omega
                rw [HXE.out]; exact t)
            have t' : decide (x < 0) = false := decide_eq_false t
            have t'' : (x < 0) = False := eq_false t
            go_wp2
            generalize wr.alloc (.cells #[.int .i64 a.1, .int .i64 a.2] 30) = X at hc2 hd2 hx2 ha2 hbA ⊢
            obtain ⟨d0, d1⟩ := X2.grown hd2
            obtain ⟨e0, e1⟩ := P2.grown hx2
            obtain ⟨f0, f1⟩ := P2.grown ha2
            have HBA := Lib.hid hbA
            refine wp_region_quiet_grown (by kernel_rfl) (by kernel_rfl) ?_
            repeat (go_big_quiet_step ((first | (go_at_call 70; refine Calls.grown_of (HT'.out _)))))
            refine wpQuiet_nil ?_
            intro _ hw'
            obtain ⟨⟨nq, osq⟩, hw''⟩ := hw'
            subst hw''
            clear q1 q2 q5
            go_wp2
            go_roundw
            case rel => exact ⟨_, _, _, .int .i64 ((k + 1 : Nat) : Int), ⟨k + 1, by omega, rfl, HA, bel2 HBA.out (grB _ _)⟩, rfl, rfl, rfl, by go_num⟩
            case measure => simp [intOf]; omega
        · obtain rfl : k = n := by omega
          have HE := Lib.hid (show r = true by rw [HR.out]; exact has_all HL1.out HL2.out fun j hj => hall.out j (by rw [HN.out]; exact hj))
          go_wp2
          go_ret
          exact ⟨ret_bool HE.out.symm, bel2 HB.out hb⟩
def GivesBB (x : Bool) (b : Bool) (w : World) (e : Ending) (w' : World) : Prop := e = .returned (.tuple #[.bool x, .bool b]) ∧ Below w.heap.size w w'
theorem givesBB_no {x b : Bool} {w w' : World} (h1 : x = false) (h2 : b = false) (hb : Below w.heap.size w w') : GivesBB x b w (.returned (.tuple #[.bool false, .bool false])) w' := by
  subst h1; subst h2; exact ⟨rfl, hb⟩
theorem givesBB_yes {x y b : Bool} {w w' : World} (h1 : x = y) (h2 : b = true) (hb : Below w.heap.size w w') : GivesBB x b w (.returned (.tuple #[.bool y, .bool true])) w' := by
  subst h1; subst h2; exact ⟨rfl, hb⟩
theorem specHasPoint_any (w : World) (B : Nat) (v : Value) (l : List Pt) (p : Pt) (h : PtS w B v l) : Calls Tryz.prog 21 #[v, ptV p] w fun e w' => GivesBB (hpR l p) (hpB l p) w e w' := by
  have H := Lib.hid (FS.below h ((Below.refl _ w).alloc (Nat.le_refl _) (.cells #[.int .i64 p.1, .int .i64 p.2] 30)))
  have HX := Lib.hid (P2.new w p 30)
  have HBX := Lib.hid ((Below.refl _ w).alloc (Nat.le_refl _) (.cells #[.int .i64 p.1, .int .i64 p.2] 30))
  have HO := Lib.hid (fun W => pyOne_any p W)
  clear h
  cases hg : pgB l
  · have HG := Lib.hid hg
    have HN := Lib.hid (hp_no1 (p := p) hg)
    clear hg
    go_enter Tryz.func21, Tryz.ntmps21
    go_wp2_with fail
    refine (pyGood_any _ B _ l H.out).mono ?_
    rintro e w1 ⟨rfl, b1⟩
    rw [HG.out]
    go_wp2
    go_ret2
    exact givesBB_no HN.out.2 HN.out.1 (bel2 HBX.out b1)
  · cases hp : ptG p
    · have HG := Lib.hid hg
      have HP := Lib.hid hp
      have HN := Lib.hid (hp_no2 (l := l) hp)
      clear hg hp
      go_enter Tryz.func21, Tryz.ntmps21
      go_wp2_with fail
      refine (pyGood_any _ B _ l H.out).mono ?_
      rintro e w1 ⟨rfl, b1⟩
      rw [HG.out]
      obtain ⟨c0, c1⟩ := P2.below HX.out b1
      go_wp2_with fail
      refine (HO.out _).mono ?_
      rintro e w2 ⟨rfl, g2⟩
      rw [HP.out]
      go_wp2
      go_ret2
      exact givesBB_no HN.out.2 HN.out.1 (bel2 (bel2 HBX.out b1) g2.below)
    · have HG := Lib.hid hg
      have HP := Lib.hid hp
      have HN := Lib.hid (hp_yes hg hp)
      clear hg hp
      go_enter Tryz.func21, Tryz.ntmps21
      go_wp2_with fail
      refine (pyGood_any _ B _ l H.out).mono ?_
      rintro e w1 ⟨rfl, b1⟩
      rw [HG.out]
      obtain ⟨c0, c1⟩ := P2.below HX.out b1
      go_wp2_with fail
      refine (HO.out _).mono ?_
      rintro e w2 ⟨rfl, g2⟩
      rw [HP.out]
      obtain ⟨d0, d1⟩ := P2.below (P2.below HX.out b1) g2.below
      have h2 := Lib.hid (FS.below (FS.below H.out b1) g2.below)
      go_wp2_with fail
      refine (pyHas_any _ B _ l p h2.out HG.out HP.out).mono ?_
      rintro e w3 ⟨rfl, b3⟩
      go_wp2
      go_ret2
      exact givesBB_yes HN.out.2 HN.out.1 (bel2 (bel2 (bel2 HBX.out b1) g2.below) b3)
theorem S4P.call {x w w' : World} {b : Nat} {r : Pt} (hT : P2 x b r) (h : S4P x b r w) (hb : Below w.heap.size w w') : S4P x b r w' := S4P.of hT (bel2 h.2.2 hb)
theorem ptS_snoc2 {w : World} {B : Nat} {v : Value} {l : List Pt} {t : Pt} (h : w.ownsRow B 30 2 v (l.length + 1) (ints (flatP l ++ encP t))) : PtS w B v (l ++ [t]) := by
  refine ptS_snoc rfl ?_
  unfold ints at h ⊢
  rw [List.map_append] at h
  exact h
theorem hul_app (l : List Pt) (p : Pt) : (l ++ [p]).length = l.length + 1 := by simp
set_option maxHeartbeats 2000000 in
set_option maxRecDepth 100000 in
theorem implHasPoint_any (w : World) (B : Nat) (v : Value) (l : List Pt) (p : Pt) (h : PtS w B v l) : Calls Tryz.prog 9 #[v, ptV p] w fun e w' => GivesBB (hpR l p) (hpB l p) w e w' := by
  have H := Lib.hid (FS.below h ((Below.refl _ w).alloc (Nat.le_refl _) (.cells #[.int .i64 p.1, .int .i64 p.2] 30)))
  have HX := Lib.hid (P2.new w p 30)
  have HBX := Lib.hid ((Below.refl _ w).alloc (Nat.le_refl _) (.cells #[.int .i64 p.1, .int .i64 p.2] 30))
  have HO := Lib.hid (fun W => implIsPoint_any p W)
  clear h
  cases hg : pgB l
  · have HG := Lib.hid hg
    have HN := Lib.hid (hp_no1 (p := p) hg)
    clear hg
    go_enter Tryz.func9, Tryz.ntmps9
    go_wp2_with fail
    refine (implIsPolygon_any _ B _ l H.out).mono ?_
    rintro e w1 ⟨rfl, b1⟩
    rw [HG.out]
    go_wp2
    go_ret2
    exact givesBB_no HN.out.2 HN.out.1 (bel2 HBX.out b1)
  · cases hp : ptG p
    · have HG := Lib.hid hg
      have HP := Lib.hid hp
      have HN := Lib.hid (hp_no2 (l := l) hp)
      clear hg hp
      go_enter Tryz.func9, Tryz.ntmps9
      go_wp2_with fail
      refine (implIsPolygon_any _ B _ l H.out).mono ?_
      rintro e w1 ⟨rfl, b1⟩
      rw [HG.out]
      obtain ⟨c0, c1⟩ := P2.below HX.out b1
      go_wp2_with fail
      refine (HO.out _).mono ?_
      rintro e w2 ⟨rfl, g2⟩
      rw [HP.out]
      go_wp2
      go_ret2
      exact givesBB_no HN.out.2 HN.out.1 (bel2 (bel2 HBX.out b1) g2.below)
    · have HG := Lib.hid hg
      have HP := Lib.hid hp
      have HN := Lib.hid (hp_yes hg hp)
      obtain ⟨hsm, h0, hz⟩ := pg_sm hg
      have HSM := Lib.hid (show ∀ q ∈ l ++ [p], Sm 1000 q from fun q hq => by
        rcases List.mem_append.1 hq with hq | hq
        · exact hsm q hq
        · rw [List.mem_singleton.1 hq]; exact (Sm.of hp).mono (by omega))
      have HE := Lib.hid (show hasB l p = decide (hulL (l ++ [p]) = l) from has_eq ((pgB_iff l).1 hg).2 (by intro h; rw [h] at h0; simp at h0) p)
      have HZ := Lib.hid hz
      clear hg hp hsm h0 hz
      go_enter Tryz.func9, Tryz.ntmps9
      go_wp2_with fail
      refine (implIsPolygon_any _ B _ l H.out).mono ?_
      rintro e w1 ⟨rfl, b1⟩
      rw [HG.out]
      obtain ⟨c0, c1⟩ := P2.below HX.out b1
      go_wp2_with fail
      refine (HO.out _).mono ?_
      rintro e w2 ⟨rfl, g2⟩
      rw [HP.out]
      have HP2 := Lib.hid (P2.below (P2.below HX.out b1) g2.below)
      have h2 := Lib.hid (FS.below (FS.below H.out b1) g2.below)
      have HB2 := Lib.hid (bel2 (bel2 HBX.out b1) g2.below)
      clear c0 c1 b1 g2
      have hS : S4P w2 w.heap.size p w2 := S4P.of HP2.out (Below.refl _ _)
      have HCL := Lib.hid (fun (W : World) (hW : Below w2.heap.size w2 W) => show Calls Tryz.prog 26 #[v] W fun e w' => ∃ r, e = .returned r ∧ w'.ownsRow w2.heap.size 30 2 r l.length (ints (flatP l)) ∧ Below W.heap.size W w' from by
        refine (cloneP_any W B v l (FS.below h2.out hW) (by have := HZ.out; omega)).mono ?_
        rintro e w' ⟨r, rfl, hr, bC⟩
        exact ⟨r, rfl, FS.base hr hW.size, bC⟩)
      have HHU := Lib.hid (fun (W : World) (u : Value) (hu : W.ownsRow w2.heap.size 30 2 u (l.length + 1) (ints (flatP l ++ encP p))) (hW : Below w2.heap.size w2 W) => show Calls Tryz.prog 25 #[u] W fun e w' => ∃ r, e = .returned r ∧ PtS w' w2.heap.size r (hulL (l ++ [p])) ∧ Below w2.heap.size w2 w' from by
        refine (hullOf_any w2 W w2.heap.size u (l ++ [p]) (ptS_snoc2 hu) (by rw [hul_app]; have := HZ.out; omega) HSM.out hW (Nat.le_refl _)).mono ?_
        rintro e w' ⟨r, rfl, hr, bH⟩
        exact ⟨r, rfl, hr, bH⟩)
      have HEQ := Lib.hid (fun (W : World) (u : Value) (hu : PtS W w2.heap.size u (hulL (l ++ [p]))) (hW : Below w2.heap.size w2 W) => show Calls Tryz.prog 29 #[u, v] W fun e w' => e = .returned (.bool (hasB l p)) ∧ Below W.heap.size W w' from by
        rw [HE.out]
        exact equalP_any _ _ _ _ _ (hulL (l ++ [p])) l hu (FS.below h2.out hW))
      obtain ⟨d0, d1⟩ := HP2.out
      go_wp2_with fail
      go_region_held3 (fun w' => S4P w2 w.heap.size p w') (repeat' (first | with_reducible assumption | with_reducible refine S4P.drew ?_ | with_reducible refine S4P.drewN ?_ _ | with_reducible refine S4P.alloc ?_ _)) (first | (go_at_call 26; refine (HCL.out _ (S4P.bel (b := w.heap.size) (r := p) (by assumption))).mono ?_; rintro e w' ⟨r, rfl, hr, bC⟩; have hSC := S4P.call HP2.out (by assumption) bC) | (go_at_call 25; refine (HHU.out _ _ hown1 (S4P.bel (b := w.heap.size) (r := p) (by assumption))).mono ?_; rintro e w' ⟨r2, rfl, hr2, bH⟩; have hSH := S4P.of HP2.out bH) | (go_at_call 29; refine (HEQ.out _ _ hr2 bH).mono ?_; rintro e w' ⟨rfl, bE⟩; have hSE := S4P.call HP2.out (by assumption) bE) | (refine step_app_pt (by rfl) (.tmp 15) (.tmp 17) (by rfl) w2 w.heap.size p HP2.out r l.length (flatP l) (by rfl) (World.ownsRow.alloc hr _) ⟨w'.heap.size, 0, none⟩ 1 1 (encP p) (by rfl) rfl (P2.news (P2.new _ p _)) (by have := HZ.out; omega) (by assumption) ?_; intro v1 w4 hown1 hS1 hk1) | (refine step_app_pt (by rfl) (.tmp 15) (.tmp 17) (by rfl) w2 w.heap.size p HP2.out r l.length (flatP l) (by rfl) hr ⟨w2.heap.size, 0, none⟩ 1 1 (encP p) (by rfl) rfl (P2.news (P2.below (w := (w2.alloc (.cells #[.int .i64 p.1, .int .i64 p.2] 30)).drew) (P2.new w2 p 30) bC)) (by have := HZ.out; omega) (by assumption) ?_; intro v1 w4 hown1 hS1 hk1) | (fail))
      all_goals
        go_wp2
        go_ret2
        exact givesBB_yes HN.out.2 HN.out.1 (bel2 HB2.out hSE.2.2)
end Go.Proofs.YtiopinhdfoinoaaGreatDoor

/-
  ParseFrac of the model: what the call returns.
  Condition: the text is shorter than a thousand million bytes.
-/
import Derived.Test.YtnfijdkggnijaaaDoorFracF
namespace Go.Proofs.YtnfijdkggnijaaaDoor
set_option linter.unusedSimpArgs false
set_option linter.unusedVariables false
open Go.ChangeShapes Go.WideShapes Go.ChangeAt Go.RowKit

/-- Is there a sign. -/
def negB (p : ByteArray) : Bool := p.data.toList.head? == some 45
theorem negB_no {p : ByteArray} (h : p.size = 0) : negB p = false := by
  have : p.data.toList = [] := List.eq_nil_of_length_eq_zero (by simpa using h)
  unfold negB; rw [this]; rfl
theorem negB_at {p : ByteArray} (h : 0 < p.size) : ((p[0].toNat : Int) == 45) = negB p := by
  unfold negB
  rw [head_byte p h]
  cases hq : ((p[0].toNat : Int) == 45)
  · symm
    have : ¬ p[0] = 45 := fun he => by rw [he] at hq; revert hq; decide
    simpa using this
  · have hn : p[0].toNat = 45 := by simp at hq; omega
    have : p[0] = 45 := UInt8.toNat_inj.1 (by rw [hn]; rfl)
    rw [this]; rfl
theorem empty_yes {p : ByteArray} (h : p.size = 0) : p.toList.isEmpty = true := by
  have : p.data.toList = [] := List.eq_nil_of_length_eq_zero (by simpa using h)
  rw [Lib.toList_data, this]; rfl
theorem empty_no {p : ByteArray} (h : 0 < p.size) : p.toList.isEmpty = false := by
  rw [Lib.toList_data]
  have hd : p.data.size = p.size := rfl
  cases hl : p.data.toList with
  | nil => have := congrArg List.length hl; rw [Array.length_toList, hd] at this; exact absurd this (Nat.ne_of_gt h)
  | cons a r => rfl
theorem sp_len (b : Int) : ∀ (l cur x : List UInt8), x ∈ sp b cur l → x.length ≤ cur.length + l.length
  | [], cur, x, h => by simp [sp] at h; subst h; simp
  | c :: r, cur, x, h => by
    by_cases hc : (c.toNat : Int) = b
    · rw [sp_hit hc] at h
      rcases List.mem_cons.1 h with rfl | h
      · omega
      · have := sp_len b r [] x h; simp at this ⊢; omega
    · rw [sp_miss hc] at h
      have := sp_len b r (cur ++ [c]) x h; simp at this ⊢; omega
theorem piece_size {s : ByteArray} {ps : List ByteArray} (hps : ps.map (fun p => p.data.toList) = pieces s.data.toList) (k : Nat) (hk : k < ps.length) : ps[k].size ≤ s.size := by
  have hm : ps[k].data.toList ∈ sp 47 [] s.data.toList := by
    show _ ∈ pieces s.data.toList
    rw [← hps]; exact List.mem_map.2 ⟨ps[k], List.getElem_mem hk, rfl⟩
  have := sp_len _ _ _ _ hm
  have h1 : ps[k].data.size = ps[k].size := rfl
  have h2 : s.data.size = s.size := rfl
  simp at this
  omega
theorem piece_0 {s : ByteArray} {ps : List ByteArray} (hps : ps.map (fun p => p.data.toList) = pieces s.data.toList) (hk : 0 < ps.length) : (pieces s.data.toList).headD [] = ps[0].data.toList := by
  rw [← hps]
  cases ps with
  | nil => simp at hk
  | cons a r => rfl
theorem piece_1 {s : ByteArray} {ps : List ByteArray} (hps : ps.map (fun p => p.data.toList) = pieces s.data.toList) (hk : 1 < ps.length) : (pieces s.data.toList).getD 1 [] = ps[1].data.toList := by
  rw [← hps]
  simp [List.getD_eq_getElem?_getD, hk]
theorem fpN_pos {l : List UInt8} {p : ByteArray} (h : (pieces l).headD [] = p.data.toList) (hn : negB p = false) : 1 * frV p.data.toList = fpN l := by
  unfold fpN; rw [h, if_neg (by unfold negB at hn; simpa using hn)]; omega
theorem fpN_neg {l : List UInt8} {p : ByteArray} (h : (pieces l).headD [] = p.data.toList) (hn : negB p = true) : -1 * frV (p.extract 1 p.size).data.toList = fpN l := by
  unfold fpN; rw [h, if_pos (by unfold negB at hn; simpa using hn), tail_bytes]; omega
theorem below_set {w W : World} {g i : Nat} {v : Value} (hb : Below w.heap.size w W) (hg : w.heap.size ≤ g) : Below w.heap.size w (W.setCell ⟨g, i, none⟩ v) := hb.setCell (p := ⟨g, i, none⟩) hg v
theorem ext_size {p : ByteArray} {n : Nat} (h : p.size ≤ n) : (p.extract 1 p.size).size ≤ n := by
  rw [ByteArray.size_extract]; omega
theorem F2.set0 {w : World} {g : Nat} {a b : Int} (h : F2 w g a b) (q : Int) : F2 (w.setCell ⟨g, 0, none⟩ (.int .i64 q)) g q b := by
  obtain ⟨h1, h2, h3, h4⟩ := h
  refine ⟨World.cell?_setCell_same _ _ _ h1, (World.cell?_setCell_other _ _ _ _ (by simp)).trans h2, ?_, ?_⟩ <;> simp [h3, h4]
theorem F2.set1 {w : World} {g : Nat} {a b : Int} (h : F2 w g a b) (q : Int) : F2 (w.setCell ⟨g, 1, none⟩ (.int .i64 q)) g a q := by
  obtain ⟨h1, h2, h3, h4⟩ := h
  refine ⟨(World.cell?_setCell_other _ _ _ _ (by simp)).trans h1, World.cell?_setCell_same _ _ _ h2, ?_, ?_⟩ <;> simp [h3, h4]
set_option maxHeartbeats 1000000 in
set_option maxRecDepth 100000 in
theorem frParse_any (s : ByteArray) (w : World) (hs : s.size ≤ 1000000000) : Calls Tryd.prog 46 #[.string s] w fun e w' => GivesQ s.data.toList w e w' := by
  go_enter Tryd.func46, Tryd.ntmps46
  go_wp2_with fail
  refine (l1Split_any s 47 _ hs).mono ?_
  rintro e w1 ⟨v, ps, rfl, hS, hps0, b1⟩
  have hps : ps.map (fun p => p.data.toList) = pieces s.data.toList := hps0
  obtain ⟨A, cap, rfl, hP⟩ := hS.parts
  have hlen : (pieces s.data.toList).length = ps.length := by rw [← hps, List.length_map]
  have hpos : 0 < ps.length := by rw [← hlen]; exact sp_pos _ _ _
  obtain ⟨g, rfl, hg, c0, f0⟩ := hP 0 hpos
  have HC1 := Lib.hid (show ∀ h : 1 < ps.length, w1.cell? ⟨g, 1, none⟩ = some (.string ps[1]) from fun h => by
    obtain ⟨g', h1, -, h2, -⟩ := hP 1 h
    obtain rfl : g = g' := by injection h1 with h1; injection h1
    exact h2)
  have HZ := Lib.hid (piece_size hps 0 hpos)
  have HZ1 := Lib.hid (fun h : 1 < ps.length => piece_size hps 1 h)
  have HH := Lib.hid (piece_0 hps hpos)
  have HD := Lib.hid (fun h : 1 < ps.length => piece_1 hps h)
  obtain ⟨p0, hp0⟩ : ∃ p0, p0 = ps[0] := ⟨_, rfl⟩
  rw [← hp0] at c0 HZ HH
  have HLEN := Lib.hid hlen
  clear hP hlen hps hps0 hp0
  have gl := cell_lt c0
  simp only at gl
  have hw1 := b1.size
  have R0 := (F2.new w 0 0).below b1
  simp at hw1 hg
  have BB := Lib.hid (show Below w.heap.size w w1 from bel2 (by go_grown) b1)
  go_upto_region 3 with fail
  go_cut [20] (fun c wx => c = .bool (negB p0) ∧ wx = w1.alloc (.cells #[.int .i64 0, .int .i64 1] 24))
  case first =>
    by_cases hz : p0.size = 0
    · have he := empty_yes hz
      go_wp2_with fail
      go_meet
      exact ⟨by rw [negB_no hz], rfl⟩
    · have h1 : 0 < p0.size := by omega
      have he := empty_no h1
      have HN := Lib.hid (negB_at h1)
      go_wp2_with fail
      go_meet
      exact ⟨by rw [← HN.out], rfl⟩
  case rest =>
    obtain ⟨rfl, rfl⟩ := hcut
    go_upto_if 20 with fail
    go_cut [4, 5, 6] (fun a p c wx => a = .slice (some ⟨g, 0, none⟩) ps.length cap ∧ p = .pointer (some ⟨w1.heap.size, 0, none⟩) ∧ ∃ (k : Int) (q : ByteArray), c = .int .i64 k ∧ (k = 1 ∨ k = -1) ∧ Hid (k * frV q.data.toList = fpN s.data.toList) ∧ Hid (q.size ≤ 1000000000) ∧ wx.cell? ⟨g, 0, none⟩ = some (.string q) ∧ Hid (∀ h : 1 < ps.length, wx.cell? ⟨g, 1, none⟩ = some (.string ps[1])) ∧ F2 wx w.heap.size 0 0 ∧ F2 wx w1.heap.size 0 1 ∧ Below w.heap.size w wx)
    case first =>
      cases hn : negB p0
      · have HV := Lib.hid (fpN_pos HH.out hn)
        go_wp2_with fail
        go_meet
        exact ⟨rfl, rfl, 1, p0, rfl, .inl rfl, HV, Lib.hid (Nat.le_trans HZ.out hs), (World.cell?_alloc_lt _ _ _ gl).trans c0, Lib.hid (fun h => (World.cell?_alloc_lt _ _ _ gl).trans (HC1.out h)), R0.old _, F2.new _ _ _, BB.out.alloc (by omega) _⟩
      · have HV := Lib.hid (fpN_neg HH.out hn)
        have h1 : 0 < p0.size := by
          rcases Nat.eq_zero_or_pos p0.size with hz | hz
          · rw [negB_no hz] at hn; cases hn
          · exact hz
        go_wp2_with fail
        go_meet
        exact ⟨rfl, rfl, -1, p0.extract 1 p0.size, rfl, .inr rfl, HV, Lib.hid (ext_size (Nat.le_trans HZ.out hs)), (World.cell?_alloc_lt _ _ _ (by simpa using gl)).trans (World.cell?_setCell_same _ _ _ c0), Lib.hid (fun h => (World.cell?_alloc_lt _ _ _ (by simpa using gl)).trans ((World.cell?_setCell_other _ _ _ _ (by simp)).trans (HC1.out h))), (R0.far (by omega)).old _, F2.new_ _ _ (by simp), (below_set BB.out (by omega)).alloc (by simp; omega) _⟩
    case rest =>
      obtain ⟨rfl, rfl, k, q, rfl, hk, hN, hq, c2, hC, R1, R2, b2⟩ := hcut
      clear c0 f0 R0
      go_upto_region 6 with fail
      go_cut [5] (fun p wx => p = .pointer (some ⟨w1.heap.size, 0, none⟩) ∧ Hid (∀ h : 1 < ps.length, wx.cell? ⟨g, 1, none⟩ = some (.string ps[1])) ∧ F2 wx w.heap.size 0 0 ∧ F2 wx w1.heap.size (fpN s.data.toList) 1 ∧ Below w.heap.size w wx)
      case first =>
        obtain ⟨x, hx⟩ : ∃ x, x = frV q.data.toList := ⟨_, rfl⟩
        obtain ⟨hx1, hx2⟩ := frV_bd q.data.toList
        have HX := Lib.hid hx
        obtain ⟨r0, r1, r2, r3⟩ := R2
        rw [← hx] at hx1 hx2
        clear hx
        rcases hk with rfl | rfl
        · have HF := Lib.hid (show x = fpN s.data.toList by have := hN.out; rw [HX.out]; omega)
          go_wp2_with fail
          refine (frRead_any q _ hq.out).mono ?_
          rw [← HX.out]
          rintro e w' ⟨rfl, rfl⟩
          go_wp2_with fail
          go_meet
          rw [HF.out]
          exact ⟨rfl, Lib.hid (fun h => (World.cell?_setCell_other _ _ _ _ (by simp <;> omega)).trans (hC.out h)), R1.far (by omega), F2.set0 ⟨r0, r1, r2, r3⟩ _, below_set b2 (by omega)⟩
        · have HF := Lib.hid (show -x = fpN s.data.toList by have := hN.out; rw [HX.out]; omega)
          go_wp2_with fail
          refine (frRead_any q _ hq.out).mono ?_
          rw [← HX.out]
          rintro e w' ⟨rfl, rfl⟩
          go_wp2_with fail
          go_meet
          rw [HF.out]
          exact ⟨rfl, Lib.hid (fun h => (World.cell?_setCell_other _ _ _ _ (by simp <;> omega)).trans (hC.out h)), R1.far (by omega), F2.set0 ⟨r0, r1, r2, r3⟩ _, below_set b2 (by omega)⟩
      case rest =>
        obtain ⟨rfl, hC3, R3, R4, b3⟩ := hcut
        clear hC R1 R2 b2 c2 hq hN hk
        go_upto_if 36 with fail
        go_cut [5] (fun p wx => p = .pointer (some ⟨w1.heap.size, 0, none⟩) ∧ F2 wx w.heap.size 0 0 ∧ F2 wx w1.heap.size (fpN s.data.toList) (fpD s.data.toList) ∧ Below w.heap.size w wx)
        case first =>
          cases h2 : ((ps.length : Int) == 2)
          · have HE := Lib.hid (show (1 : Int) = fpD s.data.toList by unfold fpD; rw [if_neg (by rw [HLEN.out]; simp at h2; omega)])
            go_wp2_with fail
            go_meet
            exact ⟨rfl, R3, HE.out ▸ R4, b3⟩
          · have h1 : 1 < ps.length := by simp at h2; omega
            have c3 := hC3.out h1
            have HE := Lib.hid (show frV ps[1].data.toList = fpD s.data.toList by unfold fpD; rw [if_pos (by rw [HLEN.out]; simp at h2; omega), HD.out h1])
            have HQ := Lib.hid (HZ1.out h1)
            obtain ⟨p1, hp1⟩ : ∃ p1, p1 = ps[1] := ⟨_, rfl⟩
            rw [← hp1] at c3 HE HQ
            clear hp1
            obtain ⟨r0, r1, r2, r3⟩ := R4
            go_wp2_with fail
            refine (frRead_any p1 _ (Nat.le_trans HQ.out hs)).mono ?_
            rw [HE.out]
            rintro e w' ⟨rfl, rfl⟩
            go_wp2_with fail
            go_meet
            exact ⟨rfl, R3.far (by omega), F2.set1 ⟨r0, r1, r2, r3⟩ _, below_set b3 (by omega)⟩
        case rest =>
          obtain ⟨rfl, R5, ⟨r0, r1, r2, r3⟩, b4⟩ := hcut
          obtain ⟨n, hn⟩ : ∃ n, n = fpN s.data.toList := ⟨_, rfl⟩
          obtain ⟨d, hd⟩ : ∃ d, d = fpD s.data.toList := ⟨_, rfl⟩
          have HN := Lib.hid hn
          have HDD := Lib.hid hd
          rw [← hn] at r0
          rw [← hd] at r1
          clear hn hd R3 R4 hC3 b3
          have hwc := cell_lt R5.1
          simp only at hwc
          have RB : F2 wc w1.heap.size n d := ⟨r0, r1, r2, r3⟩
          cases h3 : decide ((2 : Int) < ps.length)
          · have HL3 := Lib.hid (show decide ((pieces s.data.toList).length ≤ 2) = true from decide_eq_true (by rw [HLEN.out]; simp at h3; omega))
            cases hf : frB n d
            · have HO := Lib.hid (show okQ s.data.toList = false by unfold okQ; rw [← HN.out, ← HDD.out, hf]; simp)
              go_wp2_with fail
              refine (frGood_any _ _ _).mono ?_
              rw [hf]
              rintro e w2 ⟨rfl, b5⟩
              have R6 := R5.below b5
              obtain ⟨z0, z1, z2, z3⟩ := R6
              have B5 := bel2 b4 b5
              go_wp2_with fail
              refine bodyPost_ret ((F2.store ⟨z0, z1, z2, z3⟩ _ _).results rfl rfl rfl) rfl ?_
              exact givesQ_no HO.out (bel_at (Nat.le_refl _) (Below.refl _ _) B5 _ _)
            · have HF := Lib.hid hf
              go_wp2_with fail
              refine (frGood_any _ _ _).mono ?_
              rw [HF.out]
              rintro e w2 ⟨rfl, b5⟩
              obtain ⟨y0, y1, y2, y3⟩ := RB.below b5
              go_wp2_with fail
              refine (frText_any _ _ _ HF.out).mono ?_
              rintro e w3 ⟨rfl, b6⟩
              have R6 := (R5.below b5).below b6
              obtain ⟨z0, z1, z2, z3⟩ := R6
              obtain ⟨x0, x1, x2, x3⟩ := (RB.below b5).below b6
              have B6 := bel2 (bel2 b4 b5) b6
              clear y0 y1 y2 y3 r0 r1 r2 r3
              cases ht : frL n d == s.toList
              · have HO := Lib.hid (show okQ s.data.toList = false by unfold okQ; rw [← HN.out, ← HDD.out, ← Lib.toList_data, ht]; simp)
                go_wp2_with fail
                refine bodyPost_ret ((F2.store ⟨z0, z1, z2, z3⟩ _ _).results rfl rfl rfl) rfl ?_
                exact givesQ_no HO.out (bel_at (Nat.le_refl _) (Below.refl _ _) B6 _ _)
              · have HO := Lib.hid (show okQ s.data.toList = true by unfold okQ; rw [HL3.out, ← HN.out, ← HDD.out, ← Lib.toList_data, ht, HF.out]; rfl)
                go_wp2_with fail
                refine bodyPost_ret ((F2.store ⟨z0, z1, z2, z3⟩ _ _).results rfl rfl rfl) rfl ?_
                exact givesQ_yes HO.out HN.out HDD.out (bel_at (Nat.le_refl _) (Below.refl _ _) B6 _ _)
          · have HO := Lib.hid (show okQ s.data.toList = false by unfold okQ; rw [decide_eq_false (by rw [HLEN.out]; simp at h3; omega)]; rfl)
            obtain ⟨z0, z1, z2, z3⟩ := R5
            go_wp2_with fail
            refine bodyPost_ret ((F2.store ⟨z0, z1, z2, z3⟩ _ _).results rfl rfl rfl) rfl ?_
            exact givesQ_no HO.out (bel_at (Nat.le_refl _) (Below.refl _ _) b4 _ _)
theorem specParseFrac_any (s : ByteArray) (w : World) (hs : s.size ≤ 1000000000) : Calls Tryd.prog 21 #[.string s] w fun e w' => GivesQ s.data.toList w e w' := by
  go_enter Tryd.func21, Tryd.ntmps21
  go_wp2_with fail
  refine (frParse_any _ _ hs).mono ?_
  rintro e w1 ⟨rfl, b1⟩
  obtain ⟨z0, z1, z2, z3⟩ := (F2.new w 0 0).below b1
  go_wp2_with fail
  refine bodyPost_ret ((F2.store ⟨z0, z1, z2, z3⟩ _ _).results rfl rfl rfl) rfl ?_
  exact ⟨rfl, bel_at (Nat.le_refl _) (by go_grown) b1 _ _⟩
end Go.Proofs.YtnfijdkggnijaaaDoor

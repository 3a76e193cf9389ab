/-
  ParseFrac of the program: what the call returns.
  Conditions: the text is shorter than a thousand million bytes; the library's table and sentinels read as the library's text lays them.
-/
import Derived.Test.YtnfijdkggnijaaaDoorFracG
import Derived.Lib.IndexBytes
namespace Go.Proofs.YtnfijdkggnijaaaDoor
set_option linter.unusedSimpArgs false
set_option linter.unusedVariables false
open Go.ChangeShapes Go.WideShapes Go.ChangeAt Go.RowKit

/-- A variable of the library's own, of whatever value. -/
def MaxL (w : World) : Prop := ∃ m, w.cell? ⟨0, 0, none⟩ = some (.int .i64 m)
theorem MaxL.below {w w' : World} (h : MaxL w) (hb : Below w.heap.size w w') : MaxL w' := by
  obtain ⟨m, hm⟩ := h
  exact ⟨m, (hb.cell (p := ⟨0, 0, none⟩) (cell_lt hm)).trans hm⟩
/-- The two parts of a text, as the library cuts it. -/
def cutA (l : List UInt8) : List UInt8 := (Lib.cut l [47]).1
def cutB (l : List UInt8) : List UInt8 := if (Lib.cut l [47]).2.2 = true then (Lib.cut l [47]).2.1 else [49]
theorem cut_b (s : ByteArray) (w : World) (hs : s.size ≤ 1000000000) (hM : MaxL w) : Calls Tryd.prog 33 #[.string s, .string ⟨#[47]⟩] w fun e w' => ∃ (b r : List UInt8) (f : Bool), e = .returned (.tuple #[.string ⟨b.toArray⟩, .string ⟨r.toArray⟩, .bool f]) ∧ Hid (b = cutA s.data.toList) ∧ Hid (r = (Lib.cut s.data.toList [47]).2.1) ∧ Hid (f = (Lib.cut s.data.toList [47]).2.2) ∧ Below w.heap.size w w' := by
  obtain ⟨m, hm⟩ := hM
  refine (Tryd.strings_Cut s ⟨#[47]⟩ m w (by omega) hm).mono ?_
  rintro e w' ⟨rfl, n, rfl⟩
  exact ⟨_, _, _, rfl, Lib.hid rfl, Lib.hid rfl, Lib.hid rfl, belN (Below.refl _ _) n⟩
theorem bytes_size (l : List UInt8) : (ByteArray.mk l.toArray).size = l.length := by show l.toArray.size = _; simp
theorem cut_len (l : List UInt8) : (cutA l).length ≤ l.length ∧ ((Lib.cut l [47]).2.1).length ≤ l.length := by
  unfold cutA Lib.cut
  split
  · exact ⟨by rw [List.length_take]; exact Nat.min_le_right _ _, by rw [List.length_drop]; exact Nat.sub_le _ _⟩
  · exact ⟨Nat.le_refl _, Nat.zero_le _⟩
theorem index_none : ∀ l : List UInt8, (∀ c ∈ l, ¬ (c.toNat : Int) = 47) → Lib.indexByte l 47 = -1
  | [], _ => rfl
  | c :: r, h => by
    have hc : (c == 47) = false := by
      have := h c (by simp)
      simp only [beq_eq_false_iff_ne]
      rintro rfl
      exact this (by decide)
    unfold Lib.indexByte
    rw [hc, index_none r fun x hx => h x (by simp [hx])]
    rfl
theorem index_at (r : List UInt8) : ∀ l : List UInt8, (∀ c ∈ l, ¬ (c.toNat : Int) = 47) → Lib.indexByte (l ++ 47 :: r) 47 = l.length
  | [], _ => rfl
  | c :: t, h => by
    have hc : (c == 47) = false := by
      have := h c (by simp)
      simp only [beq_eq_false_iff_ne]
      rintro rfl
      exact this (by decide)
    rw [List.cons_append]
    unfold Lib.indexByte
    rw [hc, index_at r t fun x hx => h x (by simp [hx])]
    have h1 : ((t.length : Int) == -1) = false := by simp
    rw [h1]
    simp
theorem cut_text {n d : Int} (h : frB n d = true) : Lib.cut (frL n d) [47] = if d = 1 then (Lib.itoa n, [], false) else (Lib.itoa n, Lib.decDigits d.toNat, true) := by
  obtain ⟨hn, -, -⟩ := frB_bd h
  unfold Lib.cut frL
  split
  · rw [Lib.index_one, index_none _ (itoa_no n hn)]; try rfl
  · unfold frP
    rw [List.append_assoc, List.singleton_append, Lib.index_one, index_at _ _ (itoa_no n hn), if_pos (by omega)]
    simp
theorem atoi_text {n d : Int} {l : List UInt8} (h : frB n d = true) (ht : frL n d = l) : Lib.atoiAll (cutA l) = .ok n ∧ Lib.atoiAll (cutB l) = .ok d := by
  subst ht
  obtain ⟨⟨hn1, hn2⟩, hd, -⟩ := frB_bd h
  have hc := cut_text h
  unfold cutA cutB
  rw [hc]
  split
  · rename_i he
    subst he
    refine ⟨atoi_itoa n (by omega), ?_⟩
    have := atoi_itoa 1 (by omega)
    rwa [show Lib.itoa 1 = [49] from by simp [Lib.itoa, Lib.decDigits]] at this
  · refine ⟨atoi_itoa n (by omega), ?_⟩
    show Lib.atoiAll (Lib.decDigits d.toNat) = .ok d
    have := atoi_itoa d (by omega)
    have hd' : Lib.itoa d = Lib.decDigits d.toNat := by have := Lib.itoa_nonneg d.toNat; rwa [show ((d.toNat : Nat) : Int) = d by omega] at this
    rwa [hd'] at this
theorem okQ_no {l : List UInt8} {n d : Int} (ha : Lib.atoiAll (cutA l) = .ok n) (hb : Lib.atoiAll (cutB l) = .ok d) (h : ¬ (frB n d = true ∧ frL n d = l)) : okQ l = false := by
  refine okQ_not fun n' d' h' => h ?_
  have := atoi_text h'.1 h'.2
  rw [ha, hb] at this
  obtain ⟨h1, h2⟩ := this
  injection h1 with h1
  injection h2 with h2
  subst h1 h2
  exact h'
set_option maxHeartbeats 1000000 in
set_option maxRecDepth 100000 in
theorem implParseFrac_any (s : ByteArray) (w : World) (hs : s.size ≤ 1000000000) (hP : Pows w) (hE : Sents w) (hM : MaxL w) : Calls Tryd.prog 16 #[.string s] w fun e w' => GivesQ s.data.toList w e w' := by
  obtain ⟨hl1, hl2⟩ := cut_len s.data.toList
  have hls : s.data.toList.length = s.size := by simp
  rw [hls] at hl1 hl2
  have b0 : Below w.heap.size w (w.alloc (.cells #[.int .i64 0, .int .i64 0] 24)) := (Below.refl _ _).alloc (Nat.le_refl _) _
  have HM := Lib.hid (hM.below b0)
  have HP := Lib.hid (hP.below b0)
  have HE := Lib.hid (hE.below b0)
  have R0 := F2.new w 0 0
  clear hls hM hP hE
  go_enter Tryd.func16, Tryd.ntmps16
  go_wp2_with fail
  refine (cut_b s _ hs HM.out).mono ?_
  rintro e w1 ⟨b, r, f, rfl, hb, hr, hf, b1⟩
  go_upto_if 20 with fail
  go_cut [4, 5] (fun x y wx => x = .string ⟨(cutA s.data.toList).toArray⟩ ∧ y = .string ⟨(cutB s.data.toList).toArray⟩ ∧ wx = w1)
  case first =>
    have HB := Lib.hid (show cutB s.data.toList = if f = true then r else [49] by unfold cutB; rw [hf.out, hr.out])
    cases f
    · go_wp2_with fail
      go_meet
      exact ⟨by rw [hb.out], by rw [HB.out]; rfl, rfl⟩
    · go_wp2_with fail
      go_meet
      exact ⟨by rw [hb.out], by rw [HB.out]; rfl, rfl⟩
  case rest =>
    obtain ⟨rfl, rfl, rfl⟩ := hcut
    have hla : (ByteArray.mk (cutA s.data.toList).toArray).size ≤ 1000000000 := by rw [bytes_size]; omega
    have hlb : (ByteArray.mk (cutB s.data.toList).toArray).size ≤ 1000000000 := by
      rw [bytes_size]; unfold cutB; split
      · omega
      · simp
    have HLA := Lib.hid hla
    have HLB := Lib.hid hlb
    have B1 := bel2 b0 b1
    clear hla hlb hl1 hl2
    by_cases ha : ∃ v, Lib.atoiAll (cutA s.data.toList) = .ok v
    · obtain ⟨n, hn⟩ := ha
      have HN := Lib.hid hn
      clear hn
      go_wp2_with fail
      refine (atoi_ok ⟨(cutA s.data.toList).toArray⟩ HLA.out n (by simpa using HN.out) _).mono ?_
      rintro e w2 ⟨rfl, b2⟩
      have B2 := bel2 B1 b2
      by_cases hb : ∃ v, Lib.atoiAll (cutB s.data.toList) = .ok v
      · obtain ⟨d, hd⟩ := hb
        have HD := Lib.hid hd
        clear hd
        go_wp2_with fail
        refine (atoi_ok ⟨(cutB s.data.toList).toArray⟩ HLB.out d (by simpa using HD.out) _).mono ?_
        rintro e w3 ⟨rfl, b3⟩
        have B3 := bel2 B2 b3
        have RB := F2.new w3 n d
        have R3 := (((R0.below b1).below b2).below b3).old (.cells #[.int .i64 n, .int .i64 d] 24)
        have B4 := B3.alloc B3.size (.cells #[.int .i64 n, .int .i64 d] 24)
        go_wp2_with fail
        refine (implFracText_any n d _ ((((HP.out.below b1).below b2).below b3).below ((Below.refl _ _).alloc (Nat.le_refl _) _))).mono ?_
        rintro e w4 ⟨rfl, b5⟩
        have B5 := bel2 B4 b5
        obtain ⟨z0, z1, z2, z3⟩ := R3.below b5
        obtain ⟨x0, x1, x2, x3⟩ := RB.below b5
        clear R3 RB R0
        cases hf : frB n d
        · have HO := Lib.hid (okQ_no HN.out HD.out (by rw [hf]; simp))
          go_wp2_with fail
          refine bodyPost_ret ((F2.store ⟨z0, z1, z2, z3⟩ _ _).results rfl rfl rfl) rfl ?_
          exact givesQ_no HO.out (bel_at (Nat.le_refl _) (Below.refl _ _) B5 _ _)
        · have HL := Lib.hid (show ftL n d = frL n d from if_pos hf)
          have HF := Lib.hid hf
          rw [HL.out]
          cases ht : frL n d == s.toList
          · have HO := Lib.hid (okQ_no HN.out HD.out (fun h => by rw [← Lib.toList_data] at h; rw [h.2] at ht; simp at ht))
            go_wp2_with fail
            refine bodyPost_ret ((F2.store ⟨z0, z1, z2, z3⟩ _ _).results rfl rfl rfl) rfl ?_
            exact givesQ_no HO.out (bel_at (Nat.le_refl _) (Below.refl _ _) B5 _ _)
          · have HO := Lib.hid (okQ_of (l := s.data.toList) HF.out (by rw [← Lib.toList_data]; simpa using ht))
            go_wp2_with fail
            refine bodyPost_ret ((F2.store ⟨z0, z1, z2, z3⟩ _ _).results rfl rfl rfl) rfl ?_
            exact givesQ_yes HO.out.1 HO.out.2.1.symm HO.out.2.2.symm (bel_at (Nat.le_refl _) (Below.refl _ _) B5 _ _)
      · have HO := Lib.hid (okQ_not (l := s.data.toList) (fun n d h => hb ⟨d, (atoi_text h.1 h.2).2⟩))
        have HB := Lib.hid (show ∀ v, Lib.atoiAll (ByteArray.mk (cutB s.data.toList).toArray).data.toList ≠ .ok v from fun v hv => hb ⟨v, by simpa using hv⟩)
        clear hb
        go_wp2_with fail
        refine (atoi_no ⟨(cutB s.data.toList).toArray⟩ HLB.out HB.out _ ((HE.out.below b1).below b2)).mono ?_
        rintro e w3 ⟨_, N, rfl, b3⟩
        have B3 := bel2 B2 b3
        obtain ⟨z0, z1, z2, z3⟩ := ((R0.below b1).below b2).below b3
        clear R0
        go_wp2_with fail
        refine bodyPost_ret ((F2.store ⟨z0, z1, z2, z3⟩ _ _).results rfl rfl rfl) rfl ?_
        exact givesQ_no HO.out (bel_at (Nat.le_refl _) (Below.refl _ _) B3 _ _)
    · have HO := Lib.hid (okQ_not (l := s.data.toList) (fun n d h => ha ⟨n, (atoi_text h.1 h.2).1⟩))
      have HA := Lib.hid (show ∀ v, Lib.atoiAll (ByteArray.mk (cutA s.data.toList).toArray).data.toList ≠ .ok v from fun v hv => ha ⟨v, by simpa using hv⟩)
      clear ha
      go_wp2_with fail
      refine (atoi_no ⟨(cutA s.data.toList).toArray⟩ HLA.out HA.out _ (HE.out.below b1)).mono ?_
      rintro e w2 ⟨_, N, rfl, b2⟩
      have B2 := bel2 B1 b2
      obtain ⟨z0, z1, z2, z3⟩ := (R0.below b1).below b2
      clear R0
      go_wp2_with fail
      refine bodyPost_ret ((F2.store ⟨z0, z1, z2, z3⟩ _ _).results rfl rfl rfl) rfl ?_
      exact givesQ_no HO.out (bel_at (Nat.le_refl _) (Below.refl _ _) B2 _ _)
end Go.Proofs.YtnfijdkggnijaaaDoor

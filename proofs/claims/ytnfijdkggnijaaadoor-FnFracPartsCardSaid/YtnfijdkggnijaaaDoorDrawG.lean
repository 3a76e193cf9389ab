/-
  The model's draws of lists and texts of chapter 2, and a sum of the laws: what each call returns.
  Condition: the bytes can be read; they are at most 1048576.
-/
import Derived.Test.YtnfijdkggnijaaaDoorDrawF
import Derived.Test.YtnfijdkggnijaaaDoorShift
import Derived.Test.YtnfijdkggnijaaaDoorFracH
namespace Go.Proofs.YtnfijdkggnijaaaDoor
set_option linter.unusedSimpArgs false
set_option linter.unusedVariables false
open Go.ChangeShapes Go.WideShapes Go.ChangeAt Go.RowKit

/-- A slice's length. -/
def lenV : Value → Nat
  | .slice _ n _ => n
  | _ => 0
/-- Numbers of a bounded size. -/
def smallL (zs : List Int) : Prop := ∀ x ∈ zs, -1000001 ≤ x ∧ x ≤ 1000001
/-- A list is drawn, in memory of its own. -/
def DrawsL (w : World) (e : Ending) (w' : World) : Prop := ∃ v zs, e = .returned v ∧ IS w' w.heap.size v zs ∧ zs.length ≤ 50 ∧ Hid (smallL zs) ∧ Below w.heap.size w w'
theorem drawMultiplyFracs_any (w : World) (A : Option Addr) (n cap : Nat) (h : RB w w.heap.size A n) (hn : n ≤ 1048576) : Calls Tryd.prog 4 #[.slice A n cap] w fun e w' => Draws2F w e w' := by
  have q0 : Below w.heap.size w ((w.alloc (.cells #[.int .i64 0, .int .i64 0] 24)).alloc (.cells #[.int .i64 0, .int .i64 0] 24)) := ((Below.refl _ _).alloc (Nat.le_refl _) _).alloc (by simp) _
  have R0 := (F2.new w 0 0).old (.cells #[.int .i64 0, .int .i64 0] 24)
  have R1 := F2.new (w.alloc (.cells #[.int .i64 0, .int .i64 0] 24)) 0 0
  rw [show (w.alloc (.cells #[.int .i64 0, .int .i64 0] 24)).heap.size = w.heap.size + 1 by simp] at R1
  have HR := Lib.hid (h.below q0)
  go_enter Tryd.func4, Tryd.ntmps4
  go_wp2_with fail
  refine (drawAddFracs_any _ A n cap HR.out hn).mono ?_
  rintro e v1 ⟨a, b, c, d, rfl, ha, hc, b1⟩
  obtain ⟨z0, z1, z2, z3⟩ := R0.below b1
  obtain ⟨y0, y1, y2, y3⟩ := R1.below b1
  have B1 := bel2 q0 b1
  have HA := Lib.hid ha
  have HC := Lib.hid hc
  clear R0 R1 ha hc q0
  go_wp2_with fail
  refine bodyPost_ret (F2.result2 (((F2.store ⟨z0, z1, z2, z3⟩ a b).far (by omega)).far (by omega)) (F2.store (F2.far (F2.far ⟨y0, y1, y2, y3⟩ (by omega)) (by omega)) c d) rfl rfl rfl) rfl ?_
  exact ⟨_, _, _, _, rfl, HA.out, HC.out, bel_pair (bel_pair B1 (Nat.le_refl _)) (by omega)⟩
set_option maxHeartbeats 1000000 in
theorem drawMean_any (w : World) (A : Option Addr) (n cap : Nat) (h : RB w w.heap.size A n) (hn : n ≤ 1048576) : Calls Tryd.prog 17 #[.slice A n cap] w fun e w' => DrawsL w e w' := by
  have hc := cur_new (cap := cap) h hn
  obtain ⟨i0, hi, hz0, hz1, hz2⟩ := info_parts infoInt
  go_enter Tryd.func17, Tryd.ntmps17
  go_wp2_with fail
  refine (pick_any 6 (by omega) _ _ 0 hc (by omega)).mono ?_
  rintro e v1 ⟨r, rfl, hr, hc1, hg1⟩
  have hr' : r ≤ 6 := by obtain ⟨q1, q2⟩ := hr; omega
  have B1 := bel_cur hg1
  clear hr hc hg1
  go_wp2_with fail
  refine (one_any 12 (by omega) _ _ _ hc1 (by omega)).mono ?_
  rintro e v2 ⟨o, rfl, hc2, hg2⟩
  have B2 := bel_draws B1 hg2 (Nat.le_refl _)
  clear hc1 hg2 B1
  go_upto_if 12 with fail
  go_cut [5] (fun x wx => ∃ k : Int, x = .int .i64 k ∧ k ≤ 50 ∧ Cur wx w.heap.size 6 ∧ Below w.heap.size w wx)
  case first =>
    cases o
    · go_wp2_with fail
      go_meet
      exact ⟨r, rfl, by omega, hc2.more (by omega), B2⟩
    · go_wp2_with fail
      refine (pick_any 2 (by omega) _ _ _ hc2 (by omega)).mono ?_
      rintro e v3 ⟨r2, rfl, hr2, hc3, hg3⟩
      have hr2' : 0 ≤ r2 ∧ r2 ≤ 2 := by obtain ⟨q1, q2⟩ := hr2; omega
      have B3 := bel_draws B2 hg3 (Nat.le_refl _)
      clear hr2
      go_wp2_with fail
      go_meet
      exact ⟨40 + r2, rfl, by omega, hc3.more (by omega), B3⟩
  case rest =>
    obtain ⟨k, rfl, hk, hc3, B3⟩ := hcut
    clear hc2 B2
    go_wp2_with fail
    go_loopw [4] (fun o wr => ∃ zs, IS wr (w.heap.size + 1) o zs ∧ zs.length ≤ 50 ∧ Hid (smallL zs) ∧ Cur wr w.heap.size (6 + 4 * zs.length) ∧ Below w.heap.size w wr) (fun o _ => 51 - lenV o)
    case atStart => exact ⟨[], IS.nil_ _ _, by simp, Lib.hid (fun x hx => by cases hx), hc3, B3⟩
    case round =>
      obtain ⟨zs, ho, hl, hsm, hcr, hb⟩ := hrel
      obtain ⟨A', cap', rfl, -, -⟩ := ho.parts
      have HO := Lib.hid ho
      clear ho
      by_cases hlt : (zs.length : Int) < k
      · have l1 := hcr.lt
        go_wp2_with fail
        refine (among_any _ _ _ wr.heap.size _ [4, 4, 4, 1000001, -1000001] (IS.lit wr [4, 4, 4, 1000001, -1000001] (by simp)) (lit_away l1) (by simp) (hcr.alloc _) (by omega)).mono ?_
        rintro e x1 ⟨p, rfl, hp, c1, g1⟩
        have hp' : -1000001 ≤ p ∧ p ≤ 1000001 := by simp at hp; omega
        have O1 := Lib.hid ((HO.out.alloc (.cells (ints [4, 4, 4, 1000001, -1000001]).toArray 3)).away (fun g hg => by have := (HO.out.lt g hg).1; omega) g1)
        have D1 := bel_draws (hb.alloc hb.size _) g1 (Nat.le_refl _)
        have l2 := c1.lt
        clear hp
        go_wp2_with fail
        refine (among_any _ _ _ x1.heap.size _ [0, 1, -3, 7, 20, 1000000, p] (IS.lit x1 [0, 1, -3, 7, 20, 1000000, p] (by simp)) (lit_away l2) (by simp) (c1.alloc _) (by omega)).mono ?_
        rintro e x2 ⟨q, rfl, hq, c2, g2⟩
        have hq' : -1000001 ≤ q ∧ q ≤ 1000001 := by simp at hq; omega
        have O2 := Lib.hid ((O1.out.alloc (.cells (ints [0, 1, -3, 7, 20, 1000000, p]).toArray 3)).away (fun g hg => by have := (O1.out.lt g hg).1; omega) g2)
        have D2 := bel_draws (D1.alloc D1.size _) g2 (Nat.le_refl _)
        have l3 := c2.lt
        clear hq
        have ho' : x2.ownsRow (w.heap.size + 1) 3 1 (.slice A' zs.length cap') zs.length (ints zs) := O2.out
        go_wp2_with (at_builtin; refine wpList_append_own _ rfl _ _ 35 rfl (w.heap.size + 1) 3 i0 (.int .i64 0) 1 8 Tryd.underlying35 hi hz0 hz1 hz2 rfl (by decide) _ _ _ rfl (ho'.alloc _) ⟨x2.heap.size, 0, none⟩ 1 1 [.int .i64 q] rfl rfl (one_new _ _) (by simp [Value.oneCell']) (by unfold maxLen; omega) (by omega) (by simp; omega) ?_; intro v' x3 hown' hgrow hnil)
        have hrow := IS.snoc rfl hown'
        obtain ⟨A2, cap2, hv', -, -⟩ := hrow.parts
        have c3 : Cur x3 w.heap.size (6 + 4 * (zs ++ [q]).length) := ((c2.alloc (.cells #[.int .i64 q] 3)).same (fun i hi => hgrow.block i (by simp; omega) (fun he => by
          have := (O2.out.lt i he.symm).1
          omega))).more (by simp; omega)
        refine ⟨⟨zs ++ [q], hrow, by simp; omega, Lib.hid (fun x hx => ?_), c3, (D2.alloc D2.size _).grown hgrow (by have := D2.size; simp; omega) (fun g hg => by have := (O2.out.lt g hg).1; omega)⟩, ?_⟩
        · rcases List.mem_append.1 hx with hx | hx
          · exact hsm.out x hx
          · simp at hx; omega
        · rw [hv']; simp [lenV]; omega
      · go_wp2
        go_ret
        exact ⟨_, zs, rfl, HO.out.base (by omega), hl, hsm, hb⟩
/-- The texts that are nearly right. -/
def spoilsF : List ByteArray := [⟨#[]⟩, ⟨#[45]⟩, ⟨#[47]⟩, ⟨#[49, 47]⟩, ⟨#[50, 47, 52]⟩, ⟨#[45, 48]⟩, ⟨#[49, 47, 49]⟩, ⟨#[48, 49]⟩, ⟨#[49, 48, 48, 48, 48, 48, 48, 48, 48, 48]⟩, ⟨#[49, 48, 48, 48, 48, 48, 48, 48, 48, 49]⟩, ⟨#[49, 47, 49, 48, 48, 48, 48, 48, 48, 48, 48, 48]⟩, ⟨#[45, 51, 47, 50]⟩]
theorem spoilsF_len {s : ByteArray} (h : s ∈ spoilsF) : s.size ≤ 1000 := by
  have : ∀ x ∈ spoilsF, x.size ≤ 1000 := by decide
  exact this s h
theorem frL_len {n d : Int} (h : frB n d = true) : (ByteArray.mk (frL n d).toArray).size ≤ 30 := by
  obtain ⟨hn, hd, -⟩ := frB_bd h
  rw [bytes_size]
  have h1 := itoa_short n hn
  have h2 := dec_short d.toNat (by omega)
  unfold frL frP
  split
  · omega
  · rw [List.length_append, List.length_append]; simp; omega
set_option maxHeartbeats 1000000 in
theorem drawParseFrac_any (w : World) (A : Option Addr) (n cap : Nat) (h : RB w w.heap.size A n) (hn : n ≤ 1048576) : Calls Tryd.prog 20 #[.slice A n cap] w fun e w' => DrawsS w e w' := by
  have hc := cur_new (cap := cap) h hn
  go_enter Tryd.func20, Tryd.ntmps20
  go_wp2_with fail
  refine (frac_any _ _ 0 hc (by omega)).mono ?_
  rintro e v1 ⟨x, y, rfl, hf, hc1, hg1⟩
  have HF := Lib.hid hf
  clear hf
  go_wp2_with fail
  refine (frText_any x y _ HF.out).mono ?_
  rintro e v2 ⟨rfl, b2⟩
  have HL := Lib.hid (frL_len HF.out)
  have hc2 := hc1.below b2
  have hl1 := hc1.lt
  have hg2 : (w.alloc (.cells #[.slice A n cap, .int .i64 0, .int .u64 0] 58)).grownBy v2 (some w.heap.size) := Lib.grownBy_below hg1 b2
  generalize hT : (ByteArray.mk (frL x y).toArray) = T at *
  clear hT
  go_wp2_with fail
  refine (pick_any 4 (by omega) _ _ _ hc2 (by omega)).mono ?_
  rintro e v3 ⟨r, rfl, -, hc3, hg3⟩
  cases e0 : r == 0
  · cases e1 : r == 1
    · go_wp2
      go_ret
      exact ⟨T, rfl, by have := HL.out; omega, bel_cur (grown_trans hg2 hg3)⟩
    · have l3 := hc3.lt
      go_wp2_with fail
      refine (of_any _ _ _ v3.heap.size _ spoilsF (SS.lit v3 spoilsF (by decide)) (lit_away l3) (by decide) (hc3.alloc _) (by omega)).mono ?_
      rintro e v4 ⟨s, rfl, hs, hc4, hg4⟩
      have HS := Lib.hid (spoilsF_len hs)
      clear hs
      go_wp2
      go_ret
      exact ⟨s, rfl, HS.out, bel_cur (grown_trans (grown_alloc (grown_trans hg2 hg3) _) hg4)⟩
  · go_wp2_with fail
    refine (spoilt_any T _ 30 HL.out (by omega) (by decide) _ _ _ hc3 (by omega)).mono ?_
    rintro e v4 ⟨s, rfl, hs, hc4, hg4⟩
    go_wp2
    go_ret
    exact ⟨s, rfl, by omega, bel_cur (grown_trans (grown_trans hg2 hg3) hg4)⟩
theorem sum_bd (zs : List Int) (h : smallL zs) (k : Nat) (hk : k < zs.length) : -1000001 ≤ gd zs k ∧ gd zs k ≤ 1000001 := by
  rw [gd_eq zs k hk]; exact h _ (List.getElem_mem hk)
set_option maxHeartbeats 400000 in
theorem qSum_any (w : World) (B : Nat) (v : Value) (zs : List Int) (h : IS w B v zs) (hl : zs.length ≤ 50) (hs : Hid (smallL zs)) : Calls Tryd.prog 22 #[v] w fun e w' => e = .returned (.int .i64 (sumI zs)) ∧ w = w' := by
  obtain ⟨A, cap, rfl, hm, hp⟩ := h.parts
  have HP := Lib.hid hp
  clear hp h hm
  go_enter Tryd.func22, Tryd.ntmps22
  go_wp2
  go_loop [3, 8] (fun x i => ∃ k : Nat, k ≤ zs.length ∧ i = .int .i64 k ∧ x = .int .i64 (sumI (zs.take k)) ∧ Hid (-1000001 * (k : Int) ≤ sumI (zs.take k) ∧ sumI (zs.take k) ≤ 1000001 * (k : Int))) (fun _ i => zs.length - (intOf i).toNat)
  case atStart => exact ⟨0, by omega, rfl, rfl, Lib.hid (by simp [sumI])⟩
  case round =>
    obtain ⟨k, hk, rfl, rfl, hbd⟩ := hrel
    by_cases hlt : k < zs.length
    · obtain ⟨g, rfl, hc⟩ := HP.out k hlt
      obtain ⟨hf1, hf2⟩ := sum_bd zs hs.out k hlt
      obtain ⟨hb1, hb2⟩ := hbd.out
      obtain ⟨s, hs'⟩ : ∃ s, s = sumI (zs.take k) := ⟨_, rfl⟩
      have hnx := Lib.hid (sumI_next zs k hlt)
      have HS := Lib.hid hs'
      rw [← hs'] at hb1 hb2
      rw [← hs']
      clear hs'
      go_wp2
      go_round
      case rel => exact ⟨k + 1, by omega, by go_num, by rw [hnx.out, ← HS.out] <;> go_num, Lib.hid (by rw [hnx.out, ← HS.out]; omega)⟩
      case measure => simp [intOf]; omega
    · have HE := Lib.hid (sumI_end zs k hlt)
      go_wp2
      go_ret
      exact ⟨ret_i64 (by rw [HE.out]), rfl⟩
end Go.Proofs.YtnfijdkggnijaaaDoor

/-
  Reading numbers: plain lists of bytes, and what the model's and the program's functions return.
  Condition: the tables and the sentinels of Go's library and the program's two tables are as their text lays them.
-/
import Derived.Test.YtiopinhdfoinoaaGreatDoorTextB
import Derived.Lib.AtoiAllCases
namespace Go.Proofs.YtiopinhdfoinoaaGreatDoor
set_option linter.unusedSimpArgs false
set_option linter.unusedVariables false
open Go.ChangeShapes Go.WideShapes Go.ChangeAt Go.RowKit

/-! ### Lists of digits -/
theorem dgt_nat {d : Nat} (h : d < 10) : (dgt d).toNat = 48 + d := by
  unfold dgt; simp; omega
theorem dec_ind {P : Nat → List UInt8 → Prop} (h1 : ∀ u, u < 10 → P u [dgt u]) (h2 : ∀ u l, ¬ u < 10 → P (u / 10) l → P u (l ++ [dgt (u % 10)])) (u : Nat) : P u (Lib.decDigits u) := by
  induction u using Nat.strongRecOn with
  | _ u ih =>
    by_cases h : u < 10
    · rw [dec_one h]; exact h1 u h
    · rw [dec_more h]; exact h2 u _ h (ih (u / 10) (by omega))
theorem dec_ne (u : Nat) : Lib.decDigits u ≠ [] := dec_ind (P := fun _ l => l ≠ []) (fun _ _ => by simp) (fun _ _ _ _ => by simp) u
/-- All bytes are digits. -/
def Digs (l : List UInt8) : Prop := ∀ c ∈ l, 48 ≤ c.toNat ∧ c.toNat ≤ 57
theorem dec_digs (u : Nat) : Digs (Lib.decDigits u) :=
  dec_ind (P := fun _ l => Digs l) (fun u h c hc => by simp at hc; subst hc; rw [dgt_nat h]; omega)
    (fun u l _ ih c hc => by
      rcases List.mem_append.1 hc with h | h
      · exact ih c h
      · simp at h; subst h; rw [dgt_nat (by omega)]; omega) u
theorem dec_head (u : Nat) : (Lib.decDigits u).head? = some 48 → u = 0 := by
  have := dec_ind (P := fun u l => l ≠ [] ∧ (l.head? = some 48 → u = 0)) (fun u h => ⟨by simp, fun hh => by
      simp at hh
      have := congrArg UInt8.toNat hh
      rw [dgt_nat h] at this
      simp at this
      omega⟩)
    (fun u l h ih => ⟨by simp, fun hh => by
      cases l with
      | nil => exact absurd rfl ih.1
      | cons c r =>
        simp at hh
        have := ih.2 (by simp [hh])
        omega⟩) u
  exact this.2
theorem dec_len (k : Nat) : ∀ u, u < 10 ^ (k + 1) → (Lib.decDigits u).length ≤ k + 1 := by
  induction k with
  | zero => intro u h; rw [dec_one (by omega)]; simp
  | succ k ih =>
    intro u h
    by_cases h10 : u < 10
    · rw [dec_one h10]; simp
    · rw [dec_more h10, List.length_append]
      have := ih (u / 10) (by rw [Nat.pow_succ] at h; omega)
      simp
      omega
theorem parse_snoc {d : Nat} (hd : d < 10) : ∀ (l : List UInt8) (acc v : Nat), Lib.parseUint10 acc l = .ok v → v < 1844674407370955161 → Lib.parseUint10 acc (l ++ [dgt d]) = .ok (v * 10 + d)
  | [], acc, v, h, hv => by
    simp only [Lib.parseUint10] at h
    injection h with h
    subst h
    simp only [List.nil_append, Lib.parseUint10, dgt_nat hd]
    rw [if_pos (by omega), if_neg (by omega), if_neg (by omega)]
    congr 1
    omega
  | c :: r, acc, v, h, hv => by
    simp only [Lib.parseUint10, List.cons_append] at h ⊢
    split at h
    · rename_i hc
      rw [if_pos hc]
      split at h
      · cases h
      · rename_i h1
        rw [if_neg h1]
        split at h
        · cases h
        · rename_i h2
          rw [if_neg h2]
          exact parse_snoc hd r _ v h hv
    · cases h
theorem parse_dec (u : Nat) : u ≤ 10000000000 → Lib.parseUint10 0 (Lib.decDigits u) = .ok u :=
  dec_ind (P := fun u l => u ≤ 10000000000 → Lib.parseUint10 0 l = .ok u)
    (fun u h _ => by
      simp only [Lib.parseUint10, dgt_nat h]
      rw [if_pos (by omega), if_neg (by omega), if_neg (by omega)]
      congr 1
      omega)
    (fun u l _ ih hu => by
      rw [parse_snoc (by omega) l 0 (u / 10) (ih (by omega)) (by omega)]
      congr 1
      omega) u
theorem mag_dec (u : Nat) (h : u ≤ 10000000000) : Lib.parseMag (Lib.decDigits u) = .ok u := by
  unfold Lib.parseMag; rw [if_neg (dec_ne u), parse_dec u h]
theorem atoi_itoa (n : Int) (h : -10000000000 ≤ n ∧ n ≤ 10000000000) : Lib.atoiAll (Lib.itoa n) = .ok n := by
  by_cases hn : n < 0
  · obtain ⟨u, rfl⟩ : ∃ u : Nat, n = -(u : Int) := ⟨n.natAbs, by omega⟩
    rw [Lib.itoa_neg u (by omega), Lib.atoiAll_minus, mag_dec u (by omega)]
    simp only [Lib.signed]
    rw [if_neg (by omega)]
  · obtain ⟨u, rfl⟩ : ∃ u : Nat, n = u := ⟨n.toNat, by omega⟩
    rw [Lib.itoa_nonneg]
    have hd := dec_digs u
    have hm := mag_dec u (by omega)
    cases hl : Lib.decDigits u with
    | nil => exact absurd hl (dec_ne u)
    | cons c r =>
      rw [hl] at hd hm
      have := hd c (by simp)
      rw [Lib.atoiAll_plain c r (by omega) (by omega), hm]
      simp only [Lib.signless]
      rw [if_neg (by omega)]

/-! ### The model's way of reading -/
def rdFrom (acc : Int) : List UInt8 → Int
  | [] => acc
  | c :: r => if 48 ≤ (c.toNat : Int) ∧ (c.toNat : Int) ≤ 57 then rdFrom (10 * acc + ((c.toNat : Int) - 48)) r else -1
/-- Is there a zero ahead of other digits. -/
def lead0 (l : List UInt8) : Bool := (l.head? == some 48) && decide (1 < l.length)
def rdV (l : List UInt8) : Int := if inB l.length 1 10 = true ∧ lead0 l = false then rdFrom 0 l else -1
theorem rd_snoc {d : Nat} (hd : d < 10) : ∀ (l : List UInt8) (acc : Int), Digs l → rdFrom acc (l ++ [dgt d]) = 10 * rdFrom acc l + d
  | [], acc, _ => by
    simp only [List.nil_append, rdFrom, dgt_nat hd]
    rw [if_pos (by omega)]
    omega
  | c :: r, acc, h => by
    have hc := h c (by simp)
    simp only [List.cons_append, rdFrom]
    rw [if_pos (by omega), if_pos (by omega)]
    exact rd_snoc hd r _ (fun x hx => h x (by simp [hx]))
theorem rd_dec (u : Nat) : rdFrom 0 (Lib.decDigits u) = u := by
  have := dec_ind (P := fun u l => Digs l ∧ rdFrom 0 l = u)
    (fun u h => ⟨fun c hc => by simp at hc; subst hc; rw [dgt_nat h]; omega, by
      simp only [rdFrom, dgt_nat h]
      rw [if_pos (by omega)]
      omega⟩)
    (fun u l _ ih => ⟨fun c hc => by
      rcases List.mem_append.1 hc with h | h
      · exact ih.1 c h
      · simp at h; subst h; rw [dgt_nat (by omega)]; omega, by
      rw [rd_snoc (by omega) l 0 ih.1, ih.2]
      omega⟩) u
  exact this.2
theorem rdV_dec (u : Nat) (h : u ≤ 9999999999) : rdV (Lib.decDigits u) = u := by
  have hl : 1 ≤ (Lib.decDigits u).length := by
    have := dec_ne u
    cases hh : Lib.decDigits u with
    | nil => exact absurd hh this
    | cons c r => simp
  have hm := dec_len 9 u (by omega)
  have hz : lead0 (Lib.decDigits u) = false := by
    unfold lead0
    by_cases h0 : u = 0
    · subst h0; rw [dec_one (by omega)]; rfl
    · cases hh : ((Lib.decDigits u).head? == some 48)
      · rfl
      · exact absurd (dec_head u (by simpa using hh)) h0
  unfold rdV
  rw [if_pos ⟨(inB_iff _ _ _).2 (by omega), hz⟩, rd_dec]
/-- The number that the model reads. -/
def prV (l : List UInt8) : Int := if l = [105, 110, 102] then 1000000000 else if 1 < l.length ∧ l.head? = some 45 then -(rdV l.tail) else rdV l
def okPs (l : List UInt8) : Bool := numB (prV l) && (numText (prV l) == l)
def pnV (l : List UInt8) : Int := if okPs l = true then prV l else 0
theorem digs_head {l : List UInt8} (h : Digs l) : l.head? ≠ some 45 ∧ l ≠ [105, 110, 102] := by
  refine ⟨fun hh => ?_, fun hh => ?_⟩
  · cases l with
    | nil => simp at hh
    | cons c r =>
      simp at hh
      have := h c (by simp)
      subst hh
      simp at this
  · subst hh
    have := h 105 (by simp)
    simp at this
theorem text_read {n : Int} (h : numB n = true) : prV (numText n) = n := by
  have hb := numB_bd h
  unfold numText
  by_cases hi : n = 1000000000
  · rw [if_pos hi, hi]; rfl
  · rw [if_neg hi]
    by_cases hn : n < 0
    · obtain ⟨u, rfl⟩ : ∃ u : Nat, n = -(u : Int) := ⟨n.natAbs, by omega⟩
      rw [Lib.itoa_neg u (by omega)]
      unfold prV
      have hlen : 1 < (45 :: Lib.decDigits u).length := by
        have := dec_ne u
        cases hh : Lib.decDigits u with
        | nil => exact absurd hh this
        | cons c r => simp
      rw [if_neg (by simp), if_pos ⟨hlen, by simp⟩, List.tail_cons, rdV_dec u (by omega)]
    · obtain ⟨u, rfl⟩ : ∃ u : Nat, n = u := ⟨n.toNat, by omega⟩
      rw [Lib.itoa_nonneg]
      have hd := digs_head (dec_digs u)
      unfold prV
      rw [if_neg hd.2, if_neg (fun hh => hd.1 hh.2), rdV_dec u (by omega)]
theorem text_atoi {n : Int} {l : List UInt8} (h : numB n = true) (ht : numText n = l) (hl : l ≠ [105, 110, 102]) : Lib.atoiAll l = .ok n := by
  have hb := numB_bd h
  unfold numText at ht
  by_cases hi : n = 1000000000
  · rw [if_pos hi] at ht; exact absurd ht.symm hl
  · rw [if_neg hi] at ht
    rw [← ht]
    exact atoi_itoa n (by omega)
theorem okP_of {n : Int} {l : List UInt8} (h : numB n = true) (ht : numText n = l) : okPs l = true ∧ pnV l = n := by
  have hr : prV l = n := by rw [← ht]; exact text_read h
  have ho : okPs l = true := by unfold okPs; rw [hr, h, ht]; simp
  exact ⟨ho, by unfold pnV; rw [if_pos ho, hr]⟩
theorem okP_parts {l : List UInt8} (h : okPs l = true) : numB (prV l) = true ∧ numText (prV l) = l := by
  unfold okPs at h; simpa using h
theorem okP_not {l : List UInt8} (hl : l ≠ [105, 110, 102]) (ha : ∀ n, Lib.atoiAll l = .ok n → ¬ (numB n = true ∧ numText n = l)) : okPs l = false ∧ pnV l = 0 := by
  have : okPs l = false := by
    cases ho : okPs l
    · rfl
    · have h := okP_parts ho
      exact absurd h (ha _ (text_atoi h.1 h.2 hl))
  exact ⟨this, by unfold pnV; rw [if_neg (by simp [this])]⟩
def pw (k : Nat) : Int := ((10 ^ k : Nat) : Int)
theorem pw_succ (k : Nat) : pw (k + 1) = 10 * pw k := by unfold pw; rw [Nat.pow_succ]; omega
theorem pw_le {k m : Nat} (h : k ≤ m) : pw k ≤ pw m := by unfold pw; exact Int.ofNat_le.2 (Nat.pow_le_pow_right (by decide) h)
theorem pw_9 : pw 9 = 1000000000 := by decide
theorem drop_byte (s : ByteArray) (k : Nat) (h : k < s.size) : s.data.toList.drop k = s[k] :: s.data.toList.drop (k + 1) := by
  rw [List.drop_eq_getElem_cons (by simpa using h)]; rfl
theorem rd_yes {c : UInt8} {a : Int} {r : List UInt8} (h1 : 48 ≤ (c.toNat : Int)) (h2 : (c.toNat : Int) ≤ 57) : rdFrom a (c :: r) = rdFrom (10 * a + ((c.toNat : Int) - 48)) r := by simp only [rdFrom]; rw [if_pos ⟨h1, h2⟩]
theorem rd_no {c : UInt8} {a : Int} {r : List UInt8} (h : ¬ (48 ≤ (c.toNat : Int) ∧ (c.toNat : Int) ≤ 57)) : rdFrom a (c :: r) = -1 := by simp only [rdFrom]; rw [if_neg h]
theorem head_byte (s : ByteArray) (h : 0 < s.size) : s.data.toList.head? = some s[0] := by
  have := drop_byte s 0 h
  rw [List.drop_zero] at this
  rw [this]; rfl
/-- What ParseNumber gives. -/
def GivesP (l : List UInt8) (w : World) (e : Ending) (w' : World) : Prop := e = .returned (.tuple #[.int .i64 (pnV l), .bool (okPs l)]) ∧ Below w.heap.size w w'
theorem givesP_no {l : List UInt8} {w w' : World} (h : okPs l = false) (hb : Below w.heap.size w w') : GivesP l w (.returned (.tuple #[.int .i64 0, .bool false])) w' := by
  refine ⟨?_, hb⟩
  rw [h, show pnV l = 0 from if_neg (by simp [h])]
theorem givesP_yes {l : List UInt8} {n : Int} {w w' : World} (h : okPs l = true) (hn : n = pnV l) (hb : Below w.heap.size w w') : GivesP l w (.returned (.tuple #[.int .i64 n, .bool true])) w' := by
  refine ⟨?_, hb⟩
  rw [h, hn]
theorem rdFrom_bd : ∀ (l : List UInt8) (a : Int), 0 ≤ a → -1 ≤ rdFrom a l ∧ rdFrom a l < (a + 1) * pw l.length
  | [], a, h => by simp [rdFrom, pw]; omega
  | c :: r, a, h => by
    simp only [rdFrom]
    have hp : 0 < pw r.length := by unfold pw; exact Int.natCast_pos.2 (Nat.pow_pos (by decide))
    split
    · rename_i hc
      have ih := rdFrom_bd r (10 * a + ((c.toNat : Int) - 48)) (by omega)
      refine ⟨ih.1, Int.lt_of_lt_of_le ih.2 ?_⟩
      rw [List.length_cons, pw_succ]
      have h2 : (10 * a + ((c.toNat : Int) - 48) + 1) * pw r.length ≤ (10 * (a + 1)) * pw r.length := Int.mul_le_mul_of_nonneg_right (by omega) (by omega)
      refine Int.le_trans h2 (Int.le_of_eq ?_)
      rw [Int.mul_comm 10 (a + 1), Int.mul_assoc]
    · refine ⟨by omega, ?_⟩
      have : 0 < (a + 1) * pw (List.length (c :: r)) := Int.mul_pos (by omega) (by unfold pw; exact Int.natCast_pos.2 (Nat.pow_pos (by decide)))
      omega
theorem rdV_bd (l : List UInt8) : -1 ≤ rdV l ∧ rdV l ≤ 10000000000 := by
  unfold rdV
  split
  · rename_i h
    have hl := (inB_iff _ _ _).1 h.1
    have h1 := rdFrom_bd l 0 (by omega)
    have h2 := pw_le (show l.length ≤ 10 by omega)
    have h3 : pw 10 = 10000000000 := by decide
    simp at h1
    omega
  · omega
theorem tail_bytes (s : ByteArray) : (s.extract 1 s.size).data.toList = s.data.toList.tail := by
  rw [ByteArray.data_extract, Array.toList_extract, List.extract_eq_drop_take']
  simp
  rw [List.take_of_length_le (by simp)]
/-- The two sentinels of Go's library. -/
def Sents (w : World) : Prop := (∃ tp p, w.var? Tryz.prog "strconv.ErrSyntax" = some #[.iface tp p]) ∧ ∃ tp p, w.var? Tryz.prog "strconv.ErrRange" = some #[.iface tp p]
theorem atoi_ok (s : ByteArray) (hs : s.size ≤ 1000000000) (v : Int) (h : Lib.atoiAll s.data.toList = .ok v) (w : World) :
    Calls Tryz.prog 104 #[.string s] w fun e w' => e = .returned (.tuple #[.int .i64 v, .nilIface]) ∧ Below w.heap.size w w' :=
  (Tryz.strconv_Atoi_ok s (by omega) v h w).mono fun e w' ⟨h1, h2⟩ => ⟨h1, by
    rcases h2 with rfl | ⟨t, rfl⟩
    · exact Below.refl _ _
    · exact Lib.bytesWorld_below _ _ _⟩
/-- It fails: a number, an error that is not nil. -/
def FailsA (w : World) (e : Ending) (w' : World) : Prop := ∃ n N, e = .returned (.tuple #[.int .i64 n, .iface 143 (.pointer (some ⟨N, 0, none⟩))]) ∧ Below w.heap.size w w'
theorem atoi_no (s : ByteArray) (hs : s.size ≤ 1000000000) (h : ∀ v, Lib.atoiAll s.data.toList ≠ .ok v) (w : World) (hS : Sents w) :
    Calls Tryz.prog 104 #[.string s] w fun e w' => FailsA w e w' := by
  obtain ⟨⟨tp, p, h1⟩, ⟨tp', p', h2⟩⟩ := hS
  cases ha : Lib.atoiAll s.data.toList with
  | ok v => exact absurd ha (h v)
  | «syntax» => exact (Tryz.strconv_Atoi_syntax_var s (by omega) ha tp p w h1).mono fun e w' ⟨N, h1, _, _, h4⟩ => ⟨0, N, h1, h4⟩
  | range => exact (Tryz.strconv_Atoi_range_var s (by omega) ha tp' p' w h2).mono fun e w' ⟨N, h1, _, _, h4⟩ => ⟨_, N, h1, h4⟩
theorem ok_zero : okPs [48] = true ∧ pnV [48] = 0 := okP_of (n := 0) rfl (by simp [numText, Lib.itoa, Lib.decDigits])
theorem ok_inf : okPs [105, 110, 102] = true ∧ pnV [105, 110, 102] = 1000000000 := okP_of (n := 1000000000) rfl rfl
set_option maxHeartbeats 1000000 in
theorem implParseNumber_any (s : ByteArray) (w : World) (hs : s.size ≤ 1000000000) (hN : Neut w) (hS : Names w) (hP : Pows w) (hE : Sents w) : Calls Tryz.prog 87 #[.string s] w fun e w' => GivesP s.data.toList w e w' := by
  have hN' := hN
  have hS' := hS
  obtain ⟨hN0, hN1⟩ := hN
  obtain ⟨hS0, hS1⟩ := hS
  have hn0 := name_0 w
  have hn1 := name_1 w
  by_cases hi : s = ⟨#[105, 110, 102]⟩
  · subst hi
    go_enter Tryz.func87, Tryz.ntmps87
    go_wp2_with fail
    go_rounds 2
    go_ret2
    exact givesP_yes ok_inf.1 ok_inf.2.symm (Below.refl _ _)
  · by_cases hz : s = ⟨#[48]⟩
    · subst hz
      go_enter Tryz.func87, Tryz.ntmps87
      go_wp2_with fail
      go_rounds 3
      go_ret2
      exact givesP_yes ok_zero.1 ok_zero.2.symm (Below.refl _ _)
    · have e0 : ([105, 110, 102] == s.toList) = false := by
        cases hh : [105, 110, 102] == s.toList
        · rfl
        · exact absurd (bytes_of (by rw [← Lib.toList_data]; simpa using (by simpa using hh : [105, 110, 102] = s.toList).symm)) hi
      have e1 : ([48] == s.toList) = false := by
        cases hh : [48] == s.toList
        · rfl
        · exact absurd (bytes_of (by rw [← Lib.toList_data]; simpa using (by simpa using hh : [48] = s.toList).symm)) hz
      have HI := Lib.hid (show s.data.toList ≠ [105, 110, 102] from fun hh => hi (bytes_of hh))
      clear hi hz
      go_enter Tryz.func87, Tryz.ntmps87
      go_wp2_with fail
      go_loop [11] (fun i => ∃ k : Nat, k ≤ 2 ∧ i = .int .i64 k) (fun i => 2 - (intOf i).toNat)
      case atStart => exact ⟨0, by omega, rfl⟩
      case round =>
        obtain ⟨k, hk, rfl⟩ := hrel
        have hk3 : k = 0 ∨ k = 1 ∨ k = 2 := by omega
        rcases hk3 with rfl | rfl | rfl
        · go_wp2
          go_round
          case rel => exact ⟨1, by omega, rfl⟩
          case measure => simp [intOf]
        · go_wp2
          go_round
          case rel => exact ⟨2, by omega, rfl⟩
          case measure => simp [intOf]
        · by_cases ha : ∃ v, Lib.atoiAll s.data.toList = .ok v
          · obtain ⟨v, hv⟩ := ha
            have HV := Lib.hid hv
            clear hv
            go_wp2_with fail
            refine (atoi_ok s hs v HV.out _).mono ?_
            rintro e w1 ⟨rfl, b1⟩
            go_wp2_with fail
            refine (implNumberText_any _ _ (hN'.below b1) (hS'.below b1) (hP.below b1)).mono ?_
            rintro e w2 ⟨rfl, b2⟩
            have B2 := bel2 b1 b2
            cases hg : numB v
            · have HO := Lib.hid (okP_not HI.out (fun n hn hh => by
                rw [HV.out] at hn
                injection hn with hn
                subst hn
                rw [hg] at hh
                cases hh.1)).1
              go_wp2_with fail
              go_ret2
              exact givesP_no HO.out B2
            · have HL := Lib.hid (show ntL v = numText v from if_pos hg)
              rw [HL.out]
              cases ht : numText v == s.toList
              · have HO := Lib.hid (okP_not HI.out (fun n hn hh => by
                  rw [HV.out] at hn
                  injection hn with hn
                  subst hn
                  rw [Lib.toList_data] at ht
                  rw [hh.2] at ht
                  simp at ht)).1
                go_wp2_with fail
                go_ret2
                exact givesP_no HO.out B2
              · have HO := Lib.hid (okP_of (l := s.data.toList) hg (by rw [Lib.toList_data] at ht; simpa using ht))
                go_wp2_with fail
                go_ret2
                exact givesP_yes HO.out.1 HO.out.2.symm B2
          · have HO := Lib.hid (okP_not HI.out (fun n hn _ => ha ⟨n, hn⟩)).1
            have HA := Lib.hid (show ∀ v, Lib.atoiAll s.data.toList ≠ .ok v from fun v hv => ha ⟨v, hv⟩)
            clear ha
            go_wp2_with fail
            refine (atoi_no s hs HA.out _ hE).mono ?_
            rintro e w1 ⟨n, N, rfl, b1⟩
            go_wp2_with fail
            go_ret2
            exact givesP_no HO.out b1
theorem starErr : "*" ++ "errors.errorString" = "*errors.errorString" := by decide
theorem rowErr (u : TypeId) (h : Tryz.prog.typeName? 3 u = some "*errors.errorString") : u = 162 :=
  typeName_ptr_named (nm := "errors.errorString") (by rw [starErr]; kernel_rfl) (by kernel_rfl) (by decide) u (by rw [starErr]; exact h)
theorem syntax_of_laid {W : World} {rest : List (String × DataW Unit)} (h : laidMet Tryz.prog (("strconv.ErrSyntax", Rows.laid_strconv_ErrSyntax) :: rest) W) : ∃ tp p, W.var? Tryz.prog "strconv.ErrSyntax" = some #[.iface tp p] := by
  obtain ⟨a0, s0, hv0, -, -, -⟩ := laid_sentinel h (show Tryz.prog.globalNamed "strconv.ErrSyntax" = some 6 by kernel_rfl) (show (Tryz.prog.globals[6]?).map (·.type) = some 53 by kernel_rfl) Tryz.underlying53 rowErr Tryz.underlying162 Tryz.underlying164 rfl rfl Tryz.underlying9 (by kernel_rfl) (by kernel_rfl)
  exact ⟨_, _, hv0⟩
theorem range_of_laid {W : World} {rest : List (String × DataW Unit)} (h : laidMet Tryz.prog (("strconv.ErrRange", Rows.laid_strconv_ErrRange) :: rest) W) : ∃ tp p, W.var? Tryz.prog "strconv.ErrRange" = some #[.iface tp p] := by
  obtain ⟨a0, s0, hv0, -, -, -⟩ := laid_sentinel h (show Tryz.prog.globalNamed "strconv.ErrRange" = some 7 by kernel_rfl) (show (Tryz.prog.globals[7]?).map (·.type) = some 53 by kernel_rfl) Tryz.underlying53 rowErr Tryz.underlying162 Tryz.underlying164 rfl rfl Tryz.underlying9 (by kernel_rfl) (by kernel_rfl)
  exact ⟨_, _, hv0⟩
theorem var_below {w w' : World} {n : String} {g : Nat} {v : Value} (hg : Tryz.prog.globalNamed n = some g) (h : w.var? Tryz.prog n = some #[v]) (hb : Below w.heap.size w w') : w'.var? Tryz.prog n = some #[v] := by
  unfold World.var? at h ⊢
  rw [hg] at h ⊢
  simp only [Option.bind_some] at h ⊢
  have hlt : g < w.heap.size := by
    cases hh : w.heap[g]? with
    | none => rw [hh] at h; cases h
    | some o => exact (Array.getElem?_eq_some_iff.1 hh).1
  rw [hb.block g hlt]; exact h
theorem Sents.below {w w' : World} (h : Sents w) (hb : Below w.heap.size w w') : Sents w' := by
  obtain ⟨⟨a, b, h1⟩, ⟨c, d, h2⟩⟩ := h
  exact ⟨⟨a, b, var_below (show Tryz.prog.globalNamed "strconv.ErrSyntax" = some 6 by kernel_rfl) h1 hb⟩, ⟨c, d, var_below (show Tryz.prog.globalNamed "strconv.ErrRange" = some 7 by kernel_rfl) h2 hb⟩⟩
end Go.Proofs.YtiopinhdfoinoaaGreatDoor

/-
  Reading numbers: plain lists of bytes, and what the model's and the program's functions return.
  Condition: the tables and the sentinels of Go's library and the program's two tables are as their text lays them.
-/
import Derived.Test.YtklcildhfcomnaaGreatDoorTextB
import Derived.Lib.AtoiAllCases
namespace Go.Proofs.YtklcildhfcomnaaGreatDoor
set_option linter.unusedSimpArgs false
set_option linter.unusedVariables false
open Go.ChangeShapes Go.WideShapes Go.ChangeAt Go.RowKit

/-! ### Lists of digits -/
theorem dgt_nat {d : Nat} (h : d < 10) : (dgt d).toNat = 48 + d := by
  unfold dgt; simp; omega
theorem dec_ind {P : Nat → List UInt8 → Prop} (h1 : ∀ u, u < 10 → P u [dgt u]) (h2 : ∀ u l, ¬ u < 10 → P (u / 10) l → P u (l ++ [dgt (u % 10)])) (u : Nat) : P u (Lib.decDigits u) := by
  induction u using Nat.strongRecOn with
  | _ u ih =>
    by_cases h : u < 10
    · rw [dec_one h]; exact h1 u h
    · rw [dec_more h]; exact h2 u _ h (ih (u / 10) (by omega))
theorem dec_ne (u : Nat) : Lib.decDigits u ≠ [] := dec_ind (P := fun _ l => l ≠ []) (fun _ _ => by simp) (fun _ _ _ _ => by simp) u
/-- All bytes are digits. -/
def Digs (l : List UInt8) : Prop := ∀ c ∈ l, 48 ≤ c.toNat ∧ c.toNat ≤ 57
theorem dec_digs (u : Nat) : Digs (Lib.decDigits u) :=
  dec_ind (P := fun _ l => Digs l) (fun u h c hc => by simp at hc; subst hc; rw [dgt_nat h]; omega)
    (fun u l _ ih c hc => by
      rcases List.mem_append.1 hc with h | h
      · exact ih c h
      · simp at h; subst h; rw [dgt_nat (by omega)]; omega) u
theorem dec_head (u : Nat) : (Lib.decDigits u).head? = some 48 → u = 0 := by
  have := dec_ind (P := fun u l => l ≠ [] ∧ (l.head? = some 48 → u = 0)) (fun u h => ⟨by simp, fun hh => by
      simp at hh
      have := congrArg UInt8.toNat hh
      rw [dgt_nat h] at this
      simp at this
      omega⟩)
    (fun u l h ih => ⟨by simp, fun hh => by
      cases l with
      | nil => exact absurd rfl ih.1
      | cons c r =>
        simp at hh
        have := ih.2 (by simp [hh])
        omega⟩) u
  exact this.2
theorem dec_len (k : Nat) : ∀ u, u < 10 ^ (k + 1) → (Lib.decDigits u).length ≤ k + 1 := by
  induction k with
  | zero => intro u h; rw [dec_one (by omega)]; simp
  | succ k ih =>
    intro u h
    by_cases h10 : u < 10
    · rw [dec_one h10]; simp
    · rw [dec_more h10, List.length_append]
      have := ih (u / 10) (by rw [Nat.pow_succ] at h; omega)
      simp
      omega
theorem parse_snoc {d : Nat} (hd : d < 10) : ∀ (l : List UInt8) (acc v : Nat), Lib.parseUint10 acc l = .ok v → v < 1844674407370955161 → Lib.parseUint10 acc (l ++ [dgt d]) = .ok (v * 10 + d)
  | [], acc, v, h, hv => by
    simp only [Lib.parseUint10] at h
    injection h with h
    subst h
    simp only [List.nil_append, Lib.parseUint10, dgt_nat hd]
    rw [if_pos (by omega), if_neg (by omega), if_neg (by omega)]
    congr 1
    omega
  | c :: r, acc, v, h, hv => by
    simp only [Lib.parseUint10, List.cons_append] at h ⊢
    split at h
    · rename_i hc
      rw [if_pos hc]
      split at h
      · cases h
      · rename_i h1
        rw [if_neg h1]
        split at h
        · cases h
        · rename_i h2
          rw [if_neg h2]
          exact parse_snoc hd r _ v h hv
    · cases h
theorem parse_dec (u : Nat) : u ≤ 10000000000 → Lib.parseUint10 0 (Lib.decDigits u) = .ok u :=
  dec_ind (P := fun u l => u ≤ 10000000000 → Lib.parseUint10 0 l = .ok u)
    (fun u h _ => by
      simp only [Lib.parseUint10, dgt_nat h]
      rw [if_pos (by omega), if_neg (by omega), if_neg (by omega)]
      congr 1
      omega)
    (fun u l _ ih hu => by
      rw [parse_snoc (by omega) l 0 (u / 10) (ih (by omega)) (by omega)]
      congr 1
      omega) u
theorem mag_dec (u : Nat) (h : u ≤ 10000000000) : Lib.parseMag (Lib.decDigits u) = .ok u := by
  unfold Lib.parseMag; rw [if_neg (dec_ne u), parse_dec u h]
theorem atoi_itoa (n : Int) (h : -10000000000 ≤ n ∧ n ≤ 10000000000) : Lib.atoiAll (Lib.itoa n) = .ok n := by
  by_cases hn : n < 0
  · obtain ⟨u, rfl⟩ : ∃ u : Nat, n = -(u : Int) := ⟨n.natAbs, by omega⟩
    rw [Lib.itoa_neg u (by omega), Lib.atoiAll_minus, mag_dec u (by omega)]
    simp only [Lib.signed]
    rw [if_neg (by omega)]
  · obtain ⟨u, rfl⟩ : ∃ u : Nat, n = u := ⟨n.toNat, by omega⟩
    rw [Lib.itoa_nonneg]
    have hd := dec_digs u
    have hm := mag_dec u (by omega)
    cases hl : Lib.decDigits u with
    | nil => exact absurd hl (dec_ne u)
    | cons c r =>
      rw [hl] at hd hm
      have := hd c (by simp)
      rw [Lib.atoiAll_plain c r (by omega) (by omega), hm]
      simp only [Lib.signless]
      rw [if_neg (by omega)]

/-! ### The model's way of reading -/
def rdFrom (acc : Int) : List UInt8 → Int
  | [] => acc
  | c :: r => if 48 ≤ (c.toNat : Int) ∧ (c.toNat : Int) ≤ 57 then rdFrom (10 * acc + ((c.toNat : Int) - 48)) r else -1
/-- Is there a zero ahead of other digits. -/
def lead0 (l : List UInt8) : Bool := (l.head? == some 48) && decide (1 < l.length)
def rdV (l : List UInt8) : Int := if inB l.length 1 10 = true ∧ lead0 l = false then rdFrom 0 l else -1
theorem rd_snoc {d : Nat} (hd : d < 10) : ∀ (l : List UInt8) (acc : Int), Digs l → rdFrom acc (l ++ [dgt d]) = 10 * rdFrom acc l + d
  | [], acc, _ => by
    simp only [List.nil_append, rdFrom, dgt_nat hd]
    rw [if_pos (by omega)]
    omega
  | c :: r, acc, h => by
    have hc := h c (by simp)
    simp only [List.cons_append, rdFrom]
    rw [if_pos (by omega), if_pos (by omega)]
    exact rd_snoc hd r _ (fun x hx => h x (by simp [hx]))
theorem rd_dec (u : Nat) : rdFrom 0 (Lib.decDigits u) = u := by
  have := dec_ind (P := fun u l => Digs l ∧ rdFrom 0 l = u)
    (fun u h => ⟨fun c hc => by simp at hc; subst hc; rw [dgt_nat h]; omega, by
      simp only [rdFrom, dgt_nat h]
      rw [if_pos (by omega)]
      omega⟩)
    (fun u l _ ih => ⟨fun c hc => by
      rcases List.mem_append.1 hc with h | h
      · exact ih.1 c h
      · simp at h; subst h; rw [dgt_nat (by omega)]; omega, by
      rw [rd_snoc (by omega) l 0 ih.1, ih.2]
      omega⟩) u
  exact this.2
theorem rdV_dec (u : Nat) (h : u ≤ 9999999999) : rdV (Lib.decDigits u) = u := by
  have hl : 1 ≤ (Lib.decDigits u).length := by
    have := dec_ne u
    cases hh : Lib.decDigits u with
    | nil => exact absurd hh this
    | cons c r => simp
  have hm := dec_len 9 u (by omega)
  have hz : lead0 (Lib.decDigits u) = false := by
    unfold lead0
    by_cases h0 : u = 0
    · subst h0; rw [dec_one (by omega)]; rfl
    · cases hh : ((Lib.decDigits u).head? == some 48)
      · rfl
      · exact absurd (dec_head u (by simpa using hh)) h0
  unfold rdV
  rw [if_pos ⟨(inB_iff _ _ _).2 (by omega), hz⟩, rd_dec]
/-- The number that the model reads. -/
def prV (l : List UInt8) : Int := if l = [105, 110, 102] then 1000000000 else if 1 < l.length ∧ l.head? = some 45 then -(rdV l.tail) else rdV l
def okPs (l : List UInt8) : Bool := numB (prV l) && (numText (prV l) == l)
def pnV (l : List UInt8) : Int := if okPs l = true then prV l else 0
theorem digs_head {l : List UInt8} (h : Digs l) : l.head? ≠ some 45 ∧ l ≠ [105, 110, 102] := by
  refine ⟨fun hh => ?_, fun hh => ?_⟩
  · cases l with
    | nil => simp at hh
    | cons c r =>
      simp at hh
      have := h c (by simp)
      subst hh
      simp at this
  · subst hh
    have := h 105 (by simp)
    simp at this
theorem text_read {n : Int} (h : numB n = true) : prV (numText n) = n := by
  have hb := numB_bd h
  unfold numText
  by_cases hi : n = 1000000000
  · rw [if_pos hi, hi]; rfl
  · rw [if_neg hi]
    by_cases hn : n < 0
    · obtain ⟨u, rfl⟩ : ∃ u : Nat, n = -(u : Int) := ⟨n.natAbs, by omega⟩
      rw [Lib.itoa_neg u (by omega)]
      unfold prV
      have hlen : 1 < (45 :: Lib.decDigits u).length := by
        have := dec_ne u
        cases hh : Lib.decDigits u with
        | nil => exact absurd hh this
        | cons c r => simp
      rw [if_neg (by simp), if_pos ⟨hlen, by simp⟩, List.tail_cons, rdV_dec u (by omega)]
    · obtain ⟨u, rfl⟩ : ∃ u : Nat, n = u := ⟨n.toNat, by omega⟩
      rw [Lib.itoa_nonneg]
      have hd := digs_head (dec_digs u)
      unfold prV
      rw [if_neg hd.2, if_neg (fun hh => hd.1 hh.2), rdV_dec u (by omega)]
theorem text_atoi {n : Int} {l : List UInt8} (h : numB n = true) (ht : numText n = l) (hl : l ≠ [105, 110, 102]) : Lib.atoiAll l = .ok n := by
  have hb := numB_bd h
  unfold numText at ht
  by_cases hi : n = 1000000000
  · rw [if_pos hi] at ht; exact absurd ht.symm hl
  · rw [if_neg hi] at ht
    rw [← ht]
    exact atoi_itoa n (by omega)
theorem okP_of {n : Int} {l : List UInt8} (h : numB n = true) (ht : numText n = l) : okPs l = true ∧ pnV l = n := by
  have hr : prV l = n := by rw [← ht]; exact text_read h
  have ho : okPs l = true := by unfold okPs; rw [hr, h, ht]; simp
  exact ⟨ho, by unfold pnV; rw [if_pos ho, hr]⟩
theorem okP_parts {l : List UInt8} (h : okPs l = true) : numB (prV l) = true ∧ numText (prV l) = l := by
  unfold okPs at h; simpa using h
theorem okP_not {l : List UInt8} (hl : l ≠ [105, 110, 102]) (ha : ∀ n, Lib.atoiAll l = .ok n → ¬ (numB n = true ∧ numText n = l)) : okPs l = false ∧ pnV l = 0 := by
  have : okPs l = false := by
    cases ho : okPs l
    · rfl
    · have h := okP_parts ho
      exact absurd h (ha _ (text_atoi h.1 h.2 hl))
  exact ⟨this, by unfold pnV; rw [if_neg (by simp [this])]⟩
def pw (k : Nat) : Int := ((10 ^ k : Nat) : Int)
theorem pw_succ (k : Nat) : pw (k + 1) = 10 * pw k := by unfold pw; rw [Nat.pow_succ]; omega
theorem pw_le {k m : Nat} (h : k ≤ m) : pw k ≤ pw m := by unfold pw; exact Int.ofNat_le.2 (Nat.pow_le_pow_right (by decide) h)
theorem pw_9 : pw 9 = 1000000000 := by decide
theorem drop_byte (s : ByteArray) (k : Nat) (h : k < s.size) : s.data.toList.drop k = s[k] :: s.data.toList.drop (k + 1) := by
  rw [List.drop_eq_getElem_cons (by simpa using h)]; rfl
theorem rd_yes {c : UInt8} {a : Int} {r : List UInt8} (h1 : 48 ≤ (c.toNat : Int)) (h2 : (c.toNat : Int) ≤ 57) : rdFrom a (c :: r) = rdFrom (10 * a + ((c.toNat : Int) - 48)) r := by simp only [rdFrom]; rw [if_pos ⟨h1, h2⟩]
theorem rd_no {c : UInt8} {a : Int} {r : List UInt8} (h : ¬ (48 ≤ (c.toNat : Int) ∧ (c.toNat : Int) ≤ 57)) : rdFrom a (c :: r) = -1 := by simp only [rdFrom]; rw [if_neg h]
theorem head_byte (s : ByteArray) (h : 0 < s.size) : s.data.toList.head? = some s[0] := by
  have := drop_byte s 0 h
  rw [List.drop_zero] at this
  rw [this]; rfl
/-- What ParseNumber gives. -/
def GivesP (l : List UInt8) (w : World) (e : Ending) (w' : World) : Prop := e = .returned (.tuple #[.int .i64 (pnV l), .bool (okPs l)]) ∧ Below w.heap.size w w'
theorem givesP_no {l : List UInt8} {w w' : World} (h : okPs l = false) (hb : Below w.heap.size w w') : GivesP l w (.returned (.tuple #[.int .i64 0, .bool false])) w' := by
  refine ⟨?_, hb⟩
  rw [h, show pnV l = 0 from if_neg (by simp [h])]
theorem givesP_yes {l : List UInt8} {n : Int} {w w' : World} (h : okPs l = true) (hn : n = pnV l) (hb : Below w.heap.size w w') : GivesP l w (.returned (.tuple #[.int .i64 n, .bool true])) w' := by
  refine ⟨?_, hb⟩
  rw [h, hn]
theorem rdFrom_bd : ∀ (l : List UInt8) (a : Int), 0 ≤ a → -1 ≤ rdFrom a l ∧ rdFrom a l < (a + 1) * pw l.length
  | [], a, h => by simp [rdFrom, pw]; omega
  | c :: r, a, h => by
    simp only [rdFrom]
    have hp : 0 < pw r.length := by unfold pw; exact Int.natCast_pos.2 (Nat.pow_pos (by decide))
    split
    · rename_i hc
      have ih := rdFrom_bd r (10 * a + ((c.toNat : Int) - 48)) (by omega)
      refine ⟨ih.1, Int.lt_of_lt_of_le ih.2 ?_⟩
      rw [List.length_cons, pw_succ]
      have h2 : (10 * a + ((c.toNat : Int) - 48) + 1) * pw r.length ≤ (10 * (a + 1)) * pw r.length := Int.mul_le_mul_of_nonneg_right (by omega) (by omega)
      refine Int.le_trans h2 (Int.le_of_eq ?_)
      rw [Int.mul_comm 10 (a + 1), Int.mul_assoc]
    · refine ⟨by omega, ?_⟩
      have : 0 < (a + 1) * pw (List.length (c :: r)) := Int.mul_pos (by omega) (by unfold pw; exact Int.natCast_pos.2 (Nat.pow_pos (by decide)))
      omega
theorem rdV_bd (l : List UInt8) : -1 ≤ rdV l ∧ rdV l ≤ 10000000000 := by
  unfold rdV
  split
  · rename_i h
    have hl := (inB_iff _ _ _).1 h.1
    have h1 := rdFrom_bd l 0 (by omega)
    have h2 := pw_le (show l.length ≤ 10 by omega)
    have h3 : pw 10 = 10000000000 := by decide
    simp at h1
    omega
  · omega
theorem tail_bytes (s : ByteArray) : (s.extract 1 s.size).data.toList = s.data.toList.tail := by
  rw [ByteArray.data_extract, Array.toList_extract, List.extract_eq_drop_take']
  simp
  rw [List.take_of_length_le (by simp)]
end Go.Proofs.YtklcildhfcomnaaGreatDoor

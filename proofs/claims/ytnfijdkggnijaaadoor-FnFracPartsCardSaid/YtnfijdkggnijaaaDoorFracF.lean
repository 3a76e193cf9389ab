/-
  Fractions read from texts, by the model: what each call returns.
  Condition: the text is shorter than a thousand million bytes.
-/
import Derived.Test.YtnfijdkggnijaaaDoorFracE
import Derived.Test.YtnfijdkggnijaaaDoorSplit
namespace Go.Proofs.YtnfijdkggnijaaaDoor
set_option linter.unusedSimpArgs false
set_option linter.unusedVariables false
open Go.ChangeShapes Go.WideShapes Go.ChangeAt Go.RowKit

/-- A number's text of at most 10 digits, read. -/
def frV (l : List UInt8) : Int := if inB l.length 1 10 = true then rdFrom 0 l else -1
theorem frV_dec (u : Nat) (h : u ≤ 9999999999) : frV (Lib.decDigits u) = u := by
  have h1 := dec_len 9 u (by omega)
  have h2 : 0 < (Lib.decDigits u).length := List.length_pos_iff.2 (dec_ne u)
  unfold frV
  rw [if_pos ((inB_iff _ _ _).2 (by omega)), rd_dec]
theorem frV_bd (l : List UInt8) : -1 ≤ frV l ∧ frV l ≤ 10000000000 := by
  unfold frV
  split
  · rename_i h
    have h' := (inB_iff _ _ _).1 h
    have hb := rdFrom_bd l 0 (by omega)
    have hp := pw_le (show l.length ≤ 10 by omega)
    have h10 : pw 10 = 10000000000 := by decide
    rw [h10] at hp
    omega
  · omega
theorem frV_in {s : ByteArray} (h : 0 < s.size ∧ s.size ≤ 10) : rdFrom 0 s.data.toList = frV s.data.toList := by
  unfold frV
  rw [if_pos ((inB_iff _ _ _).2 (by simp; omega))]
theorem frV_out {s : ByteArray} (h : ¬ (0 < s.size ∧ s.size ≤ 10)) : frV s.data.toList = -1 := by
  unfold frV
  rw [if_neg]
  intro hh
  have := (inB_iff _ _ _).1 hh
  simp at this
  omega
set_option maxHeartbeats 1000000 in
theorem frRead_any (s : ByteArray) (w : World) (hs : s.size ≤ 1000000000) : Calls Tryd.prog 57 #[.string s] w fun e w' => e = .returned (.int .i64 (frV s.data.toList)) ∧ w = w' := by
  by_cases hin : 0 < s.size ∧ s.size ≤ 10
  · have HV := Lib.hid (frV_in hin)
    have hi : inB (s.size : Int) 1 10 = true := (inB_iff _ _ _).2 (by omega)
    have hl : s.data.toList.length = s.size := by simp
    have HL := Lib.hid hl
    clear hl
    go_enter Tryd.func57, Tryd.ntmps57
    go_wp2_with (go_at_call 40; refine (l1In_any _ _ _ _).mono ?_; rintro e w' ⟨rfl, rfl⟩)
    go_loop [3, 4] (fun x i => ∃ (k : Nat) (a : Int), k ≤ s.size ∧ i = .int .i64 k ∧ x = .int .i64 a ∧ 0 ≤ a ∧ Hid (a < pw k) ∧ Hid (rdFrom 0 s.data.toList = rdFrom a (s.data.toList.drop k))) (fun _ i => s.size - (intOf i).toNat)
    case atStart => exact ⟨0, 0, by omega, rfl, rfl, by omega, Lib.hid (by decide), Lib.hid rfl⟩
    case round =>
      obtain ⟨k, a, hk, rfl, rfl, ha, hap, hrd⟩ := hrel
      by_cases hlt : k < s.size
      · have hle : a ≤ 1000000000 := by
          have h1 := hap.out
          have h2 := pw_le (show k ≤ 9 by omega)
          rw [pw_9] at h2
          omega
        have HD := Lib.hid (drop_byte s k hlt)
        by_cases d1 : 48 ≤ (s[k].toNat : Int)
        · by_cases d2 : (s[k].toNat : Int) ≤ 57
          · have HN := Lib.hid (show a * 10 + 10 ≤ pw (k + 1) by have := hap.out; rw [pw_succ]; omega)
            have HR := Lib.hid (show rdFrom 0 s.data.toList = rdFrom (10 * a + ((s[k].toNat : Int) - 48)) (s.data.toList.drop (k + 1)) by rw [hrd.out, HD.out, rd_yes d1 d2])
            go_wp2
            go_round
            case rel => exact ⟨k + 1, 10 * a + ((s[k].toNat : Int) - 48), by omega, by go_num, by go_num, by omega, Lib.hid (by have := HN.out; omega), HR⟩
            case measure => simp [intOf]; omega
          · have HR := Lib.hid (show rdFrom 0 s.data.toList = -1 by rw [hrd.out, HD.out, rd_no (by omega)])
            go_wp2
            go_ret
            exact ⟨ret_i64 (by rw [← HV.out, HR.out]), rfl⟩
        · have HR := Lib.hid (show rdFrom 0 s.data.toList = -1 by rw [hrd.out, HD.out, rd_no (by omega)])
          go_wp2
          go_ret
          exact ⟨ret_i64 (by rw [← HV.out, HR.out]), rfl⟩
      · go_wp2
        go_ret
        exact ⟨ret_i64 (by rw [← HV.out, hrd.out, List.drop_eq_nil_of_le (by rw [HL.out]; omega)]; rfl), rfl⟩
  · have HV := Lib.hid (frV_out hin)
    have hi : inB (s.size : Int) 1 10 = false := by
      cases hh : inB (s.size : Int) 1 10
      · rfl
      · have := (inB_iff _ _ _).1 hh; omega
    go_enter Tryd.func57, Tryd.ntmps57
    go_wp2_with (go_at_call 40; refine (l1In_any _ _ _ _).mono ?_; rintro e w' ⟨rfl, rfl⟩)
    go_ret
    exact ⟨ret_i64 (by rw [HV.out]), rfl⟩
/-- The pieces of a fraction's text, and what the model reads in it. -/
def pieces (l : List UInt8) : List (List UInt8) := sp 47 [] l
def fpN (l : List UInt8) : Int := if ((pieces l).headD []).head? = some 45 then -(frV ((pieces l).headD []).tail) else frV ((pieces l).headD [])
def fpD (l : List UInt8) : Int := if (pieces l).length = 2 then frV ((pieces l).getD 1 []) else 1
def okQ (l : List UInt8) : Bool := decide ((pieces l).length ≤ 2) && (frB (fpN l) (fpD l) && (frL (fpN l) (fpD l) == l))
/-- What ParseFrac gives. -/
def GivesQ (l : List UInt8) (w : World) (e : Ending) (w' : World) : Prop := GivesF (okF (okQ l) (fpN l)) (okF (okQ l) (fpD l)) (okQ l) w e w'
theorem givesQ_no {l : List UInt8} {w w' : World} (h : okQ l = false) (hb : Below w.heap.size w w') : GivesQ l w (.returned (.tuple #[fracV 0 0, .bool false])) w' := by
  unfold GivesQ; rw [h]; exact ⟨rfl, hb⟩
theorem givesQ_yes {l : List UInt8} {n d : Int} {w w' : World} (h : okQ l = true) (hn : n = fpN l) (hd : d = fpD l) (hb : Below w.heap.size w w') : GivesQ l w (.returned (.tuple #[fracV n d, .bool true])) w' := by
  unfold GivesQ; rw [h, hn, hd]; exact ⟨rfl, hb⟩
theorem sp_none {b : Int} : ∀ (l cur : List UInt8), (∀ c ∈ l, ¬ (c.toNat : Int) = b) → sp b cur l = [cur ++ l]
  | [], cur, _ => by simp [sp]
  | c :: r, cur, h => by
    rw [sp_miss (h c (by simp)), sp_none r _ (fun x hx => h x (by simp [hx]))]
    simp
theorem sp_one {b : Int} {m : UInt8} (hm : (m.toNat : Int) = b) (r : List UInt8) (hr : ∀ c ∈ r, ¬ (c.toNat : Int) = b) : ∀ (l cur : List UInt8), (∀ c ∈ l, ¬ (c.toNat : Int) = b) → sp b cur (l ++ m :: r) = [cur ++ l, r]
  | [], cur, _ => by
    rw [List.nil_append, sp_hit hm, sp_none r [] hr]
    simp
  | c :: t, cur, h => by
    rw [List.cons_append, sp_miss (h c (by simp)), sp_one hm r hr t _ (fun x hx => h x (by simp [hx]))]
    simp
theorem dec_no (u : Nat) : ∀ c ∈ Lib.decDigits u, ¬ (c.toNat : Int) = 47 := fun c hc => by have := dec_digs u c hc; omega
theorem itoa_no (n : Int) (h : Lim n) : ∀ c ∈ Lib.itoa n, ¬ (c.toNat : Int) = 47 := by
  obtain ⟨h0, h1⟩ := h
  by_cases hn : n < 0
  · obtain ⟨u, hu⟩ : ∃ u : Nat, -n = u := ⟨n.natAbs, by omega⟩
    have := Lib.itoa_neg u (by omega)
    rw [show -(u : Int) = n by omega] at this
    rw [this]
    intro c hc
    rcases List.mem_cons.1 hc with rfl | hc
    · decide
    · exact dec_no u c hc
  · obtain ⟨u, rfl⟩ : ∃ u : Nat, n = u := ⟨n.toNat, by omega⟩
    rw [Lib.itoa_nonneg u]
    exact dec_no u
theorem read_itoa (n : Int) (h : Lim n) : (if (Lib.itoa n).head? = some 45 then -(frV (Lib.itoa n).tail) else frV (Lib.itoa n)) = n := by
  obtain ⟨h0, h1⟩ := h
  by_cases hn : n < 0
  · obtain ⟨u, hu⟩ : ∃ u : Nat, -n = u := ⟨n.natAbs, by omega⟩
    have := Lib.itoa_neg u (by omega)
    rw [show -(u : Int) = n by omega] at this
    rw [this, List.head?_cons, if_pos rfl, List.tail_cons, frV_dec u (by omega)]
    omega
  · obtain ⟨u, rfl⟩ : ∃ u : Nat, n = u := ⟨n.toNat, by omega⟩
    rw [Lib.itoa_nonneg u, if_neg (digs_head (dec_digs u)).1, frV_dec u (by omega)]
/-- The pieces of the text of a fraction. -/
theorem pieces_text {n d : Int} (h : frB n d = true) : pieces (frL n d) = if d = 1 then [Lib.itoa n] else [Lib.itoa n, Lib.decDigits d.toNat] := by
  obtain ⟨hn, hd, -⟩ := frB_bd h
  unfold pieces frL
  split
  · rw [sp_none _ _ (itoa_no n hn)]; rfl
  · unfold frP
    rw [List.append_assoc, List.singleton_append, sp_one (by decide) _ (dec_no _) _ _ (itoa_no n hn)]; rfl
/-- What is written is read back. -/
theorem okQ_of {n d : Int} {l : List UInt8} (h : frB n d = true) (ht : frL n d = l) : okQ l = true ∧ fpN l = n ∧ fpD l = d := by
  subst ht
  obtain ⟨hn, hd, -⟩ := frB_bd h
  have hp := pieces_text h
  have h1 : fpN (frL n d) = n := by
    unfold fpN; rw [hp]; split <;> exact read_itoa n hn
  have h2 : fpD (frL n d) = d := by
    unfold fpD; rw [hp]
    split
    · rename_i he; subst he; rfl
    · have h3 := frV_dec d.toNat (by omega)
      have h4 : (if [Lib.itoa n, Lib.decDigits d.toNat].length = 2 then frV ([Lib.itoa n, Lib.decDigits d.toNat].getD 1 []) else 1) = frV (Lib.decDigits d.toNat) := if_pos rfl
      rw [h4, h3]; omega
  refine ⟨?_, h1, h2⟩
  unfold okQ
  rw [h1, h2, h, hp]
  split <;> simp
theorem okQ_parts {l : List UInt8} (h : okQ l = true) : frB (fpN l) (fpD l) = true ∧ frL (fpN l) (fpD l) = l := by
  unfold okQ at h; simp only [Bool.and_eq_true, beq_iff_eq] at h; exact ⟨h.2.1, h.2.2⟩
theorem okQ_not {l : List UInt8} (h : ∀ n d, ¬ (frB n d = true ∧ frL n d = l)) : okQ l = false := by
  cases hq : okQ l
  · rfl
  · exact absurd (okQ_parts hq) (h _ _)
end Go.Proofs.YtnfijdkggnijaaaDoor

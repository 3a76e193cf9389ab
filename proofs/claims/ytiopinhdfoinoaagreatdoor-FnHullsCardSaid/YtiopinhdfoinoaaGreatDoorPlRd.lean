/-
  l1Read of the model: what the call returns.
  Conditions: the text is shorter than a thousand million bytes.
-/
import Derived.Test.YtiopinhdfoinoaaGreatDoorCutM
namespace Go.Proofs.YtiopinhdfoinoaaGreatDoor
set_option linter.unusedSimpArgs false
set_option linter.unusedVariables false
open Go.ChangeShapes Go.WideShapes Go.ChangeAt Go.RowKit

set_option maxHeartbeats 1000000 in
/-- The loop of l1Read, at a text of 1 to 6 bytes. -/
theorem l1Read_in (s : ByteArray) (w : World) (h1 : 0 < s.size) (h6 : s.size ≤ 6) (hz : lead0 s.data.toList = false) : Calls Tryz.prog 69 #[.string s] w fun e w' => e = .returned (.int .i64 (rdFrom 0 s.data.toList)) ∧ w = w' := by
  have hin : inB (s.size : Int) 1 6 = true := (inB_iff _ _ _).2 (by omega)
  have hl : s.data.toList.length = s.size := by simp
  have HL := Lib.hid hl
  have HH := Lib.hid (head_byte s h1)
  have HZ := Lib.hid hz
  clear hl hz
  have key : ((s[0].toNat : Int) == 48) = true → s.size ≤ 1 := fun h => by
    have hc : s[0] = 48 := UInt8.toNat_inj.1 (by have h' : s[0].toNat = 48 := by simp at h; omega
                                                 rw [h']; rfl)
    have := HZ.out
    unfold lead0 at this
    rw [HH.out, HL.out, hc] at this
    simp at this
    omega
  cases h48 : ((s[0].toNat : Int) == 48)
  case' true => have hs1 := key h48
  all_goals
    clear key
    go_enter Tryz.func69, Tryz.ntmps69
    go_wp2_with (go_at_call 57; refine (l1In_any _ _ _ _).mono ?_; rintro e w' ⟨rfl, rfl⟩)
    go_loop [3, 4] (fun x i => ∃ (k : Nat) (a : Int), k ≤ s.size ∧ i = .int .i64 k ∧ x = .int .i64 a ∧ 0 ≤ a ∧ Hid (a < pw k) ∧ Hid (rdFrom 0 s.data.toList = rdFrom a (s.data.toList.drop k))) (fun _ i => s.size - (intOf i).toNat)
    case atStart => exact ⟨0, 0, by omega, rfl, rfl, by omega, Lib.hid (by decide), Lib.hid rfl⟩
    case round =>
      obtain ⟨k, a, hk, rfl, rfl, ha, hap, hrd⟩ := hrel
      by_cases hlt : k < s.size
      · have hle : a ≤ 1000000000 := by
          have h1 := hap.out
          have h2 := pw_le (show k ≤ 9 by omega)
          rw [pw_9] at h2
          omega
        have HD := Lib.hid (drop_byte s k hlt)
        by_cases d1 : 48 ≤ (s[k].toNat : Int)
        · by_cases d2 : (s[k].toNat : Int) ≤ 57
          · have HN := Lib.hid (show a * 10 + 10 ≤ pw (k + 1) by have := hap.out; rw [pw_succ]; omega)
            have HR := Lib.hid (show rdFrom 0 s.data.toList = rdFrom (10 * a + ((s[k].toNat : Int) - 48)) (s.data.toList.drop (k + 1)) by rw [hrd.out, HD.out, rd_yes d1 d2])
            go_wp2
            go_round
            case rel => exact ⟨k + 1, 10 * a + ((s[k].toNat : Int) - 48), by omega, by go_num, by go_num, by omega, Lib.hid (by have := HN.out; omega), HR⟩
            case measure => simp [intOf]; omega
          · have HR := Lib.hid (show rdFrom 0 s.data.toList = -1 by rw [hrd.out, HD.out, rd_no (by omega)])
            go_wp2
            go_ret
            exact ⟨ret_i64 (by rw [HR.out]), rfl⟩
        · have HR := Lib.hid (show rdFrom 0 s.data.toList = -1 by rw [hrd.out, HD.out, rd_no (by omega)])
          go_wp2
          go_ret
          exact ⟨ret_i64 (by rw [HR.out]), rfl⟩
      · go_wp2
        go_ret
        exact ⟨ret_i64 (by rw [hrd.out, List.drop_eq_nil_of_le (by rw [HL.out]; omega)]; rfl), rfl⟩
theorem l1V_in {s : ByteArray} (h1 : 0 < s.size) (h6 : s.size ≤ 6) (hz : lead0 s.data.toList = false) : rdFrom 0 s.data.toList = l1V s.data.toList := by
  unfold l1V
  rw [if_pos ⟨(inB_iff _ _ _).2 (by simp; omega), hz⟩]
theorem l1V_out {s : ByteArray} (h : ¬ (0 < s.size ∧ s.size ≤ 6)) : l1V s.data.toList = -1 := by
  unfold l1V
  rw [if_neg]
  intro hh
  have := (inB_iff _ _ _).1 hh.1
  simp at this
  omega
theorem l1V_lead {s : ByteArray} (h : lead0 s.data.toList = true) : l1V s.data.toList = -1 := by
  unfold l1V
  rw [if_neg]
  intro hh
  rw [h] at hh
  cases hh.2
set_option maxHeartbeats 1000000 in
theorem l1Read_any (s : ByteArray) (w : World) (hs : s.size ≤ 1000000000) : Calls Tryz.prog 69 #[.string s] w fun e w' => e = .returned (.int .i64 (l1V s.data.toList)) ∧ w = w' := by
  by_cases hin : 0 < s.size ∧ s.size ≤ 6
  · cases hz : lead0 s.data.toList
    · rw [← l1V_in hin.1 hin.2 hz]
      exact l1Read_in s w hin.1 hin.2 hz
    · have HV := Lib.hid (l1V_lead hz)
      obtain ⟨h1, h6⟩ := hin
      have hi : inB (s.size : Int) 1 6 = true := (inB_iff _ _ _).2 (by omega)
      have hl : s.data.toList.length = s.size := by simp
      have hb : ((s[0].toNat : Int) == 48) = true ∧ 1 < s.size := by
        unfold lead0 at hz
        rw [head_byte s h1, hl] at hz
        simp at hz
        refine ⟨?_, hz.2⟩
        rw [hz.1]
        rfl
      obtain ⟨hb1, hb2⟩ := hb
      clear hz hl
      go_enter Tryz.func69, Tryz.ntmps69
      go_wp2_with (go_at_call 57; refine (l1In_any _ _ _ _).mono ?_; rintro e w' ⟨rfl, rfl⟩)
      go_ret
      exact ⟨ret_i64 (by rw [HV.out]), rfl⟩
  · have HV := Lib.hid (l1V_out hin)
    have hi : inB (s.size : Int) 1 6 = false := by
      cases hh : inB (s.size : Int) 1 6
      · rfl
      · have := (inB_iff _ _ _).1 hh; omega
    clear hin
    go_enter Tryz.func69, Tryz.ntmps69
    go_wp2_with (go_at_call 57; refine (l1In_any _ _ _ _).mono ?_; rintro e w' ⟨rfl, rfl⟩)
    go_ret
    exact ⟨ret_i64 (by rw [HV.out]), rfl⟩
end Go.Proofs.YtiopinhdfoinoaaGreatDoor

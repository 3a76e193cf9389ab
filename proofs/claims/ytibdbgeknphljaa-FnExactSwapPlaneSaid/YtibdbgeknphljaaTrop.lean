/-
  The functions of chapter 1 on lists, of the program and of the model: what each call returns.
  Condition: the slice reads as the list that is named; the table of the neutral numbers is as the program's text lays it.
-/
import Derived.Test.YtibdbgeknphljaaShift
import Derived.LaidMore
import Derived.Stop.Joined
import Derived.Lib.LaidTab
import Derived.MakeChecks
namespace Go.Proofs.Ytibdbgeknphljaa
set_option linter.unusedSimpArgs false
set_option linter.unusedVariables false
open Go.ChangeShapes Go.WideShapes Go.ChangeAt Go.RowKit

/-- The sum of a list, 0 for what is none. -/
def sumV (zs : List Int) : Int := if listB zs = true then leastL zs else 0
/-- The places below k of the elements equal to m. -/
def plc (zs : List Int) (m : Int) : Nat → List Int
  | 0 => []
  | k + 1 => plc zs m k ++ (if (gd zs k == m) = true then [(k : Int)] else [])
def places (zs : List Int) : List Int := plc zs (leastL zs) zs.length
theorem plc_yes {zs : List Int} {m : Int} {k : Nat} (h : (gd zs k == m) = true) : plc zs m (k + 1) = plc zs m k ++ [(k : Int)] := by simp only [plc, if_pos h]
theorem plc_no {zs : List Int} {m : Int} {k : Nat} (h : (gd zs k == m) = false) : plc zs m (k + 1) = plc zs m k := by simp [plc, h]
theorem plc_len (zs : List Int) (m : Int) (k : Nat) : (plc zs m k).length ≤ k := by
  induction k with
  | zero => simp [plc]
  | succ k ih =>
    simp only [plc, List.length_append]
    split <;> simp <;> omega
def lpRes (zs : List Int) : List Int := if listB zs = true then places zs else []
theorem lpRes_yes {zs : List Int} (h : listB zs = true) : lpRes zs = places zs := if_pos h
theorem lpRes_no {zs : List Int} (h : listB zs = false) : lpRes zs = [] := if_neg (by simp [h])
theorem lpRes_le {zs : List Int} {m : Nat} (h : zs.length ≤ m) : (lpRes zs).length ≤ m := by
  unfold lpRes; split
  · exact Nat.le_trans (plc_len _ _ _) h
  · simp
set_option maxHeartbeats 400000 in
theorem nuPlaces_any (w : World) (B : Nat) (v : Value) (zs : List Int) (h : IS w B v zs) (hl : zs.length ≤ 20) : Calls Try.prog 59 #[v] w fun e w' => GivesI (places zs) w e w' := by
  have h0 := Lib.hid h
  obtain ⟨A, cap, rfl, hm, hp⟩ := h.parts
  have HP := Lib.hid hp
  clear hp h hm
  obtain ⟨i0, hi, hz0, hz1, hz2⟩ := info_parts infoInt
  go_enter Try.func59, Try.ntmps59
  go_wp2_with (go_at_call 54; refine (nuSum_any _ B _ zs h0.out).mono ?_; rintro e w' ⟨rfl, rfl⟩)
  go_loopw [3, 11] (fun o i wr => ∃ k : Nat, k ≤ zs.length ∧ i = .int .i64 k ∧ IS wr w.heap.size o (plc zs (leastL zs) k) ∧ Below w.heap.size w wr) (fun _ i _ => zs.length - (intOf i).toNat)
  case atStart => exact ⟨0, by omega, rfl, IS.nil_ _ _, Below.refl _ _⟩
  case round =>
    obtain ⟨k, hk, rfl, ho, hb⟩ := hrel
    by_cases hlt : k < zs.length
    · obtain ⟨g, rfl, hc0⟩ := HP.out k hlt
      have hc := (hb.cell (p := ⟨g, k, none⟩) (cell_lt hc0)).trans hc0
      clear hc0
      cases hq : gd zs k == leastL zs
      · have HPL := Lib.hid (plc_no hq)
        go_wp2
        go_roundw
        case rel => exact ⟨k + 1, by omega, by go_num, by rw [HPL.out]; exact ho, hb⟩
        case measure => simp [intOf]; omega
      · have HPL := Lib.hid (plc_yes hq)
        have hpl := plc_len zs (leastL zs) k
        have ho' : wr.ownsRow w.heap.size 3 1 u3 (plc zs (leastL zs) k).length (ints (plc zs (leastL zs) k)) := ho
        go_wp2_with (at_builtin; refine wpList_append_own _ rfl _ _ 32 rfl w.heap.size 3 i0 (.int .i64 0) 1 8 Try.underlying32 hi hz0 hz1 hz2 rfl (by decide) _ _ _ rfl (ho'.alloc _) ⟨wr.heap.size, 0, none⟩ 1 1 [.int .i64 (k : Int)] rfl rfl (one_new _ _) (by simp [Value.oneCell']) (by unfold maxLen; omega) (by omega) (by have := hb.size; simp; omega) ?_; intro v' w1 hown' hgrow hnil)
        have hb' : Below w.heap.size w w1 := (hb.alloc hb.size _).grown hgrow (by have := hb.size; simp; omega) (fun g' hg' => (World.ownsRow.lt ho' g' hg').1)
        have hrow := IS.snoc rfl hown'
        rw [← HPL.out] at hrow
        go_wp2
        go_roundw
        case rel => exact ⟨k + 1, by omega, by go_num, hrow, hb'⟩
        case measure => simp [intOf]; omega
    · go_wp2
      go_ret
      have hk' : k = zs.length := by omega
      subst hk'
      exact ⟨_, rfl, ho, hb⟩
/-- Does a list vanish. -/
def vanB (zs : List Int) : Bool := (leastL zs == 1000000000) || decide (1 < (places zs).length)
def vanR (zs : List Int) : Bool := listB zs && vanB zs
def SaysBB (a b : Bool) (w : World) (e : Ending) (w' : World) : Prop := e = .returned (.tuple #[.bool a, .bool b]) ∧ Below w.heap.size w w'
theorem ret_bb {a b c d : Bool} (h : a = b) (h' : c = d) : Ending.returned (.tuple #[.bool a, .bool c]) = .returned (.tuple #[.bool b, .bool d]) := by rw [h, h']
end Go.Proofs.Ytibdbgeknphljaa

/-
  Texts of numbers, of the program and of the model: what each call returns.
  Condition: the library's table of powers and the program's two tables are as their text lays them.
-/
import Derived.Test.YtiopinhdfoinoaaGreatDoorList
import Derived.Lib.ItoaMem
import Derived.Laws.IdiomStrings
import Derived.RegionTactic
import Derived.Deep.RegionWith
import Derived.IntWalk
import Derived.Laws.Concat
import Derived.Lib.ItoaLen
namespace Go.Proofs.YtiopinhdfoinoaaGreatDoor
set_option linter.unusedSimpArgs false
set_option linter.unusedVariables false
open Go.ChangeShapes Go.WideShapes Go.ChangeAt Go.RowKit

/-- A text is returned, and only new memory is written. -/
def Says (l : List UInt8) (w : World) (e : Ending) (w' : World) : Prop := e = .returned (.string ⟨l.toArray⟩) ∧ Below w.heap.size w w'
theorem conv_one (w : World) (u : Nat) (hu : u < 256) : (convert 22 9 (.slice (some ⟨w.heap.size, 0, none⟩) 1 1)).run Tryz.prog (w.alloc (.cells #[.int .u8 (u : Int)] 5)) = .ok (.string ⟨#[UInt8.ofNat u]⟩) (w.alloc (.cells #[.int .u8 (u : Int)] 5)) := by
  have := run_convert_bytes_back (P := Tryz.prog) (w.alloc (.cells #[.int .u8 (u : Int)] 5)) 22 9 5 ⟨w.heap.size, 0, none⟩ 1 [UInt8.ofNat u] Tryz.underlying22 Tryz.underlying5 Tryz.underlying9 (fun j hj => by
    obtain rfl : j = 0 := by simpa using hj
    rw [show ((⟨w.heap.size, 0, none⟩ : Addr).add 0) = ⟨w.heap.size, 0, none⟩ from rfl, cell_of_row (w.alloc (.cells #[.int .u8 (u : Int)] 5)) w.heap.size 0 #[.int .u8 (u : Int)] 5 (0, 0) (heap_alloc_new w _)]
    simp
    omega)
  exact this
/-- A digit's byte. -/
def dgt (n : Nat) : UInt8 := UInt8.ofNat (48 + n)
theorem conv_digit (w : World) (n : Nat) (hn : n < 10) : (convert 22 9 (.slice (some ⟨w.heap.size, 0, none⟩) 1 1)).run Tryz.prog (w.alloc (.cells #[.int .u8 (48 + (n : Int))] 5)) = .ok (.string ⟨#[dgt n]⟩) (w.alloc (.cells #[.int .u8 (48 + (n : Int))] 5)) := by
  have := conv_one w (48 + n) (by omega)
  rwa [show ((48 + n : Nat) : Int) = 48 + (n : Int) by omega] at this
theorem conv_in (w' : World) (g n : Nat) (hn : n < 10) (hc : w'.cell? ⟨g, 0, none⟩ = some (.int .u8 (48 + (n : Int)))) : (convert 22 9 (.slice (some ⟨g, 0, none⟩) 1 1)).run Tryz.prog w' = .ok (.string ⟨#[dgt n]⟩) w' := by
  have := run_convert_bytes_back (P := Tryz.prog) w' 22 9 5 ⟨g, 0, none⟩ 1 [dgt n] Tryz.underlying22 Tryz.underlying5 Tryz.underlying9 (fun j hj => by
    obtain rfl : j = 0 := by simpa using hj
    rw [show ((⟨g, 0, none⟩ : Addr).add 0) = ⟨g, 0, none⟩ from rfl, hc]
    show some (Value.int .u8 (48 + (n : Int))) = some (.int .u8 ((UInt8.ofNat (48 + n)).toNat : Int))
    simp
    omega)
  exact this
theorem conv_below {w w1 : World} {n : Nat} (hn : n < 10) (hb : Below (w.alloc (.cells #[.int .u8 (48 + (n : Int))] 5)).drew.heap.size (w.alloc (.cells #[.int .u8 (48 + (n : Int))] 5)).drew w1) : (convert 22 9 (.slice (some ⟨w.heap.size, 0, none⟩) 1 1)).run Tryz.prog w1 = .ok (.string ⟨#[dgt n]⟩) w1 :=
  conv_in w1 w.heap.size n hn ((hb.cell (p := ⟨w.heap.size, 0, none⟩) (by simp)).trans (cell_of_row (w.alloc (.cells #[.int .u8 (48 + (n : Int))] 5)) w.heap.size 0 #[.int .u8 (48 + (n : Int))] 5 (0, 0) (heap_alloc_new w _)))
theorem bel_drew {w w1 : World} (hb : Below w.drew.heap.size w.drew w1) : Below w.heap.size w w1 := (Below.refl _ _).drew.trans hb
theorem bel_alloc {w w1 : World} {o : Obj} (hb : Below (w.alloc o).drew.heap.size (w.alloc o).drew w1) : Below w.heap.size w w1 := (((Below.refl _ _).alloc (Nat.le_refl _) _).drew).trans (hb.mono (by simp))
theorem dec_one {n : Nat} (h : n < 10) : Lib.decDigits n = [dgt n] := Lib.decDigits_one h
theorem dec_more {n : Nat} (h : ¬ n < 10) : Lib.decDigits n = Lib.decDigits (n / 10) ++ [dgt (n % 10)] := by rw [Lib.decDigits, dif_neg h]; rfl
set_option maxRecDepth 100000 in
theorem l1Num_small (n : Nat) (hn : n < 10) (w : World) : Calls Tryz.prog 84 #[.int .i64 n] w fun e w' => Says (Lib.decDigits n) w e w' := by
  have hcv := conv_digit w n hn
  go_enter Tryz.func84, Tryz.ntmps84
  go_wp2
  go_ret
  exact ⟨by rw [dec_one hn]; rfl, by go_grown⟩
set_option maxRecDepth 100000 in
set_option maxHeartbeats 1000000 in
theorem l1Num_big (n q d : Nat) (hn : ¬ n < 10) (hm : n ≤ 1000000000000) (hq : Hid (q = n / 10)) (hd : Hid (d = n % 10)) (ih : ∀ w, Calls Tryz.prog 84 #[.int .i64 (q : Int)] w fun e w' => Says (Lib.decDigits q) w e w') (w : World) : Calls Tryz.prog 84 #[.int .i64 n] w fun e w' => Says (Lib.decDigits n) w e w' := by
  have hd10 : d < 10 := by rw [hd.out]; omega
  have hcv := fun w => conv_digit w d hd10
  have hcvd : ∀ w : World, (convert 22 9 (.slice (some ⟨w.heap.size, 0, none⟩) 1 1)).run Tryz.prog (w.alloc (.cells #[.int .u8 (48 + (d : Int))] 5)).drew = .ok (.string ⟨#[dgt d]⟩) (w.alloc (.cells #[.int .u8 (48 + (d : Int))] 5)).drew := fun w =>
    conv_in _ w.heap.size d hd10 (cell_of_row (w.alloc (.cells #[.int .u8 (48 + (d : Int))] 5)) w.heap.size 0 #[.int .u8 (48 + (d : Int))] 5 (0, 0) (heap_alloc_new w _))
  have h1 : IntKind.i64.wrap ((n : Int) / 10) = (q : Int) := by rw [hq.out, IntWalk.i64_in _ (by omega)]; omega
  have h2 : (n : Int).tmod 10 = (d : Int) := by rw [hd.out, Int.tmod_eq_emod_of_nonneg (by omega)]; omega
  have h3 : IntKind.i64.wrap (48 + (d : Int)) = 48 + (d : Int) := IntWalk.i64_in _ (by omega)
  have h4 : IntKind.u8.wrap (48 + (d : Int)) = 48 + (d : Int) := IntWalk.u8_in _ (by omega)
  have hadd : ∀ w, (Op.stringOp .add ⟨(Lib.decDigits q).toArray⟩ ⟨#[dgt d]⟩).run Tryz.prog w = .ok (.string ⟨(Lib.decDigits n).toArray⟩) w := fun w => by
    rw [run_string_add_sum w _ _ (by
      have h := Lib.nDigits_le20 q (by rw [hq.out]; omega)
      have h0 : (ByteArray.mk (Lib.decDigits q).toArray).size = (Lib.decDigits q).length := by show (Lib.decDigits q).toArray.size = _; simp
      have h1 : (ByteArray.mk #[dgt d]).size = 1 := rfl
      rw [h0, h1, Lib.decDigits_length]
      omega), dec_more hn, ← hq.out, ← hd.out]
    congr 2
  have IH := Lib.hid ih
  clear ih
  go_enter Tryz.func84, Tryz.ntmps84
  go_wp2_with fail
  go_region_with (go_at_call 84; refine (IH.out _).mono ?_; rintro e w1 ⟨rfl, hb⟩; (first | (have hcv1 := conv_below hd10 hb) | skip))
  all_goals
    go_wp2
    go_ret
    have hb2 : Below w.heap.size w w1 := by first | exact bel_drew hb | exact bel_alloc hb
    have hsz := hb2.size
    exact ⟨rfl, by go_grown⟩
theorem l1Num_any (n : Nat) : n ≤ 1000000000000 → ∀ w : World, Calls Tryz.prog 84 #[.int .i64 n] w fun e w' => Says (Lib.decDigits n) w e w' := by
  induction n using Nat.strongRecOn with
  | _ n ih =>
    intro hm w
    by_cases hn : n < 10
    · exact l1Num_small n hn w
    · exact l1Num_big n (n / 10) (n % 10) hn hm (Lib.hid rfl) (Lib.hid rfl) (ih (n / 10) (by omega) (by omega)) w
theorem Says.of {l l' : List UInt8} {w : World} {e : Ending} {w' : World} (h : Says l w e w') (hl : l = l') : Says l' w e w' := hl ▸ h
theorem l1Int_any (n : Int) (h : -1000000000000 ≤ n ∧ n ≤ 1000000000000) (w : World) : Calls Tryz.prog 65 #[.int .i64 n] w fun e w' => Says (Lib.itoa n) w e w' := by
  obtain ⟨h0, h1⟩ := h
  by_cases hn : n < 0
  · obtain ⟨u, hu⟩ : ∃ u : Nat, -n = u := ⟨n.natAbs, by omega⟩
    have hi : Lib.itoa n = 45 :: Lib.decDigits u := by
      have := Lib.itoa_neg u (by omega)
      rwa [show -(u : Int) = n by omega] at this
    have hadd : ∀ w, (Op.stringOp .add ⟨#[45]⟩ ⟨(Lib.decDigits u).toArray⟩).run Tryz.prog w = .ok (.string ⟨(Lib.itoa n).toArray⟩) w := fun w => by
      rw [run_string_add_sum w _ _ (by
        have h := Lib.nDigits_le20 u (by omega)
        have h0 : (ByteArray.mk (Lib.decDigits u).toArray).size = (Lib.decDigits u).length := by show (Lib.decDigits u).toArray.size = _; simp
        have h1 : (ByteArray.mk #[45]).size = 1 := rfl
        rw [h0, h1, Lib.decDigits_length]
        omega), hi]
      congr 2
      try (apply ByteArray.ext; rw [ByteArray.data_append]; try simp)
    clear hi
    go_enter Tryz.func65, Tryz.ntmps65
    go_wp2_with fail
    refine (l1Num_any u (by omega) _).mono ?_
    rintro e w1 ⟨rfl, hb⟩
    go_wp2
    go_ret
    exact ⟨rfl, hb⟩
  · obtain ⟨u, rfl⟩ : ∃ u : Nat, n = u := ⟨n.toNat, by omega⟩
    have hi := Lib.hid (Lib.itoa_nonneg u)
    go_enter Tryz.func65, Tryz.ntmps65
    go_wp2_with fail
    refine (l1Num_any u (by omega) _).mono ?_
    rintro e w1 ⟨rfl, hb⟩
    go_wp2
    go_ret
    exact ⟨by rw [hi.out]; rfl, hb⟩
/-- A number's text. -/
def numText (n : Int) : List UInt8 := if n = 1000000000 then [105, 110, 102] else Lib.itoa n
/-- What NumberText gives. -/
def ntL (n : Int) : List UInt8 := if numB n = true then numText n else []
def GivesT (n : Int) (w : World) (e : Ending) (w' : World) : Prop := e = .returned (.tuple #[.string ⟨(ntL n).toArray⟩, .bool (numB n)]) ∧ Below w.heap.size w w'
theorem givesT_no {n : Int} {w w' : World} (h : numB n = false) (hb : Below w.heap.size w w') : GivesT n w (.returned (.tuple #[.string ⟨#[]⟩, .bool false])) w' := by
  refine ⟨?_, hb⟩
  rw [h, show ntL n = [] from if_neg (by simp [h])]
theorem givesT_yes {n : Int} {l : List UInt8} {w w' : World} (h : numB n = true) (hl : l = numText n) (hb : Below w.heap.size w w') : GivesT n w (.returned (.tuple #[.string ⟨l.toArray⟩, .bool true])) w' := by
  refine ⟨?_, hb⟩
  rw [h, hl, show ntL n = numText n from if_pos h]
end Go.Proofs.YtiopinhdfoinoaaGreatDoor

/-
  parsePair of the program: what the call returns.
  Conditions: the text is shorter than a thousand million bytes; the tables and sentinels read as the program's and the library's text lays them.
-/
import Derived.Test.YtiopinhdfoinoaaGreatDoorCutG
namespace Go.Proofs.YtiopinhdfoinoaaGreatDoor
set_option linter.unusedSimpArgs false
set_option linter.unusedVariables false
open Go.ChangeShapes Go.WideShapes Go.ChangeAt Go.RowKit

/-- The two parts of a text with a comma between them, as the program cuts it. -/
def cuI (l : List UInt8) : List UInt8 := (Lib.cut l [44]).1
def cuJ (l : List UInt8) : List UInt8 := (Lib.cut l [44]).2.1
def cuOk (l : List UInt8) : Bool := okPs (cuI l) && okPs (cuJ l)
/-- All that a reading call wants of the world. -/
def AllT (W : World) : Prop := (Neut W ∧ Names W ∧ Pows W ∧ Sents W) ∧ MaxM W
theorem AllT.below {w W : World} (h : AllT w) (hW : Below w.heap.size w W) : AllT W := ⟨⟨h.1.1.below hW, h.1.2.1.below hW, h.1.2.2.1.below hW, h.1.2.2.2.below hW⟩, h.2.below hW⟩
set_option maxHeartbeats 1000000 in
theorem parsePair_any (s : ByteArray) (w : World) (hs : s.size ≤ 1000000000) (hN : AllT w) : Calls Tryz.prog 67 #[.string s, .string ⟨#[44]⟩] w fun e w' => e = .returned (.tuple #[.int .i64 (pnV (cuI s.data.toList)), .int .i64 (pnV (cuJ s.data.toList)), .bool (cuOk s.data.toList)]) ∧ Below w.heap.size w w' := by
  have HN := Lib.hid hN
  clear hN
  go_enter Tryz.func67, Tryz.ntmps67
  go_wp2_with fail
  refine (cut_g s 44 _ hs HN.out.2).mono ?_
  rintro e w1 ⟨x, y, f, rfl, hx, hy, sx, sy, b1⟩
  have HB1 := Lib.hid b1
  have HN1 := Lib.hid (HN.out.below b1)
  have HI := Lib.hid (show x.data.toList = cuI s.data.toList from hx.out)
  have HJ := Lib.hid (show y.data.toList = cuJ s.data.toList from hy.out)
  clear b1 hx hy
  go_wp2_with fail
  refine (implParseNumber_any x _ (by omega) HN1.out.1.1 HN1.out.1.2.1 HN1.out.1.2.2.1 HN1.out.1.2.2.2).mono ?_
  rintro e w2 ⟨rfl, b2⟩
  rw [HI.out]
  have HB2 := Lib.hid (bel2 HB1.out b2)
  have HN2 := Lib.hid (HN1.out.below b2)
  clear b2
  go_wp2_with fail
  refine (implParseNumber_any y _ (by omega) HN2.out.1.1 HN2.out.1.2.1 HN2.out.1.2.2.1 HN2.out.1.2.2.2).mono ?_
  rintro e w3 ⟨rfl, b3⟩
  rw [HJ.out]
  have HB3 := Lib.hid (bel2 HB2.out b3)
  clear b3
  obtain ⟨m, hm⟩ : ∃ m, m = pnV (cuI s.data.toList) := ⟨_, rfl⟩
  obtain ⟨n, hn⟩ : ∃ n, n = pnV (cuJ s.data.toList) := ⟨_, rfl⟩
  rw [← hm, ← hn]
  have HMN := Lib.hid (And.intro hm hn)
  clear hm hn
  cases h1 : okPs (cuI s.data.toList) <;> cases h2 : okPs (cuJ s.data.toList)
  all_goals
    have H := Lib.hid (And.intro h1 h2)
    clear h1 h2
    go_wp2
    go_ret3
    refine ⟨?_, HB3.out⟩
    unfold cuOk
    rw [H.out.1, H.out.2, HMN.out.1, HMN.out.2]
    try rfl
end Go.Proofs.YtiopinhdfoinoaaGreatDoor

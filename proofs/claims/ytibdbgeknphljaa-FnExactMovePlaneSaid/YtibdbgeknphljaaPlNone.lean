/-
  The plane polynomial of whatever terms; sums of plane polynomials in the program: what the calls return.
  Condition: the slices read as the lists that are named.
-/
import Derived.Test.YtibdbgeknphljaaPlCat
import Derived.Test.YtibdbgeknphljaaPlA
namespace Go.Proofs.Ytibdbgeknphljaa
set_option linter.unusedSimpArgs false
set_option linter.unusedVariables false
open Go.ChangeShapes Go.WideShapes Go.ChangeAt Go.RowKit
open Go.Sort (grow)

theorem grownBy_below {w w1 w2 : World} {row : Option Nat} (h : w.grownBy w1 row) (hb : Below w1.heap.size w1 w2) : w.grownBy w2 row := by
  refine ⟨hb.os.trans h.os, hb.tape.trans h.tape, hb.output.trans h.output, Nat.le_trans h.size hb.size, fun k hk hne => ?_⟩
  rw [hb.block k (Nat.lt_of_lt_of_le hk h.size), h.block k hk hne]
def GivesNone (l : List Tm) (B : Nat) (v : Value) (w : World) (e : Ending) (w' : World) : Prop := ∃ r, e = .returned (.tuple #[r, .bool (plB (norm l))]) ∧ TmS w' B r (npR l) ∧ w.grownBy w' v.ownBlock
theorem givesNone_no {l : List Tm} {B : Nat} {v : Value} {w w' : World} (h : plB (norm l) = false) (hg : w.grownBy w' v.ownBlock) : GivesNone l B v w (.returned (.tuple #[.slice none 0 0, .bool false])) w' :=
  ⟨_, by rw [h], by rw [npR_no h]; exact FS.nil_ _ _ _ _, hg⟩
theorem givesNone_yes {l : List Tm} {B : Nat} {v r : Value} {w w' : World} (h : plB (norm l) = true) (hr : TmS w' B r (norm l)) (hg : w.grownBy w' v.ownBlock) : GivesNone l B v w (.returned (.tuple #[r, .bool true])) w' :=
  ⟨_, by rw [h], by rw [npR_yes h]; exact hr, hg⟩
theorem planeOrNone_any (w : World) (B : Nat) (v : Value) (l : List Tm) (h : TmS w B v l) (hz : l.length ≤ 1000000) : Calls Try.prog 62 #[v] w fun e w' => GivesNone l B v w e w' := by
  have HN := Lib.hid (sort_norm l)
  have H := Lib.hid h
  go_enter Try.func62, Try.ntmps62
  go_wp2_with fail
  refine (sortFunc_any _ B _ l H.out hz).mono ?_
  rintro e w1 ⟨rfl, h1, g1⟩
  go_wp2_with fail
  refine (compactFunc_any _ B _ _ h1 (by rw [sortT_len]; exact hz)).mono ?_
  rintro e w2 ⟨r, rfl, h2, g2⟩
  rw [HN.out] at h2
  have G := Lib.hid (Lib.grownBy_trans g1 g2)
  clear g1 g2
  cases hq : plB (norm l)
  · have HQ := Lib.hid hq
    have HR := Lib.hid (npR_no hq)
    clear hq
    go_wp2_with fail
    refine (isPlane_any _ B _ _ h2).mono ?_
    rintro e w3 ⟨rfl, b3⟩
    rw [HQ.out]
    go_wp2
    go_ret2
    exact givesNone_no HQ.out (grownBy_below G.out b3)
  · have HQ := Lib.hid hq
    have HR := Lib.hid (npR_yes hq)
    clear hq
    go_wp2_with fail
    refine (isPlane_any _ B _ _ h2).mono ?_
    rintro e w3 ⟨rfl, b3⟩
    rw [HQ.out]
    go_wp2
    go_ret2
    exact givesNone_yes HQ.out (FS.below h2 b3) (grownBy_below G.out b3)
theorem givesTmB_is {ok ok' : Bool} {l l' : List Tm} {r : Value} {w w' : World} (h1 : ok = ok') (h2 : l = l') (h3 : TmS w' w.heap.size r l') (hb : Below w.heap.size w w') : GivesTmB ok l w (.returned (.tuple #[r, .bool ok'])) w' := by
  subst h1; subst h2; exact ⟨_, rfl, h3, hb⟩
theorem GivesNone.ends {l : List Tm} {B : Nat} {v : Value} {w w1 : World} {e : Ending} {w2 : World} (hb : Below w.heap.size w w1) (hB : w.heap.size ≤ B) (hv : In v B w1.heap.size) (h : GivesNone l B v w1 e w2) : ∃ r, e = .returned (.tuple #[r, .bool (plB (norm l))]) ∧ TmS w2 w.heap.size r (npR l) ∧ Below w.heap.size w w2 := by
  obtain ⟨r, rfl, h1, h2⟩ := h
  exact ⟨r, rfl, FS.base h1 hB, hb.grown h2 hb.size fun k hk => Nat.le_trans hB (hv k hk).1⟩
set_option maxHeartbeats 1000000 in
set_option maxRecDepth 100000 in
theorem implPlaneSum_any (w : World) (B B' : Nat) (va vb : Value) (a b : List Tm) (h : TmS w B va a) (h' : TmS w B' vb b) : Calls Try.prog 30 #[va, vb] w fun e w' => GivesTmB (psB a b) (psR a b) w e w' := by
  cases ha : plB a
  · obtain ⟨n1, n2⟩ := ps_no1 (b := b) ha
    have HA := Lib.hid ha
    have HN1 := Lib.hid n1
    have HN2 := Lib.hid n2
    clear ha n1 n2
    go_enter Try.func30, Try.ntmps30
    go_wp2_with fail
    refine (isPlane_any _ B _ a h).mono ?_
    rintro e w1 ⟨rfl, b1⟩
    rw [HA.out]
    go_wp2
    go_ret2
    exact givesTmB_nil HN1.out HN2.out b1
  · cases hb : plB b
    · obtain ⟨n1, n2⟩ := ps_no2 (a := a) hb
      have HA := Lib.hid ha
      have HB := Lib.hid hb
      have HN1 := Lib.hid n1
      have HN2 := Lib.hid n2
      clear ha hb n1 n2
      go_enter Try.func30, Try.ntmps30
      go_wp2_with fail
      refine (isPlane_any _ B _ a h).mono ?_
      rintro e w1 ⟨rfl, b1⟩
      have h1' := FS.below h' b1
      rw [HA.out]
      go_wp2_with fail
      refine (isPlane_any _ B' _ b h1').mono ?_
      rintro e w2 ⟨rfl, b2⟩
      rw [HB.out]
      go_wp2
      go_ret2
      exact givesTmB_nil HN1.out HN2.out (bel2 b1 b2)
    · obtain ⟨n1, n2⟩ := ps_yes ha hb
      have HA := Lib.hid ha
      have HB := Lib.hid hb
      have HN1 := Lib.hid n1
      have HN2 := Lib.hid n2
      have hla := plB_le ha
      have hlb := plB_le hb
      clear ha hb n1 n2
      go_enter Try.func30, Try.ntmps30
      go_wp2_with fail
      refine (isPlane_any _ B _ a h).mono ?_
      rintro e w1 ⟨rfl, b1⟩
      have h1' := FS.below h' b1
      rw [HA.out]
      go_wp2_with fail
      refine (isPlane_any _ B' _ b h1').mono ?_
      rintro e w2 ⟨rfl, b2⟩
      have h2 := FS.below h (bel2 b1 b2)
      have h2' := FS.below h1' b2
      have B2 := bel2 b1 b2
      rw [HB.out]
      obtain ⟨g, cap, rfl, -, hg, -⟩ := TmS.some h2 hla.1
      obtain ⟨g', cap', rfl, -, hg', -⟩ := TmS.some h2' hlb.1
      go_wp2_with fail
      refine (concat_any _ _ B B' (.slice (some ⟨g, 0, none⟩) a.length cap) (.slice (some ⟨g', 0, none⟩) b.length cap') a b ?c1 ?c2 ⟨hla.1, by omega⟩ ⟨hlb.1, by omega⟩ ?c3 ?c4).mono ?_
      case c1 => exact FS.alloc h2 _
      case c2 => exact FS.alloc h2' _
      case c3 => simp [go_sem]
      case c4 => simp [go_sem]
      rintro e w3 ⟨r, rfl, hr, b3⟩
      have B3 := bel2 (B2.alloc B2.size _) b3
      go_wp2_with fail
      refine (planeOrNone_any _ _ _ _ hr (by simp; omega)).mono ?_
      rintro e w4 h4
      obtain ⟨r4, rfl, hr4, b4⟩ := h4.ends B3 (by have := B2.size; simp; omega) (by have := FS.in_ hr; exact this)
      go_wp2
      go_ret2
      exact givesTmB_is HN1.out HN2.out hr4 b4
end Go.Proofs.Ytibdbgeknphljaa

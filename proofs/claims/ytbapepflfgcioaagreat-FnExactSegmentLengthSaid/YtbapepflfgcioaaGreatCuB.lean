/-
  A cell by its number, of both.
  Condition: the slice reads as the terms that are named.
-/
import Derived.Test.YtbapepflfgcioaaGreatCePg
namespace Go.Proofs.YtbapepflfgcioaaGreat
set_option linter.unusedSimpArgs false
set_option linter.unusedVariables false
open Go.ChangeShapes Go.WideShapes Go.ChangeAt Go.RowKit
open Go.Sort (grow)

theorem ceL_at {l : List Tm} {c : Nat} (hc : c < (ceL l).length) : (ceL l).getD c [] ∈ ceL l := by
  rw [List.getD_eq_getElem?_getD, List.getElem?_eq_getElem hc]; exact List.getElem_mem hc
/-- The cell with a number; none if there is none. -/
def cuR (l : List Tm) (i : Int) : List Int := if cpB l i = true then (ceL l).getD i.toNat [] else []
theorem cuR_yes {l : List Tm} {i : Int} (h : cpB l i = true) : cuR l i = (ceL l).getD i.toNat [] := if_pos h
theorem cuR_no {l : List Tm} {i : Int} (h : cpB l i = false) : cuR l i = [] := if_neg (by simp [h])
theorem cuR_in {l : List Tm} {i : Int} (h : cpB l i = true) : plB l = true ∧ cuR l i ∈ ceL l := by
  rw [cuR_yes h]
  unfold cpB at h
  simp only [Bool.and_eq_true] at h
  obtain ⟨h1, h2⟩ := h
  obtain ⟨h3, h4⟩ := (inB_iff _ _ _).1 h2
  exact ⟨h1, ceL_at (by omega)⟩
def GivesCu (ok : Bool) (x : List Int) (w : World) (e : Ending) (w' : World) : Prop := ∃ r B', e = .returned (.tuple #[r, .bool ok]) ∧ IS w' B' r x ∧ Below w.heap.size w w'
theorem givesCu_no {l : List Tm} {i : Int} {w w' : World} (h : cpB l i = false) (hb : Below w.heap.size w w') : GivesCu (cpB l i) (cuR l i) w (.returned (.tuple #[.slice none 0 0, .bool false])) w' := by
  rw [cuR_no h, h]; exact ⟨_, 0, rfl, IS.nil_ _ _, hb⟩
theorem givesCu_yes {l : List Tm} {i : Int} {w w' : World} {r : Value} {B' : Nat} {zs : List Int} (h : cpB l i = true) (hx : IS w' B' r zs) (hz : zs = cuR l i) (hb : Below w.heap.size w w') : GivesCu (cpB l i) (cuR l i) w (.returned (.tuple #[r, .bool true])) w' := by
  subst hz; rw [h]; exact ⟨_, _, rfl, hx, hb⟩
set_option maxHeartbeats 1000000 in
theorem cuCell_any (w : World) (B : Nat) (v : Value) (l : List Tm) (i : Int) (h : TmS w B v l) : Calls Tryz.prog 44 #[v, .int .i64 i] w fun e w' => GivesCu (cpB l i) (cuR l i) w e w' := by
  cases hl : plB l
  · have HL := Lib.hid hl
    have HN := Lib.hid (cpB_no (i := i) hl)
    clear hl
    go_enter Tryz.func44, Tryz.ntmps44
    go_wp2_with fail
    refine (plGood_any _ B _ l h).mono ?_
    rintro e w1 ⟨rfl, b1⟩
    rw [HL.out]
    go_wp2
    go_ret2
    exact givesCu_no HN.out b1
  · have HL := Lib.hid hl
    clear hl
    go_enter Tryz.func44, Tryz.ntmps44
    go_wp2_with fail
    refine (plGood_any _ B _ l h).mono ?_
    rintro e w1 ⟨rfl, b1⟩
    have h1 := FS.below h b1
    rw [HL.out]
    go_wp2_with fail
    refine (ceOf_any w1 B _ l h1 HL.out).mono ?_
    rintro e w2 ⟨r, P, rfl, hLS, hP, b2⟩
    have h2 := FS.below h1 b2
    obtain ⟨A, cap, rfl, -, -⟩ := hLS.parts
    have hle := ceL_len (plB_le HL.out).2
    have hnp : P.length = (ceL l).length := by rw [← hP, lls_len]
    rw [hnp]
    clear hLS hP hnp
    obtain ⟨n, hn⟩ : ∃ n, n = (ceL l).length := ⟨_, rfl⟩
    rw [← hn] at hle ⊢
    have HN := Lib.hid (show cpB l i = inB i 0 ((n : Int) - 1) by unfold cpB; rw [HL.out, hn]; rfl)
    have HNC := Lib.hid hn
    clear hn
    have q1 : IntKind.i64.wrap ((n : Int) - 1) = (n : Int) - 1 := IntWalk.i64_in _ (by omega)
    go_wp2_with fail
    refine (l1In_any _ _ _ _).mono ?_
    rintro e w' ⟨rfl, rfl⟩
    cases hi : inB i 0 ((n : Int) - 1)
    · have HI := Lib.hid (HN.out.trans hi)
      clear hi
      go_wp2
      go_ret2
      exact givesCu_no HI.out (bel2 b1 b2)
    · have HI := Lib.hid (HN.out.trans hi)
      obtain ⟨i1, i2⟩ := (inB_iff _ _ _).1 hi
      obtain ⟨k, rfl⟩ : ∃ k : Nat, i = k := ⟨i.toNat, by omega⟩
      clear hi
      go_wp2_with fail
      refine (ceOf_any w2 B _ l h2 HL.out).mono ?_
      rintro e w3 ⟨r, P, rfl, hLS, hP, b3⟩
      obtain ⟨A', cap', rfl, -, hp⟩ := hLS.parts
      have hnp : P.length = n := by rw [HNC.out, ← hP, lls_len]
      have hkp : k < P.length := by omega
      obtain ⟨g, rfl, hc⟩ := hp k hkp
      have his := hLS.2.at hkp
      have HZ := Lib.hid (pll_get hP hkp)
      have hkn : k < n := by omega
      rw [hnp]
      obtain ⟨cv, hcv⟩ : ∃ cv, cv = pvl P k := ⟨_, rfl⟩
      obtain ⟨zs, hzs⟩ : ∃ zs, zs = pll P k := ⟨_, rfl⟩
      rw [← hcv] at hc his
      rw [← hzs] at his HZ
      have HIS := Lib.hid his
      clear hLS hP hp hkp hnp hcv hzs his
      go_wp2
      go_ret2
      exact givesCu_yes HI.out HIS.out (by rw [cuR_yes HI.out, Int.toNat_natCast, ← HZ.out]) (bel2 (bel2 b1 b2) b3)
set_option maxHeartbeats 1000000 in
theorem cellWithNumber_any (w : World) (B : Nat) (v : Value) (l : List Tm) (i : Int) (h : TmS w B v l) : Calls Tryz.prog 46 #[v, .int .i64 i] w fun e w' => GivesCu (cpB l i) (cuR l i) w e w' := by
  cases hl : plB l
  · have HL := Lib.hid hl
    have HN := Lib.hid (cpB_no (i := i) hl)
    clear hl
    go_enter Tryz.func46, Tryz.ntmps46
    go_wp2_with fail
    refine (implCellsOf_any _ B _ l h).mono ?_
    rintro e w1 ⟨r, P, rfl, hLS, hP, b1⟩
    rw [HL.out]
    clear hLS hP
    go_wp2
    go_ret2
    exact givesCu_no HN.out b1
  · have HL := Lib.hid hl
    clear hl
    go_enter Tryz.func46, Tryz.ntmps46
    go_wp2_with fail
    refine (implCellsOf_any _ B _ l h).mono ?_
    rintro e w1 ⟨r, P, rfl, hLS, hP, b1⟩
    rw [ceR_yes HL.out] at hP
    obtain ⟨A, cap, rfl, -, hp⟩ := hLS.parts
    have hle := ceL_len (plB_le HL.out).2
    have hnp : P.length = (ceL l).length := by rw [← hP, lls_len]
    obtain ⟨n, hn⟩ : ∃ n, n = P.length := ⟨_, rfl⟩
    have HN := Lib.hid (show cpB l i = inB i 0 ((n : Int) - 1) by unfold cpB; rw [HL.out, hn, hnp]; rfl)
    rw [← hnp, ← hn] at hle
    rw [HL.out]
    by_cases i1 : i < 0
    · have HI := Lib.hid (show cpB l i = false from HN.out.trans (by cases hq : inB i 0 ((n : Int) - 1); rfl; have := (inB_iff _ _ _).1 hq; omega))
      rw [← hn]
      clear hLS hP hp hnp hn
      go_wp2
      go_ret2
      exact givesCu_no HI.out b1
    · obtain ⟨k, rfl⟩ : ∃ k : Nat, i = k := ⟨i.toNat, by omega⟩
      by_cases i2 : k < n
      · have HI := Lib.hid (show cpB l k = true from HN.out.trans ((inB_iff _ _ _).2 (by omega)))
        have hkp : k < P.length := by omega
        obtain ⟨g, rfl, hc⟩ := hp k hkp
        have his := hLS.2.at hkp
        have HZ := Lib.hid (pll_get hP hkp)
        rw [← hn]
        obtain ⟨cv, hcv⟩ : ∃ cv, cv = pvl P k := ⟨_, rfl⟩
        obtain ⟨zs, hzs⟩ : ∃ zs, zs = pll P k := ⟨_, rfl⟩
        rw [← hcv] at hc his
        rw [← hzs] at his HZ
        have HIS := Lib.hid his
        clear hLS hP hp hkp hnp hn hcv hzs his
        go_wp2
        go_ret2
        exact givesCu_yes HI.out HIS.out (by rw [cuR_yes HI.out, Int.toNat_natCast, ← HZ.out]) b1
      · have HI := Lib.hid (show cpB l k = false from HN.out.trans (by cases hq : inB (k : Int) 0 ((n : Int) - 1); rfl; have := (inB_iff _ _ _).1 hq; omega))
        rw [← hn]
        have i3 : (n : Int) ≤ (k : Int) := by omega
        clear hLS hP hp hnp hn
        go_wp2
        go_ret2
        exact givesCu_no HI.out b1
end Go.Proofs.YtbapepflfgcioaaGreat

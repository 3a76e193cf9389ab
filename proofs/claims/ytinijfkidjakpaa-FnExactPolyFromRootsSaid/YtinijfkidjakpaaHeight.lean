/-
  The heights of the lower side of the hull, in the program: what the call returns.
  Conditions: the slices read as the lists that are named, a polynomial and its corners.
-/
import Derived.Test.YtinijfkidjakpaaRoots
namespace Go.Proofs.Ytinijfkidjakpaa
set_option linter.unusedSimpArgs false
set_option linter.unusedVariables false
open Go.ChangeShapes Go.WideShapes Go.ChangeAt Go.RowKit

def encF (p : Int × Int) : List Int := [p.1, p.2]
theorem encF_len (p : Int × Int) : (encF p).length = 2 := rfl
def flatF (hs : List (Int × Int)) : List Int := hs.flatMap encF
theorem flatF_snoc (hs : List (Int × Int)) (p : Int × Int) : flatF (hs ++ [p]) = flatF hs ++ encF p := flat_snoc hs p
theorem hgt_gd {zs C : List Int} {m k : Nat} (hk : k < m) : gd (flatF (hgtL zs C m)) (k * 2) = hgN zs C (gd C 0 + (k : Int)) ∧ gd (flatF (hgtL zs C m)) (k * 2 + 1) = hgD zs C (gd C 0 + (k : Int)) := by
  have hl : k < (hgtL zs C m).length := by rw [hgtL_len]; exact hk
  have h0 := flat_gd encF_len (hgtL zs C m) k 0 hl (by omega)
  have h1 := flat_gd encF_len (hgtL zs C m) k 1 hl (by omega)
  have he : (hgtL zs C m)[k] = (hgN zs C (gd C 0 + (k : Int)), hgD zs C (gd C 0 + (k : Int))) := by simp [hgtL]
  rw [he] at h0 h1
  exact ⟨h0, h1⟩
theorem infoFrac : (Try.prog.info? 38).map (fun i => (i.zero, i.size, i.bytes)) = some (some (.agg #[.int .i64 0, .int .i64 0]), 2, 16) := by kernel_rfl
/-- What a call gives that makes a list of heights. -/
def GivesH (zs C : List Int) (m : Nat) (w : World) (e : Ending) (w' : World) : Prop := ∃ r, e = .returned r ∧ FS 38 2 w' w.heap.size r m (flatF (hgtL zs C m)) ∧ Below w.heap.size w w'
theorem hgt_one {zs C : List Int} (h : Corn zs C) : flatF (hgtL zs C 1) = [pv zs (gd C 0), 1] := by
  have := h.hg_first
  simp [hgtL, flatF, encF, this.1, this.2]
set_option maxHeartbeats 1000000 in
set_option maxRecDepth 100000 in
theorem heightsOf_any (w : World) (B B' : Nat) (v c : Value) (zs C : List Int) (h : IS w B v zs) (hc : IS w B' c C) (hC : Corn zs C) : Calls Try.prog 60 #[v, c] w fun e w' => GivesH zs C (hgM zs C) w e w' := by
  have H := Lib.hid h
  have HC := Lib.hid hC
  have hzl := hC.zl
  have hcp := hC.pos
  have hcl := hC.le
  have hlast := hC.last
  have p0 := hC.pt 0 hcp
  obtain ⟨A, cap, rfl, -, hp⟩ := h.parts
  obtain ⟨A2, cap2, rfl, hm2, hp2⟩ := hc.parts
  have hcap : C.length ≤ cap2 := by
    rcases hc.2 with ⟨e1, e2⟩ | ⟨g, cap', cur, e1, _, _, h4, _⟩
    · omega
    · injection e1 with e1 e2 e3; omega
  have HP := Lib.hid hp
  have HP2 := Lib.hid hp2
  obtain ⟨L, hL⟩ : ∃ L, L = C.length := ⟨_, rfl⟩
  rw [← hL] at hcp hcl hcap ⊢
  have HL := Lib.hid hL
  obtain ⟨c0, hc0⟩ : ∃ c0 : Nat, gd C 0 = c0 := ⟨(gd C 0).toNat, by omega⟩
  have HC0 := Lib.hid hc0
  obtain ⟨y, hy⟩ : ∃ y, y = gd zs c0 := ⟨_, rfl⟩
  have HY := Lib.hid hy
  have HONE := Lib.hid (show flatF (hgtL zs C 1) = [y, 1] by rw [hgt_one hC, hc0, hy]; simp [pv])
  rw [hc0] at p0
  obtain ⟨i0, hi, hz0, hz1, hz2⟩ := info_parts infoFrac
  obtain ⟨g2, rfl, d0⟩ := HP2.out 0 (by rw [← HL.out]; omega)
  obtain ⟨g, rfl, e0⟩ := HP.out c0 (by omega)
  rw [hc0] at d0
  rw [← hy] at e0
  have HM := Lib.hid (show hgM zs C = zs.length - c0 by unfold hgM; omega)
  have HLA := Lib.hid (show gd C (L - 1) = zs.length - 1 by rw [hL]; exact hlast)
  have z1 : (0 : Int) < (L : Int) := by omega
  have z2 : (c0 : Int) < (zs.length : Int) := by omega
  clear hp hp2 h hc hC hlast hc0 hL hy hm2
  by_cases h1 : L = 1
  · have HEND := Lib.hid (show zs.length - c0 = 1 by have h3 := HLA.out; rw [h1] at h3; have h4 := HC0.out; rw [show (1 : Nat) - 1 = 0 from rfl] at h3; omega)
    subst h1
    by_cases hcc : cap2 = 1
    · subst hcc
      go_enter Try.func60, Try.ntmps60
      go_wp2_with fail
      refine (wholeFrac_any _ _).mono ?_
      rintro e w1 ⟨rfl, b1⟩
      go_wp2
      go_rounds 1
      go_ret
      refine ⟨_, rfl, ?_, b1.alloc b1.size _⟩
      rw [HM.out, HEND.out, HONE.out]
      exact FS.base (World.ownsRow_lit w1 #[.int .i64 y, .int .i64 1] 1 (Nat.le_refl _) (by decide) rfl) b1.size
    · have hcc2 : 1 < cap2 := by omega
      go_enter Try.func60, Try.ntmps60
      go_wp2_with fail
      refine (wholeFrac_any _ _).mono ?_
      rintro e w1 ⟨rfl, b1⟩
      go_wp2
      go_rounds 1
      go_ret
      refine ⟨_, rfl, ?_, b1.alloc b1.size _⟩
      rw [HM.out, HEND.out, HONE.out]
      exact FS.base (World.ownsRow_lit w1 #[.int .i64 y, .int .i64 1] 1 (Nat.le_refl _) (by decide) rfl) b1.size
  · have h2 : 2 ≤ L := by omega
    have hcc2 : 1 < cap2 := by omega
    go_enter Try.func60, Try.ntmps60
    go_wp2_with fail
    refine (wholeFrac_any _ _).mono ?_
    rintro e w1 ⟨rfl, b1⟩
    have hFS1 : FS 38 2 (w1.alloc (.cells #[.int .i64 y, .int .i64 1] 38)) w.heap.size (.slice (some ⟨w1.heap.size, 0, none⟩) 1 1) 1 [y, 1] := FS.base (World.ownsRow_lit w1 #[.int .i64 y, .int .i64 1] 1 (Nat.le_refl _) (by decide) rfl) b1.size
    rw [← HONE.out] at hFS1
    have HFS := Lib.hid hFS1
    have HB1 := Lib.hid (show Below w.heap.size w (w1.alloc (.cells #[.int .i64 y, .int .i64 1] 38)) from b1.alloc b1.size _)
    have s1 := b1.size
    clear hFS1 b1 d0 e0 z1 z2
    go_wp2
    go_loopw [5, 21] (fun o i wr => ∃ n k : Nat, n + 1 ≤ L ∧ i = .int .i64 n ∧ gd C n = k ∧ FS 38 2 wr w.heap.size o (k + 1 - c0) (flatF (hgtL zs C (k + 1 - c0))) ∧ Below w.heap.size w wr) (fun _ i _ => L - (intOf i).toNat)
    case atStart => exact ⟨0, c0, by omega, rfl, HC0.out, by rw [show c0 + 1 - c0 = 1 by omega]; exact HFS.out, HB1.out⟩
    case round =>
      obtain ⟨n, k, hn, rfl, hk, ho, hb⟩ := hrel
      have HK := Lib.hid hk
      clear hk
      by_cases hlt : n + 1 < L
      · have hu := HC.out.up n (by rw [← HL.out]; exact hlt)
        have hpk := HC.out.pt n (by rw [← HL.out]; omega)
        have hpm := HC.out.pt (n + 1) (by rw [← HL.out]; exact hlt)
        have hle := up_le HC.out.up (n := 0) (m := n) (by omega) (by rw [← HL.out]; omega)
        obtain ⟨m, hm⟩ : ∃ m : Nat, gd C (n + 1) = m := ⟨(gd C (n + 1)).toNat, by omega⟩
        have hat : ∀ j : Nat, k < j → j ≤ m → hgN zs C (j : Int) = mkN (lhN zs k j m) ((m : Int) - k) ∧ hgD zs C (j : Int) = mkD (lhN zs k j m) ((m : Int) - k) := fun j h1 h2 => by
          have := HC.out.hg_at (n := n) (by rw [← HL.out]; exact hlt) (j := (j : Int)) (by rw [HK.out]; omega) (by rw [hm]; omega)
          rw [HK.out, hm] at this
          exact ⟨this.1, this.2.1⟩
        rw [HK.out] at hu hpk hle
        rw [hm] at hu hpm
        rw [HC0.out] at hle
        obtain ⟨g3, hg3, cn0⟩ := HP2.out n (by rw [← HL.out]; omega)
        cases hg3
        obtain ⟨g3, hg3, cm0⟩ := HP2.out (n + 1) (by rw [← HL.out]; exact hlt)
        cases hg3
        rw [HK.out] at cn0
        rw [hm] at cm0
        have cn := (hb.cell (cell_lt cn0)).trans cn0
        have cm := (hb.cell (cell_lt cm0)).trans cm0
        have HAT := Lib.hid hat
        have HM2 := Lib.hid hm
        simp only [pv, Int.toNat_natCast] at hpk hpm
        obtain ⟨k1, k2, k3, k4⟩ := hpk
        obtain ⟨m1, m2, m3, m4⟩ := hpm
        rw [Nat.add_comm] at cm
        have hln : n < L - 1 := by omega
        have hcell : g2 < w.heap.size := cell_lt cn0
        have HBD := Lib.hid (And.intro k3 (And.intro k4 (And.intro m3 m4)))
        clear hat hm cn0 cm0
        go_wp2
        go_loopw [5, 9] (fun o i wx => ∃ a : Nat, k + 1 ≤ a ∧ a ≤ m + 1 ∧ i = .int .i64 a ∧ FS 38 2 wx w.heap.size o (a - c0) (flatF (hgtL zs C (a - c0))) ∧ Below w.heap.size w wx) (fun _ i _ => m + 1 - (intOf i).toNat)
        case atStart => exact ⟨k + 1, by omega, by omega, by go_num, ho, hb⟩
        case round =>
          obtain ⟨a, ha1, ha2, rfl, hox, hbx⟩ := hrel
          clear ho hb cn cm
          by_cases hla : a ≤ m
          · obtain ⟨e1, e2⟩ := HAT.out a (by omega) hla
            have hLH := lineHeight_any wr B _ zs k a m (H.out.below hbx) hzl (by omega) hla (by omega) (by omega) ⟨HBD.out.1, HBD.out.2.1⟩ ⟨HBD.out.2.2.1, HBD.out.2.2.2⟩
            rw [← e1, ← e2] at hLH
            have HNX := Lib.hid (show flatF (hgtL zs C (a + 1 - c0)) = flatF (hgtL zs C (a - c0)) ++ encF (hgN zs C a, hgD zs C a) by
              rw [show a + 1 - c0 = (a - c0) + 1 by omega, hgtL_next, flatF_snoc, HC0.out, show (c0 : Int) + ((a - c0 : Nat) : Int) = a by omega])
            obtain ⟨X, hX⟩ : ∃ X, X = hgN zs C a := ⟨_, rfl⟩
            obtain ⟨Y, hY⟩ : ∃ X, X = hgD zs C a := ⟨_, rfl⟩
            rw [← hX, ← hY] at hLH HNX
            have HLH := Lib.hid hLH
            have HA := Lib.hid (show a + 1 - c0 = (a - c0) + 1 by omega)
            obtain ⟨u, hu⟩ : ∃ u, u = a - c0 := ⟨_, rfl⟩
            have hul : u ≤ 14 := by omega
            rw [← hu] at hox HNX HA
            clear e1 e2 hLH hX hY hu
            go_wp2_with fail
            refine HLH.out.mono ?_
            rintro e w3 ⟨rfl, b3⟩
            have ho3 : w3.ownsRow w.heap.size 38 2 u5 u (ints (flatF (hgtL zs C u))) := FS.below hox b3
            have hb3 := bel2 hbx b3
            have hs3 := hb3.size
            go_wp2_with (at_builtin; refine wpList_append_own _ rfl _ _ 64 rfl w.heap.size 38 i0 (.agg #[.int .i64 0, .int .i64 0]) 2 16 Try.underlying64 hi hz0 hz1 hz2 rfl (by decide) _ _ _ rfl (ho3.alloc _) ⟨w3.heap.size, 0, none⟩ 1 1 [.int .i64 X, .int .i64 Y] rfl rfl (new_cells _ _ _) (by simp [Value.oneCell']) (by unfold maxLen; omega) (by omega) (by simp; omega) ?_; intro v' w4 hown' hgrow hnil)
            have hb4 : Below w.heap.size w w4 := (hb3.alloc hs3 _).grown hgrow (by simp; omega) (fun g' hg' => (World.ownsRow.lt ho3 g' hg').1)
            have hrow : FS 38 2 w4 w.heap.size v' (u + 1) (flatF (hgtL zs C u) ++ encF (X, Y)) := FS.snoc hown'
            rw [← HNX.out] at hrow
            go_wp2
            go_roundw
            case rel => exact ⟨a + 1, by omega, by omega, by go_num, by rw [HA.out]; rw [HA.out] at hrow; exact hrow, hb4⟩
            case measure => simp [intOf]; omega
          · obtain rfl : a = m + 1 := by omega
            go_wp2
            go_roundw
            case rel => exact ⟨n + 1, m, by omega, by go_num, HM2.out, hox, hbx⟩
            case measure => simp [intOf]; omega
      · go_wp2
        go_ret
        have hnl : n = L - 1 := by omega
        have hkl : k + 1 - c0 = hgM zs C := by
          have h3 := HLA.out
          rw [← hnl, HK.out] at h3
          rw [HM.out]; omega
        rw [hkl] at ho
        exact ⟨_, rfl, ho, hb⟩
end Go.Proofs.Ytinijfkidjakpaa

/-
  The lists of roots, in the program and in the model: what each call returns; how the laws compare, mark and read them.
  Conditions: the slice reads as the list that is named, a polynomial where it says so.
-/
import Derived.Test.YtklcildhfcomnaaGreatDoorCorner
import Derived.Test.YtklcildhfcomnaaGreatDoorRow
import Derived.StillTailTactics
namespace Go.Proofs.YtklcildhfcomnaaGreatDoor
set_option linter.unusedSimpArgs false
set_option linter.unusedVariables false
open Go.ChangeShapes Go.WideShapes Go.ChangeAt Go.RowKit

theorem SP.grown {w w' : World} {g i k : Nat} {a b : Int} {row : Option Nat} (h : SP w g i k a b) (hg : w.grownBy w' row) (hn : some g ≠ row) : SP w' g i k a b := ⟨hg.cell h.1 hn, hg.cell h.2 hn⟩
theorem SP.drewN {w : World} {g i k : Nat} {a b : Int} (h : SP w g i k a b) (n : Nat) : SP (w.drewN n) g i k a b := h
abbrev rtV (r : Rt) : Value := .agg #[.int .i64 r.1, .int .i64 r.2.1, .int .i64 r.2.2]
def encR (r : Rt) : List Int := [r.1, r.2.1, r.2.2]
theorem encR_len (r : Rt) : (encR r).length = 3 := rfl
/-- The cells of a list of roots. -/
def flatR (rs : List Rt) : List Int := rs.flatMap encR
theorem flatR_len (rs : List Rt) : (flatR rs).length = rs.length * 3 := flat_len encR_len rs
theorem flatR_gd {rs : List Rt} {j : Nat} (hj : j < rs.length) : gd (flatR rs) (j * 3) = (rd rs j).1 ∧ gd (flatR rs) (j * 3 + 1) = (rd rs j).2.1 ∧ gd (flatR rs) (j * 3 + 2) = (rd rs j).2.2 := by
  have h0 := flat_gd encR_len rs j 0 hj (by omega)
  have h1 := flat_gd encR_len rs j 1 hj (by omega)
  have h2 := flat_gd encR_len rs j 2 hj (by omega)
  rw [rd_eq rs j hj]
  exact ⟨h0, h1, h2⟩
theorem flatR_snoc (rs : List Rt) (r : Rt) : flatR (rs ++ [r]) = flatR rs ++ encR r := flat_snoc rs r
theorem infoRoot : (Tryz.prog.info? 37).map (fun i => (i.zero, i.size, i.bytes)) = some (some (.agg #[.int .i64 0, .int .i64 0, .int .i64 0]), 3, 24) := by kernel_rfl
/-- The slice value v is of this call's own and reads as a list of roots. -/
abbrev RS (w : World) (B : Nat) (v : Value) (rs : List Rt) : Prop := FS 37 3 w B v rs.length (flatR rs)
def GivesR (rs : List Rt) (w : World) (e : Ending) (w' : World) : Prop := ∃ r, e = .returned r ∧ RS w' w.heap.size r rs ∧ Below w.heap.size w w'
def GivesRB (ok : Bool) (rs : List Rt) (w : World) (e : Ending) (w' : World) : Prop := ∃ r, e = .returned (.tuple #[r, .bool ok]) ∧ RS w' w.heap.size r rs ∧ Below w.heap.size w w'
theorem givesRB_nil {ok : Bool} {rs : List Rt} {w w' : World} (h1 : ok = false) (h2 : rs = []) (hb : Below w.heap.size w w') : GivesRB ok rs w (.returned (.tuple #[.slice none 0 0, .bool false])) w' := by
  subst h1; subst h2; exact ⟨_, rfl, FS.nil_ _ _ _ _, hb⟩
theorem givesRB_yes {ok : Bool} {rs : List Rt} {r : Value} {w w' : World} (h1 : ok = true) (h2 : RS w' w.heap.size r rs) (hb : Below w.heap.size w w') : GivesRB ok rs w (.returned (.tuple #[r, .bool true])) w' := by
  subst h1; exact ⟨_, rfl, h2, hb⟩
/-- A root's three cells in a block of the call's own. -/
def R3 (w : World) (g : Nat) (a b c : Int) : Prop := w.cell? ⟨g, 0, none⟩ = some (.int .i64 a) ∧ w.cell? ⟨g, 1, none⟩ = some (.int .i64 b) ∧ w.cell? ⟨g, 2, none⟩ = some (.int .i64 c) ∧ w.frozen? ⟨g, 0, none⟩ = false ∧ w.frozen? ⟨g, 1, none⟩ = false ∧ w.frozen? ⟨g, 2, none⟩ = false
theorem R3.below {w w' : World} {g : Nat} {a b c : Int} (h : R3 w g a b c) (hb : Below w.heap.size w w') : R3 w' g a b c := by
  obtain ⟨h1, h2, h3, h4, h5, h6⟩ := h
  have hg := cell_lt h1
  exact ⟨(hb.cell (p := ⟨g, 0, none⟩) hg).trans h1, (hb.cell (p := ⟨g, 1, none⟩) hg).trans h2, (hb.cell (p := ⟨g, 2, none⟩) hg).trans h3, (hb.frozen (p := ⟨g, 0, none⟩) hg).trans h4, (hb.frozen (p := ⟨g, 1, none⟩) hg).trans h5, (hb.frozen (p := ⟨g, 2, none⟩) hg).trans h6⟩
theorem R3.new (w : World) (a b c : Int) (T : TypeId) : R3 (w.alloc (.cells #[.int .i64 a, .int .i64 b, .int .i64 c] T)) w.heap.size a b c := by
  refine ⟨?_, ?_, ?_, ?_, ?_, ?_⟩ <;> simp [go_sem]
theorem R3.old {w : World} {g : Nat} {a b c : Int} (h : R3 w g a b c) (o : Obj) : R3 (w.alloc o) g a b c := h.below ((Below.refl _ _).alloc (Nat.le_refl _) o)
theorem R3.drew {w : World} {g : Nat} {a b c : Int} (h : R3 w g a b c) : R3 w.drew g a b c := h
theorem R3.far {w : World} {g h i : Nat} {a b c : Int} {v : Value} (H : R3 w g a b c) (hn : h ≠ g) : R3 (w.setCell ⟨h, i, none⟩ v) g a b c := by
  obtain ⟨h1, h2, h3, h4, h5, h6⟩ := H
  refine ⟨(World.cell?_setCell_other _ _ _ _ (by simp [hn])).trans h1, (World.cell?_setCell_other _ _ _ _ (by simp [hn])).trans h2, (World.cell?_setCell_other _ _ _ _ (by simp [hn])).trans h3, ?_, ?_, ?_⟩ <;> simp [h4, h5, h6]
theorem R3.store {w : World} {g : Nat} {a b c : Int} (h : R3 w g a b c) (q r s : Int) : R3 (((w.setCell ⟨g, 0, none⟩ (.int .i64 q)).setCell ⟨g, 1, none⟩ (.int .i64 r)).setCell ⟨g, 2, none⟩ (.int .i64 s)) g q r s := by
  obtain ⟨h1, h2, h3, h4, h5, h6⟩ := h
  have a1 : (w.setCell ⟨g, 0, none⟩ (.int .i64 q)).cell? ⟨g, 0, none⟩ = some (.int .i64 q) := World.cell?_setCell_same _ _ _ h1
  have a2 : (w.setCell ⟨g, 0, none⟩ (.int .i64 q)).cell? ⟨g, 1, none⟩ = some (.int .i64 b) := (World.cell?_setCell_other _ _ _ _ (by simp)).trans h2
  have a3 : (w.setCell ⟨g, 0, none⟩ (.int .i64 q)).cell? ⟨g, 2, none⟩ = some (.int .i64 c) := (World.cell?_setCell_other _ _ _ _ (by simp)).trans h3
  have b1 : ((w.setCell ⟨g, 0, none⟩ (.int .i64 q)).setCell ⟨g, 1, none⟩ (.int .i64 r)).cell? ⟨g, 0, none⟩ = some (.int .i64 q) := (World.cell?_setCell_other _ _ _ _ (by simp)).trans a1
  have b2 : ((w.setCell ⟨g, 0, none⟩ (.int .i64 q)).setCell ⟨g, 1, none⟩ (.int .i64 r)).cell? ⟨g, 1, none⟩ = some (.int .i64 r) := World.cell?_setCell_same _ _ _ a2
  have b3 : ((w.setCell ⟨g, 0, none⟩ (.int .i64 q)).setCell ⟨g, 1, none⟩ (.int .i64 r)).cell? ⟨g, 2, none⟩ = some (.int .i64 c) := (World.cell?_setCell_other _ _ _ _ (by simp)).trans a3
  refine ⟨(World.cell?_setCell_other _ _ _ _ (by simp)).trans b1, (World.cell?_setCell_other _ _ _ _ (by simp)).trans b2, World.cell?_setCell_same _ _ _ b3, ?_, ?_, ?_⟩ <;> simp [h4, h5, h6]
theorem R3.load {w : World} {g : Nat} {a b c : Int} (h : R3 w g a b c) : (loadVar 37 ⟨g, 0, none⟩).run Tryz.prog w = .ok (rtV (a, b, c)) w := by
  obtain ⟨h1, h2, h3, -, -⟩ := h
  simp [loadVar, go_sem, h1, h2, h3]
theorem R3.result {w : World} {g : Nat} {a b c : Int} (h : R3 w g a b c) {fn : Func} {p : Tmp} {ts : Array Value} (hr : fn.results = #[.cell p 37]) (hp : ts.getD p undef = .pointer (some ⟨g, 0, none⟩)) : (Go.results fn ts).run Tryz.prog w = Result.ok (rtV (a, b, c)) w := by
  have hp' : ts[p]?.getD undef = .pointer (some ⟨g, 0, none⟩) := by simpa using hp
  have ha : (asAddr (Value.pointer (some ⟨g, 0, none⟩))).run Tryz.prog w = .ok ⟨g, 0, none⟩ w := rfl
  simp only [Go.results, hr]
  simp [Sem.run_bind, Result.andThen, hp', ha, h.load]
set_option maxHeartbeats 1000000 in
set_option maxRecDepth 100000 in
theorem rootBetween_any (w : World) (B : Nat) (v : Value) (zs : List Int) (i k : Nat) (h : IS w B v zs) (hl : zs.length ≤ 13) (hik : i < k) (hk : k < zs.length) (hi : -1000000 ≤ gd zs i ∧ gd zs i ≤ 1000000) (hkb : -1000000 ≤ gd zs k ∧ gd zs k ≤ 1000000) :
    Calls Tryz.prog 22 #[v, .int .i64 (i : Int), .int .i64 (k : Int)] w fun e w' => e = .returned (rtV (mkN (gd zs i - gd zs k) ((k : Int) - i), mkD (gd zs i - gd zs k) ((k : Int) - i), (k : Int) - i)) ∧ Below w.heap.size w w' := by
  obtain ⟨A, cap, rfl, -, hp⟩ := h.parts
  obtain ⟨g, rfl, ci⟩ := hp i (by omega)
  obtain ⟨g', hg', ck⟩ := hp k hk
  cases hg'
  have hgl := cell_lt ci
  obtain ⟨N, hN⟩ : ∃ N, N = gd zs i - gd zs k := ⟨_, rfl⟩
  have q1 : IntKind.i64.wrap (gd zs i - gd zs k) = N := by rw [hN]; exact IntWalk.i64_in _ (by omega)
  have q6 : IntKind.i64.wrap ((k : Int) - i) = (k : Int) - i := IntWalk.i64_in _ (by omega)
  have hd : 1 ≤ (k : Int) - i ∧ (k : Int) - i ≤ 1000 := by omega
  have hn : -100000000 ≤ N ∧ N ≤ 100000000 := by omega
  rw [← hN]
  have z1 : (i : Int) < (zs.length : Int) := by omega
  have z2 : (k : Int) < (zs.length : Int) := by omega
  have z3 : (0 : Int) ≤ (i : Int) := by omega
  have z4 : (0 : Int) ≤ (k : Int) := by omega
  have hS : SP (w.alloc (.cells #[.int .i64 0, .int .i64 0, .int .i64 0] 37)) g i k (gd zs i) (gd zs k) := SP.alloc ⟨ci, ck⟩ _
  have H8 := R3.new w 0 0 0 37
  have HM := Lib.hid (And.intro hn hd)
  clear hN hp h hl hi hkb hn hd
  go_enter Tryz.func22, Tryz.ntmps22
  go_upto_region 1 with fail
  go_cut [6, 7] (fun u p wx => u = .pointer (some ⟨w.heap.size, 0, none⟩) ∧ ∃ h, p = .pointer (some ⟨h, 0, none⟩) ∧ w.heap.size < h ∧ R3 wx w.heap.size 0 0 0 ∧ F2 wx h (mkN N ((k : Int) - i)) (mkD N ((k : Int) - i)) ∧ Below w.heap.size w wx)
  case first =>
    go_region_held3 (fun w' => w'.cell? ⟨g, i, none⟩ = some (.int .i64 (gd zs i)) ∧ w'.cell? ⟨g, k, none⟩ = some (.int .i64 (gd zs k))) (repeat' (first | with_reducible assumption | with_reducible refine SP.below ?_ (by assumption) | with_reducible refine SP.drew ?_ | with_reducible refine SP.drewN ?_ _ | with_reducible refine SP.setAt ?_ ?_ _ _ | with_reducible refine SP.setN ?_ _ (by first | omega | (simp; omega)) _ _ | with_reducible refine SP.alloc ?_ _)) (first | (go_at_call 56; refine (fracOf_at _ _ _ HM.out.1 HM.out.2).mono ?_; rintro e w1 ⟨rfl, b1⟩; have k1 := cellAt b1; have k2 := frozenAt b1))
    all_goals clear q1 q6
    all_goals go_wp2_with fail
    all_goals go_meet
    · have hs := b1.size
      simp at hs
      refine ⟨rfl, _, rfl, by omega, (R3.drew H8 |>.below b1).old _, F2.new _ _ _, ((bel2 (((Below.refl w.heap.size w).alloc (Nat.le_refl _) _).drew) b1)).alloc (by omega) _⟩
    · have hs := b1.size
      simp at hs
      have H9 := (F2.new_ (w := w.alloc (.cells #[.int .i64 0, .int .i64 0, .int .i64 0] 37)) (g := w.heap.size + 1) 0 0 (World.size_alloc _ _)).drew.below b1
      refine ⟨rfl, _, rfl, by omega, ?_, H9.store _ _, ?_⟩
      · exact (((H8.old _).drew.below b1).far (by omega)).far (by omega)
      · exact ((bel2 (((((Below.refl w.heap.size w).alloc (Nat.le_refl _) _).alloc (by simp) _).drew)) b1).setCell (by simp) _).setCell (by simp) _
  case rest =>
    obtain ⟨rfl, h, rfl, hh, ⟨c0, c1, c2, f0, f1, f2⟩, ⟨d0, d1, e0, e1⟩, b0⟩ := hcut
    go_wp2_with fail
    refine bodyPost_ret ((R3.store ⟨c0, c1, c2, f0, f1, f2⟩ _ _ _).result rfl rfl) rfl ?_
    exact ⟨rfl, ((b0.setCell (Nat.le_refl _) _).setCell (Nat.le_refl _) _).setCell (Nat.le_refl _) _⟩
theorem rts_next {zs C : List Int} {d m : Nat} (h : m + d + 1 = C.length) (hm : 0 < m) : rtsL zs C (d + 1) = rtsL zs C d ++ [rootAt zs C (m - 1)] := by rw [rtsL, show C.length - 2 - d = m - 1 by omega]
set_option maxHeartbeats 1000000 in
set_option maxRecDepth 100000 in
theorem rtRoots_any (w : World) (B : Nat) (v : Value) (zs : List Int) (h : IS w B v zs) (hz : poB zs = true) : Calls Tryz.prog 24 #[v] w fun e w' => GivesR (rootsL zs) w e w' := by
  have hl := (po_parts hz).2.2.1
  have hC := corL_ok hz
  have H := Lib.hid h
  obtain ⟨A, cap, rfl, -, hp⟩ := h.parts
  have HP := Lib.hid hp
  have HZ := Lib.hid hz
  clear hp h hz
  obtain ⟨i0, hi, hz0, hz1, hz2⟩ := info_parts infoRoot
  go_enter Tryz.func24, Tryz.ntmps24
  go_wp2_with fail
  refine (rtCorners_any _ B _ zs H.out HZ.out).mono ?_
  rintro e w1 ⟨r, rfl, hr, hb1⟩
  obtain ⟨C, hCe⟩ : ∃ C, C = corL zs := ⟨_, rfl⟩
  rw [← hCe] at hr hC
  have HC := Lib.hid hC
  have HR := Lib.hid (show rootsL zs = rtsL zs C (C.length - 1) by rw [hCe]; rfl)
  have hcp := hC.pos
  have hcl := hC.le
  clear hCe hC
  obtain ⟨A2, cap2, rfl, -, hp2⟩ := hr.parts
  have HP2 := Lib.hid hp2
  clear hp2
  obtain ⟨L, hL⟩ : ∃ L, L = C.length := ⟨_, rfl⟩
  rw [← hL] at hcp hcl
  have HL := Lib.hid hL
  have q0 : IntKind.i64.wrap ((L : Int) - 1) = ((L - 1 : Nat) : Int) := by rw [IntWalk.i64_in _ (by omega)]; omega
  rw [show (Value.slice A2 C.length cap2) = Value.slice A2 L cap2 by rw [HL.out]] at *
  clear hL
  go_wp2
  go_loopw [3, 5] (fun o i wr => ∃ m d : Nat, m + d + 1 = L ∧ i = .int .i64 m ∧ FS 37 3 wr w1.heap.size o d (flatR (rtsL zs C d)) ∧ Below w1.heap.size w1 wr) (fun _ i _ => (intOf i).toNat)
  case atStart => exact ⟨L - 1, 0, by omega, by go_num, FS.nil_ _ _ _ _, Below.refl _ _⟩
  case round =>
    obtain ⟨m, d, hmd, rfl, ho, hb⟩ := hrel
    clear q0
    by_cases hlt : 0 < m
    · have hu := HC.out.up (m - 1) (by rw [← HL.out]; omega)
      have hpi := HC.out.pt (m - 1) (by rw [← HL.out]; omega)
      have hpk := HC.out.pt m (by rw [← HL.out]; omega)
      rw [show m - 1 + 1 = m by omega] at hu
      obtain ⟨i, hie⟩ : ∃ i : Nat, gd C (m - 1) = i := ⟨(gd C (m - 1)).toNat, by omega⟩
      obtain ⟨k, hke⟩ : ∃ k : Nat, gd C m = k := ⟨(gd C m).toNat, by omega⟩
      have HN := Lib.hid (show rtsL zs C (d + 1) = rtsL zs C d ++ [(mkN (gd zs i - gd zs k) ((k : Int) - i), mkD (gd zs i - gd zs k) ((k : Int) - i), (k : Int) - i)] by
        rw [rts_next (m := m) (by rw [← HL.out]; exact hmd) hlt, rootAt, show m - 1 + 1 = m by omega, hie, hke]; simp [pv])
      rw [hie] at hu hpi
      rw [hke] at hu hpk
      obtain ⟨g2, rfl, cu0⟩ := HP2.out (m - 1) (by rw [← HL.out]; omega)
      obtain ⟨g3, hg3, cm0⟩ := HP2.out m (by rw [← HL.out]; omega)
      cases hg3
      rw [hie] at cu0
      rw [hke] at cm0
      have cu := (hb.cell (cell_lt cu0)).trans cu0
      have cm := (hb.cell (cell_lt cm0)).trans cm0
      clear cu0 cm0 hie hke
      obtain ⟨g, rfl, ci0⟩ := HP.out i (by omega)
      obtain ⟨g', hg', ck0⟩ := HP.out k (by omega)
      cases hg'
      have B2 := bel2 hb1 hb
      have ci := (B2.cell (cell_lt ci0)).trans ci0
      have ck := (B2.cell (cell_lt ck0)).trans ck0
      have hgl : g < wr.heap.size := cell_lt ci
      clear ci0 ck0
      simp only [pv, Int.toNat_natCast] at hpi hpk
      obtain ⟨i1, i2, i3, i4⟩ := hpi
      obtain ⟨k1, k2, k3, k4⟩ := hpk
      have q7 : IntKind.i64.wrap ((m : Int) - 1) = ((m - 1 : Nat) : Int) := by rw [IntWalk.i64_in _ (by omega)]; omega
      have l1 : m - 1 < L := by omega
      have l2 : m < L := by omega
      have Q8 := Lib.hid q7
      go_wp2
      go_quiet (fail)
      clear q7
      obtain ⟨N, hN⟩ : ∃ N, N = gd zs i - gd zs k := ⟨_, rfl⟩
      have q1 : IntKind.i64.wrap (gd zs i - gd zs k) = N := by rw [hN]; exact IntWalk.i64_in _ (by omega)
      have q6 : IntKind.i64.wrap ((k : Int) - i) = (k : Int) - i := IntWalk.i64_in _ (by omega)
      have HM := Lib.hid (show (-100000000 ≤ N ∧ N ≤ 100000000) ∧ 1 ≤ (k : Int) - i ∧ (k : Int) - i ≤ 1000 by omega)
      rw [← hN] at HN
      have z1 : (i : Int) < (zs.length : Int) := by omega
      have z2 : (k : Int) < (zs.length : Int) := by omega
      obtain ⟨W, hW⟩ : ∃ W, W = wr.drewN nq := ⟨_, rfl⟩
      rw [← hW]
      have hS : SP W g i k (gd zs i) (gd zs k) := by rw [hW]; exact ⟨ci, ck⟩
      have hoW : FS 37 3 W w1.heap.size u3 d (flatR (rtsL zs C d)) := by rw [hW]; exact ho
      have hbW : Below w1.heap.size w1 W := by rw [hW]; exact belN hb nq
      have hgW : g < W.heap.size := cell_lt hS.1
      clear hN hW ho hb hgl ci ck cu cm
      go_upto_region 7 with fail
      go_cut [8] (fun p wx => ∃ h, p = .pointer (some ⟨h, 0, none⟩) ∧ F2 wx h (mkN N ((k : Int) - i)) (mkD N ((k : Int) - i)) ∧ Below W.heap.size W wx)
      case first =>
        go_region_held3 (fun w' => w'.cell? ⟨g, i, none⟩ = some (.int .i64 (gd zs i)) ∧ w'.cell? ⟨g, k, none⟩ = some (.int .i64 (gd zs k))) (repeat' (first | with_reducible assumption | with_reducible refine SP.below ?_ (by assumption) | with_reducible refine SP.drew ?_ | with_reducible refine SP.drewN ?_ _ | with_reducible refine SP.setAt ?_ ?_ _ _ | with_reducible refine SP.setN ?_ _ (by first | omega | (simp; omega)) _ _ | with_reducible refine SP.alloc ?_ _)) (first | (go_at_call 59; refine (frMake_at _ _ _ HM.out.1 HM.out.2).mono ?_; rintro e w2 ⟨rfl, b1⟩; have k1 := cellAt b1; have k2 := frozenAt b1))
        all_goals clear q1 q6
        all_goals go_wp2_with fail
        all_goals go_meet
        · exact ⟨_, rfl, F2.new _ _ _, (bel2 (Below.refl W.heap.size W).drew b1).alloc (by have := b1.size; simp at this; omega) _⟩
        · have H9 := (F2.new W 0 0).drew.below b1
          exact ⟨_, rfl, H9.store _ _, ((bel2 (((Below.refl W.heap.size W).alloc (Nat.le_refl _) _).drew) b1).setCell (Nat.le_refl _) _).setCell (Nat.le_refl _) _⟩
      case rest =>
        obtain ⟨h, rfl, ⟨d0, d1, -, -⟩, b0⟩ := hcut
        have ho3 : wc.ownsRow w1.heap.size 37 3 u3 d (ints (flatR (rtsL zs C d))) := FS.below hoW b0
        have hb3 := bel2 hbW b0
        have hs3 := hb3.size
        clear hS
        go_wp2_with (at_builtin; refine wpList_append_own _ rfl _ _ 25 rfl w1.heap.size 37 i0 (.agg #[.int .i64 0, .int .i64 0, .int .i64 0]) 3 24 Tryz.underlying25 hi hz0 hz1 hz2 rfl (by decide) _ _ _ rfl (ho3.alloc _) ⟨wc.heap.size, 0, none⟩ 1 1 [.int .i64 (mkN N ((k : Int) - i)), .int .i64 (mkD N ((k : Int) - i)), .int .i64 ((k : Int) - i)] rfl rfl (new_cells _ _ _) (by simp [Value.oneCell']) (by unfold maxLen; omega) (by omega) (by simp; omega) ?_; intro v' w2 hown' hgrow hnil)
        have hb4 : Below w1.heap.size w1 w2 := (hb3.alloc hs3 _).grown hgrow (by simp; omega) (fun g' hg' => (World.ownsRow.lt ho3 g' hg').1)
        have hrow : FS 37 3 w2 w1.heap.size v' (d + 1) (flatR (rtsL zs C d) ++ encR (mkN N ((k : Int) - i), mkD N ((k : Int) - i), (k : Int) - i)) := FS.snoc hown'
        rw [← flatR_snoc, ← HN.out] at hrow
        go_wp2
        go_roundw
        case rel => exact ⟨m - 1, d + 1, by omega, by rw [show ((m - 1 : Nat) : Int) = (m : Int) - 1 by omega], hrow, hb4⟩
        case measure => simp [intOf]; omega
    · obtain rfl : m = 0 := by omega
      go_wp2
      go_ret
      obtain rfl : d = L - 1 := by omega
      refine ⟨_, rfl, ?_, bel2 hb1 hb⟩
      unfold RS
      rw [HR.out, rtsL_len, ← HL.out]
      exact FS.base ho hb1.size
theorem specRootsOf_any (w : World) (B : Nat) (v : Value) (zs : List Int) (h : IS w B v zs) : Calls Tryz.prog 6 #[v] w fun e w' => GivesRB (poB zs) (rootsR zs) w e w' := by
  cases hz : poB zs
  · have HQ := Lib.hid hz
    go_enter Tryz.func6, Tryz.ntmps6
    go_wp2_with fail
    refine (poGood_any _ B _ zs h).mono ?_
    rintro e w' ⟨rfl, rfl⟩
    rw [HQ.out]
    go_wp2
    go_ret2
    exact givesRB_nil rfl (rootsR_no HQ.out) (Below.refl _ _)
  · have HQ := Lib.hid hz
    go_enter Tryz.func6, Tryz.ntmps6
    go_wp2_with fail
    refine (poGood_any _ B _ zs h).mono ?_
    rintro e w' ⟨rfl, rfl⟩
    rw [HQ.out]
    go_wp2_with fail
    refine (rtRoots_any _ B _ zs h HQ.out).mono ?_
    rintro e w1 ⟨r, rfl, hr, b1⟩
    go_wp2
    go_ret2
    exact givesRB_yes rfl (by rw [rootsR_yes HQ.out]; exact hr) b1
set_option maxHeartbeats 1000000 in
set_option maxRecDepth 100000 in
theorem implRootsOf_any (w : World) (B : Nat) (v : Value) (zs : List Int) (h : IS w B v zs) : Calls Tryz.prog 5 #[v] w fun e w' => GivesRB (poB zs) (rootsR zs) w e w' := by
  cases hz : poB zs
  · have HQ := Lib.hid hz
    go_enter Tryz.func5, Tryz.ntmps5
    go_wp2_with fail
    refine (implCornersOf_any _ B _ zs h).mono ?_
    rintro e w1 ⟨r, rfl, hr, b1⟩
    rw [HQ.out]
    go_wp2
    go_ret2
    exact givesRB_nil rfl (rootsR_no HQ.out) b1
  · have hl := (po_parts hz).2.2.1
    have hC := corL_ok hz
    have H := Lib.hid h
    have HZ := Lib.hid hz
    have HP := Lib.hid h.parts
    clear h hz
    obtain ⟨i0, hi, hz0, hz1, hz2⟩ := info_parts infoRoot
    go_enter Tryz.func5, Tryz.ntmps5
    go_wp2_with fail
    refine (implCornersOf_any _ B _ zs H.out).mono ?_
    rintro e w1 ⟨r, rfl, hr, hb1⟩
    rw [HZ.out]
    rw [coR_yes HZ.out] at hr
    obtain ⟨C, hCe⟩ : ∃ C, C = corL zs := ⟨_, rfl⟩
    rw [← hCe] at hr hC
    have HC := Lib.hid hC
    have HR := Lib.hid (show rootsR zs = rtsL zs C (C.length - 1) by rw [rootsR_yes HZ.out, hCe]; rfl)
    have hcp := hC.pos
    have hcl := hC.le
    clear hCe hC
    obtain ⟨A2, cap2, rfl, -, hp2⟩ := hr.parts
    have HP2 := Lib.hid hp2
    clear hp2
    obtain ⟨L, hL⟩ : ∃ L, L = C.length := ⟨_, rfl⟩
    rw [← hL] at hcp hcl
    have HL := Lib.hid hL
    have q0 : IntKind.i64.wrap ((L : Int) - 1) = ((L - 1 : Nat) : Int) := by rw [IntWalk.i64_in _ (by omega)]; omega
    rw [show (Value.slice A2 C.length cap2) = Value.slice A2 L cap2 by rw [HL.out]] at *
    clear hL
    go_wp2
    go_loopw [6, 7] (fun o i wr => ∃ m d : Nat, m + d + 1 = L ∧ i = .int .i64 m ∧ FS 37 3 wr w1.heap.size o d (flatR (rtsL zs C d)) ∧ Below w1.heap.size w1 wr) (fun _ i _ => (intOf i).toNat)
    case atStart => exact ⟨L - 1, 0, by omega, by go_num, FS.nil_ _ _ _ _, Below.refl _ _⟩
    case round =>
      obtain ⟨m, d, hmd, rfl, ho, hb⟩ := hrel
      clear q0
      by_cases hlt : 0 < m
      · have hu := HC.out.up (m - 1) (by rw [← HL.out]; omega)
        have hpi := HC.out.pt (m - 1) (by rw [← HL.out]; omega)
        have hpk := HC.out.pt m (by rw [← HL.out]; omega)
        rw [show m - 1 + 1 = m by omega] at hu
        obtain ⟨i, hie⟩ : ∃ i : Nat, gd C (m - 1) = i := ⟨(gd C (m - 1)).toNat, by omega⟩
        obtain ⟨k, hke⟩ : ∃ k : Nat, gd C m = k := ⟨(gd C m).toNat, by omega⟩
        have HN := Lib.hid (show rtsL zs C (d + 1) = rtsL zs C d ++ [(mkN (gd zs i - gd zs k) ((k : Int) - i), mkD (gd zs i - gd zs k) ((k : Int) - i), (k : Int) - i)] by
          rw [rts_next (m := m) (by rw [← HL.out]; exact hmd) hlt, rootAt, show m - 1 + 1 = m by omega, hie, hke]; simp [pv])
        rw [hie] at hu hpi
        rw [hke] at hu hpk
        obtain ⟨g2, rfl, cu0⟩ := HP2.out (m - 1) (by rw [← HL.out]; omega)
        obtain ⟨g3, hg3, cm0⟩ := HP2.out m (by rw [← HL.out]; omega)
        cases hg3
        rw [hie] at cu0
        rw [hke] at cm0
        have cu := (hb.cell (cell_lt cu0)).trans cu0
        have cm := (hb.cell (cell_lt cm0)).trans cm0
        clear cu0 cm0 hie hke
        have B2 := bel2 hb1 hb
        have hV := H.out.below B2
        simp only [pv, Int.toNat_natCast] at hpi hpk
        obtain ⟨i1, i2, i3, i4⟩ := hpi
        obtain ⟨k1, k2, k3, k4⟩ := hpk
        have hB := fun n => rootBetween_any (wr.drewN n) B v zs i k (hV.drewN n) hl (by omega) (by omega) ⟨i3, i4⟩ ⟨k3, k4⟩
        obtain ⟨X, hX⟩ : ∃ X, X = mkN (gd zs i - gd zs k) ((k : Int) - i) := ⟨_, rfl⟩
        obtain ⟨Y, hY⟩ : ∃ Y, Y = mkD (gd zs i - gd zs k) ((k : Int) - i) := ⟨_, rfl⟩
        obtain ⟨Z, hZ⟩ : ∃ Z, Z = (k : Int) - i := ⟨_, rfl⟩
        rw [← hX, ← hY, ← hZ] at HN hB
        have HB := Lib.hid hB
        clear hX hY hZ hB hV
        have q7 : IntKind.i64.wrap ((m : Int) - 1) = ((m - 1 : Nat) : Int) := by rw [IntWalk.i64_in _ (by omega)]; omega
        have l1 : m - 1 < L := by omega
        have l2 : m < L := by omega
        obtain ⟨A0, cap0, rfl, -, -⟩ := HP.out
        go_wp2
        have hS : SP wr g2 (m - 1) m i k := ⟨cu, cm⟩
        have hne : some g2 ≠ u6.ownBlock := fun hx => by have := (ho.lt _ hx.symm).1; have := cell_lt cu; have := (hr.lt g2 rfl).2; omega
        have hs1 := hb.size
        have z1 : ((m - 1 : Nat) : Int) < (L : Int) := by omega
        have z2 : (m : Int) < (L : Int) := by omega
        have z3 : (0 : Int) ≤ ((m - 1 : Nat) : Int) := by omega
        have z4 : (0 : Int) ≤ (m : Int) := by omega
        clear cu cm
        go_region_held3 (fun w' => w'.cell? ⟨g2, m - 1, none⟩ = some (.int .i64 (i : Int)) ∧ w'.cell? ⟨g2, m, none⟩ = some (.int .i64 (k : Int))) (first | with_reducible exact SP.grown (by assumption) hgrow hne | (repeat' (first | with_reducible assumption | with_reducible refine SP.below ?_ b2 | with_reducible refine SP.drew ?_ | with_reducible refine SP.drewN ?_ _ | with_reducible refine SP.alloc ?_ _))) (first | (go_at_call 22; refine (HB.out 1).mono ?_; rintro e w2 ⟨rfl, b2⟩; have ho2 := FS.below (ho.drewN 1) b2; have hb2 := bel2 (belN hb 1) b2; have hs2 := hb2.size) | ((refine step_append_own (by rfl) (.tmp 22) (.tmp 34) 25 (by rfl) w1.heap.size 37 i0 (.agg #[.int .i64 0, .int .i64 0, .int .i64 0]) 3 24 Tryz.underlying25 hi hz0 hz1 hz2 rfl (by decide) _ d _ (by rfl) (ho2.alloc _) ⟨w2.heap.size, 0, none⟩ 1 1 [.int .i64 X, .int .i64 Y, .int .i64 Z] (by rfl) rfl (new_cells _ _ _) (by simp [Value.oneCell']) (by unfold maxLen; omega) (by omega) (by simp; omega) ?_; intro v' w3 hown' hgrow hnil)))
        have hb4 : Below w1.heap.size w1 w3 := (hb2.alloc hs2 _).grown hgrow (by simp; omega) (fun g' hg' => (World.ownsRow.lt ho2 g' hg').1)
        have hrow : FS 37 3 w3 w1.heap.size v' (d + 1) (flatR (rtsL zs C d) ++ encR (X, Y, Z)) := FS.snoc hown'
        rw [← flatR_snoc, ← HN.out] at hrow
        clear q7
        go_wp2
        go_roundw
        case rel => exact ⟨m - 1, d + 1, by omega, by rw [show ((m - 1 : Nat) : Int) = (m : Int) - 1 by omega], hrow, hb4⟩
        case measure => simp [intOf]; omega
      · obtain rfl : m = 0 := by omega
        go_wp2
        go_ret2
        obtain rfl : d = L - 1 := by omega
        refine givesRB_yes rfl ?_ (bel2 hb1 hb)
        unfold RS
        rw [HR.out, rtsL_len, ← HL.out]
        exact FS.base ho hb1.size
theorem RS.parts {w : World} {B : Nat} {v : Value} {rs : List Rt} (h : RS w B v rs) : ∃ A cap, v = .slice A rs.length cap ∧ rs.length ≤ maxLen ∧ ∀ k, k < rs.length → ∃ g, A = some ⟨g, 0, none⟩ ∧ w.cell? ⟨g, k * 3, none⟩ = some (.int .i64 (rd rs k).1) ∧ w.cell? ⟨g, k * 3 + 1, none⟩ = some (.int .i64 (rd rs k).2.1) ∧ w.cell? ⟨g, k * 3 + 2, none⟩ = some (.int .i64 (rd rs k).2.2) := by
  obtain ⟨A, cap, rfl, hm, hp⟩ := FS.parts h
  refine ⟨A, cap, rfl, hm, fun k hk => ?_⟩
  obtain ⟨g, rfl, c0⟩ := hp (k * 3) (by omega)
  obtain ⟨g', hg, c1⟩ := hp (k * 3 + 1) (by omega)
  cases hg
  obtain ⟨g', hg, c2⟩ := hp (k * 3 + 2) (by omega)
  cases hg
  obtain ⟨e0, e1, e2⟩ := flatR_gd hk
  rw [e0] at c0
  rw [e1] at c1
  rw [e2] at c2
  exact ⟨g, rfl, c0, c1, c2⟩
end Go.Proofs.YtklcildhfcomnaaGreatDoor

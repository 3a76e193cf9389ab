/-
  Texts of lines, and lines of texts, of the program and of the model: what each call returns.
  Conditions: the texts are shorter than a thousand million bytes; the tables and sentinels read as the program's and the library's text lays them.
-/
import Derived.Test.YtakamboflfkchaaGreatDoorLnT
namespace Go.Proofs.YtakamboflfkchaaGreatDoor
set_option linter.unusedSimpArgs false
set_option linter.unusedVariables false
open Go.ChangeShapes Go.WideShapes Go.ChangeAt Go.RowKit
open Go.Sort (grow)

/-- A line's text and whether it is one. -/
def GivesLX (t : Tm) (w : World) (e : Ending) (w' : World) : Prop := e = .returned (.tuple #[.string ⟨(lnXR t).toArray⟩, .bool (lnB t)]) ∧ Below w.heap.size w w'
def GivesLB (t : Tm) (b : Bool) (w : World) (e : Ending) (w' : World) : Prop := e = .returned (.tuple #[tmV t, .bool b]) ∧ Below w.heap.size w w'
abbrev C4L (w : World) (g : Nat) (a b c : Int) (x : World) : Prop := w.cell? ⟨g, 0, none⟩ = some (.int .i64 a) ∧ w.cell? ⟨g, 1, none⟩ = some (.int .i64 b) ∧ w.cell? ⟨g, 2, none⟩ = some (.int .i64 c) ∧ Below x.heap.size x w
section
variable {w w' x : World} {g : Nat} {a b c : Int}
theorem C4L.new (h : T3 w g (a, b, c)) (hb : Below x.heap.size x w) : C4L w g a b c x := ⟨h.1, h.2.1, h.2.2, hb⟩
theorem C4L.below (h : C4L w g a b c x) (hb : Below w.heap.size w w') : C4L w' g a b c x :=
  ⟨(hb.cell (p := ⟨g, 0, none⟩) (cell_lt h.1)).trans h.1, (hb.cell (p := ⟨g, 1, none⟩) (cell_lt h.2.1)).trans h.2.1, (hb.cell (p := ⟨g, 2, none⟩) (cell_lt h.2.2.1)).trans h.2.2.1, bel2 h.2.2.2 hb⟩
theorem C4L.bel (h : C4L w g a b c x) : Below x.heap.size x w := h.2.2.2
theorem C4L.drew (h : C4L w g a b c x) : C4L w.drew g a b c x := ⟨h.1, h.2.1, h.2.2.1, h.2.2.2.drew⟩
theorem C4L.drewN (h : C4L w g a b c x) (n : Nat) : C4L (w.drewN n) g a b c x := ⟨h.1, h.2.1, h.2.2.1, belN h.2.2.2 n⟩
end
set_option maxHeartbeats 4000000 in
set_option maxRecDepth 100000 in
theorem lnText_any (t : Tm) (ht : lnB t = true) (w : World) : Calls Tryz.prog 31 #[tmV t] w fun e w' => Says (lnX t) w e w' := by
  obtain ⟨⟨a1, a2⟩, ⟨b1, b2⟩, c1, c2⟩ := lnB_parts ht
  obtain ⟨a, b, c⟩ := t
  dsimp only at a1 a2 b1 b2 c1 c2
  have l1 := itoa_sh a (by omega)
  have l2 := itoa_sh b (by omega)
  have l3 := itoa_sh c (by omega)
  have hX : lnX (a, b, c) = Lib.itoa a ++ [32] ++ Lib.itoa b ++ [32] ++ Lib.itoa c := rfl
  rw [hX]
  obtain ⟨G1, hG1⟩ : ∃ G : ByteArray, G = ⟨(Lib.itoa a ++ [32]).toArray⟩ := ⟨_, rfl⟩
  obtain ⟨G2, hG2⟩ : ∃ G : ByteArray, G = ⟨(Lib.itoa a ++ [32] ++ Lib.itoa b).toArray⟩ := ⟨_, rfl⟩
  obtain ⟨G3, hG3⟩ : ∃ G : ByteArray, G = ⟨(Lib.itoa a ++ [32] ++ Lib.itoa b ++ [32]).toArray⟩ := ⟨_, rfl⟩
  obtain ⟨G4, hG4⟩ : ∃ G : ByteArray, G = ⟨(Lib.itoa a ++ [32] ++ Lib.itoa b ++ [32] ++ Lib.itoa c).toArray⟩ := ⟨_, rfl⟩
  have s1 : ∀ w, (Op.stringOp .add ⟨(Lib.itoa a).toArray⟩ ⟨#[32]⟩).run Tryz.prog w = .ok (.string G1) w := fun w => add_tm (Lib.itoa a) [32] (by simp; omega) w _ _ _ rfl rfl hG1
  have s2 : ∀ w, (Op.stringOp .add G1 ⟨(Lib.itoa b).toArray⟩).run Tryz.prog w = .ok (.string G2) w := fun w => add_tm (Lib.itoa a ++ [32]) (Lib.itoa b) (by simp; omega) w _ _ _ hG1 rfl hG2
  have s3 : ∀ w, (Op.stringOp .add G2 ⟨#[32]⟩).run Tryz.prog w = .ok (.string G3) w := fun w => add_tm (Lib.itoa a ++ [32] ++ Lib.itoa b) [32] (by simp; omega) w _ _ _ hG2 rfl hG3
  have s4 : ∀ w, (Op.stringOp .add G3 ⟨(Lib.itoa c).toArray⟩).run Tryz.prog w = .ok (.string G4) w := fun w => add_tm (Lib.itoa a ++ [32] ++ Lib.itoa b ++ [32]) (Lib.itoa c) (by simp; omega) w _ _ _ hG3 rfl hG4
  have HS : Says (Lib.itoa a ++ [32] ++ Lib.itoa b ++ [32] ++ Lib.itoa c) w = fun e w' => e = .returned (.string G4) ∧ Below w.heap.size w w' := by rw [hG4]; rfl
  rw [HS]
  have hS := T3.new w (a, b, c) 24
  have hbS : Below w.heap.size w (w.alloc (.cells #[.int .i64 a, .int .i64 b, .int .i64 c] 24)) := (gr1 _ _).below
  clear HS hX hG1 hG2 hG3 hG4 l1 l2 l3 ht
  go_enter Tryz.func31, Tryz.ntmps31
  go_wp2_with fail
  go_region_held3 (fun w' => w'.cell? ⟨w.heap.size, 0, none⟩ = some (.int .i64 a) ∧ w'.cell? ⟨w.heap.size, 1, none⟩ = some (.int .i64 b) ∧ w'.cell? ⟨w.heap.size, 2, none⟩ = some (.int .i64 c) ∧ Below w.heap.size w w') (repeat' (first | with_reducible exact C4L.new hS hbS | with_reducible assumption | with_reducible refine C4L.below ?_ (by assumption) | with_reducible refine C4L.drew ?_ | with_reducible refine C4L.drewN ?_ _)) (first | (go_at_call 56; refine (l1Int_any _ (by omega) _).mono ?_; rintro e w2 ⟨rfl, b2⟩) | (fail))
  go_wp2
  go_ret
  exact ⟨rfl, C4L.bel (g := w.heap.size) (a := a) (b := b) (c := c) (by assumption)⟩
theorem specLineText_any (t : Tm) (w : World) : Calls Tryz.prog 10 #[tmV t] w fun e w' => GivesLX t w e w' := by
  have HI := Lib.hid (fun W => lnGood_any t W)
  have HX := Lib.hid (T3.new w t 24)
  cases hp : lnB t
  · have HB := Lib.hid hp
    rw [hp] at HI
    obtain ⟨a, b, c⟩ := t
    clear hp
    go_enter Tryz.func10, Tryz.ntmps10
    go_wp2_with fail
    refine (HI.out _).mono ?_
    rintro e w1 ⟨rfl, g1⟩
    go_wp2
    go_ret2
    exact ⟨ret_sbL (a := []) (lnXR_no HB.out).symm HB.out.symm, ((gr1 _ _).trans g1).below⟩
  · have HB := Lib.hid hp
    have HT := Lib.hid (fun W => lnText_any t hp W)
    rw [hp] at HI
    obtain ⟨a, b, c⟩ := t
    clear hp
    go_enter Tryz.func10, Tryz.ntmps10
    go_wp2_with fail
    refine (HI.out _).mono ?_
    rintro e w1 ⟨rfl, g1⟩
    obtain ⟨c0, c1, c2⟩ := HX.out.below g1.below
    have hl := cell_lt c0
    have HG := Lib.hid ((gr1 _ _).trans g1).below
    clear g1
    go_wp2_with fail
    refine (HT.out _).mono ?_
    rintro e w2 ⟨rfl, b2⟩
    go_wp2
    go_ret2
    exact ⟨ret_sbL (lnXR_yes HB.out).symm HB.out.symm, bel2 HG.out b2⟩
/-- Three texts in a block of the call's own. -/
def V3 (w : World) (g : Nat) (a b c : ByteArray) : Prop := (w.cell? ⟨g, 0, none⟩ = some (.string a) ∧ w.cell? ⟨g, 1, none⟩ = some (.string b) ∧ w.cell? ⟨g, 2, none⟩ = some (.string c)) ∧ w.frozen? ⟨g, 0, none⟩ = false ∧ w.frozen? ⟨g, 1, none⟩ = false ∧ w.frozen? ⟨g, 2, none⟩ = false
theorem V3.below {w w' : World} {g : Nat} {a b c : ByteArray} (h : V3 w g a b c) (hb : Below w.heap.size w w') : V3 w' g a b c := by
  obtain ⟨⟨h1, h2, h3⟩, h4, h5, h6⟩ := h
  have hg := cell_lt h1
  exact ⟨⟨(hb.cell (p := ⟨g, 0, none⟩) hg).trans h1, (hb.cell (p := ⟨g, 1, none⟩) hg).trans h2, (hb.cell (p := ⟨g, 2, none⟩) hg).trans h3⟩, (hb.frozen (p := ⟨g, 0, none⟩) hg).trans h4, (hb.frozen (p := ⟨g, 1, none⟩) hg).trans h5, (hb.frozen (p := ⟨g, 2, none⟩) hg).trans h6⟩
theorem V3.new (w : World) (a b c : ByteArray) (T : TypeId) : V3 (w.alloc (.cells #[.string a, .string b, .string c] T)) w.heap.size a b c := by
  refine ⟨⟨?_, ?_, ?_⟩, ?_, ?_, ?_⟩ <;> simp [go_sem]
theorem V3.set0 {w : World} {g : Nat} {a b c : ByteArray} (h : V3 w g a b c) (u : ByteArray) : V3 (w.setCell ⟨g, 0, none⟩ (.string u)) g u b c := by
  obtain ⟨⟨h1, h2, h3⟩, h4, h5, h6⟩ := h
  refine ⟨⟨World.cell?_setCell_same w _ _ h1, (World.cell?_setCell_other _ _ _ _ (by simp)).trans h2, (World.cell?_setCell_other _ _ _ _ (by simp)).trans h3⟩, ?_, ?_, ?_⟩
  all_goals (rw [World.frozen?_setCell]; assumption)
theorem V3.set1 {w : World} {g : Nat} {a b c : ByteArray} (h : V3 w g a b c) (u : ByteArray) : V3 (w.setCell ⟨g, 1, none⟩ (.string u)) g a u c := by
  obtain ⟨⟨h1, h2, h3⟩, h4, h5, h6⟩ := h
  refine ⟨⟨(World.cell?_setCell_other _ _ _ _ (by simp)).trans h1, World.cell?_setCell_same w _ _ h2, (World.cell?_setCell_other _ _ _ _ (by simp)).trans h3⟩, ?_, ?_, ?_⟩
  all_goals (rw [World.frozen?_setCell]; assumption)
theorem V3.set2 {w : World} {g : Nat} {a b c : ByteArray} (h : V3 w g a b c) (u : ByteArray) : V3 (w.setCell ⟨g, 2, none⟩ (.string u)) g a b u := by
  obtain ⟨⟨h1, h2, h3⟩, h4, h5, h6⟩ := h
  refine ⟨⟨(World.cell?_setCell_other _ _ _ _ (by simp)).trans h1, (World.cell?_setCell_other _ _ _ _ (by simp)).trans h2, World.cell?_setCell_same w _ _ h3⟩, ?_, ?_, ?_⟩
  all_goals (rw [World.frozen?_setCell]; assumption)
set_option maxHeartbeats 1000000 in
set_option maxRecDepth 100000 in
theorem implLineText_any (t : Tm) (hw : wfT t) (w : World) (hN : Neut w) (hS : Names w) (hP : Pows w) : Calls Tryz.prog 9 #[tmV t] w fun e w' => GivesLX t w e w' := by
  have HI := Lib.hid (fun W => implIsLine_any t hw W)
  have HC := Lib.hid (fun W => coefficientsOf_any t hw W)
  have HX := Lib.hid (T3.new w t 24)
  have HN := Lib.hid (And.intro hN (And.intro hS hP))
  clear hN hS hP hw
  cases hp : lnB t
  · have HB := Lib.hid hp
    rw [hp] at HI
    obtain ⟨a, b, c⟩ := t
    clear hp
    go_enter Tryz.func9, Tryz.ntmps9
    go_wp2_with fail
    refine (HI.out _).mono ?_
    rintro e w1 ⟨rfl, g1⟩
    go_wp2
    go_ret2
    exact ⟨ret_sbL (a := []) (lnXR_no HB.out).symm HB.out.symm, ((gr1 _ _).trans g1).below⟩
  · have HB := Lib.hid hp
    rw [hp] at HI
    obtain ⟨⟨a1, a2⟩, ⟨b1, b2⟩, c1, c2⟩ := lnB_parts hp
    obtain ⟨a, b, c⟩ := t
    dsimp only at a1 a2 b1 b2 c1 c2
    have l1 := itoa_sh a (by omega)
    have l2 := itoa_sh b (by omega)
    have l3 := itoa_sh c (by omega)
    have n1 := ntL_small (n := a) (by omega)
    have n2 := ntL_small (n := b) (by omega)
    have n3 := ntL_small (n := c) (by omega)
    have o1 : numB a = true := numB_of (.inr (by omega))
    have o2 : numB b = true := numB_of (.inr (by omega))
    have o3 : numB c = true := numB_of (.inr (by omega))
    have HX1 := Lib.hid (show lnX (a, b, c) = Lib.itoa a ++ [32] ++ Lib.itoa b ++ [32] ++ Lib.itoa c from rfl)
    have T0 := Lib.hid (fun W (h1 : Neut W) (h2 : Names W) (h3 : Pows W) => show Calls Tryz.prog 29 #[.int .i64 a] W fun e w' => e = .returned (.tuple #[.string ⟨(Lib.itoa a).toArray⟩, .bool true]) ∧ Below W.heap.size W w' by
      have := implNumberText_any a W h1 h2 h3
      unfold GivesT at this
      rwa [n1, o1] at this)
    have T1 := Lib.hid (fun W (h1 : Neut W) (h2 : Names W) (h3 : Pows W) => show Calls Tryz.prog 29 #[.int .i64 b] W fun e w' => e = .returned (.tuple #[.string ⟨(Lib.itoa b).toArray⟩, .bool true]) ∧ Below W.heap.size W w' by
      have := implNumberText_any b W h1 h2 h3
      unfold GivesT at this
      rwa [n2, o2] at this)
    have T2 := Lib.hid (fun W (h1 : Neut W) (h2 : Names W) (h3 : Pows W) => show Calls Tryz.prog 29 #[.int .i64 c] W fun e w' => e = .returned (.tuple #[.string ⟨(Lib.itoa c).toArray⟩, .bool true]) ∧ Below W.heap.size W w' by
      have := implNumberText_any c W h1 h2 h3
      unfold GivesT at this
      rwa [n3, o3] at this)
    have HJ := Lib.hid (fun (W : World) (g : Nat) h0 h1 h2 => join3 g (Lib.itoa a) (Lib.itoa b) (Lib.itoa c) (by omega) W h0 h1 h2)
    have i0 := index_v0 a b c
    have i1 := index_v1 a b c
    have i2 := index_v2 a b c
    obtain ⟨A, hA⟩ : ∃ A : ByteArray, A = ⟨(Lib.itoa a).toArray⟩ := ⟨_, rfl⟩
    obtain ⟨B, hB⟩ : ∃ A : ByteArray, A = ⟨(Lib.itoa b).toArray⟩ := ⟨_, rfl⟩
    obtain ⟨C, hC⟩ : ∃ A : ByteArray, A = ⟨(Lib.itoa c).toArray⟩ := ⟨_, rfl⟩
    rw [← hA] at T0 HJ
    rw [← hB] at T1 HJ
    rw [← hC] at T2 HJ
    clear hp a1 a2 b1 b2 c1 c2 l1 l2 l3 n1 n2 n3 o1 o2 o3 hA hB hC
    go_enter Tryz.func9, Tryz.ntmps9
    go_wp2_with fail
    refine (HI.out _).mono ?_
    rintro e w1 ⟨rfl, g1⟩
    obtain ⟨c0, c1, c2⟩ := HX.out.below g1.below
    have hl := cell_lt c0
    have B1 := Lib.hid ((gr1 _ _).trans g1).below
    clear g1
    have hv := V3.new w1 ⟨#[]⟩ ⟨#[]⟩ ⟨#[]⟩ 56
    go_wp2_with fail
    refine (HC.out _).mono ?_
    rintro e w2 ⟨rfl, g2⟩
    have B2 := Lib.hid (bel2 B1.out (bel2 (gr1 _ _).below g2.below))
    have hv2 := hv.below g2.below
    clear c0 c1 c2 hl g2 hv
    go_wp2_with fail
    refine wp_loop_rounds 4 ?_
    rw [rounds_succ]
    go_wp2_with fail
    refine (T0.out _ (HN.out.1.below B2.out) (HN.out.2.1.below B2.out) (HN.out.2.2.below B2.out)).mono ?_
    rintro e w3 ⟨rfl, b0⟩
    have hu0 := hv2.below b0
    have hs0 := hu0.set0 A
    have B3 := Lib.hid (show Below w.heap.size w (w3.setCell ⟨w1.heap.size, 0, none⟩ (.string A)) from (bel2 B2.out b0).setCell B1.out.size _)
    obtain ⟨⟨x0, x1, x2⟩, f0, f1, f2⟩ := hu0
    have xl := cell_lt x0
    clear b0 hv2
    go_wp2_with fail
    clear x0 x1 x2 f0 f1 f2 xl
    rw [rounds_succ]
    go_wp2_with fail
    refine (T1.out _ (HN.out.1.below B3.out) (HN.out.2.1.below B3.out) (HN.out.2.2.below B3.out)).mono ?_
    rintro e w4 ⟨rfl, b1⟩
    have hu1 := hs0.below b1
    have hs1 := hu1.set1 B
    have B4 := Lib.hid (show Below w.heap.size w (w4.setCell ⟨w1.heap.size, 1, none⟩ (.string B)) from (bel2 B3.out b1).setCell B1.out.size _)
    obtain ⟨⟨x0, x1, x2⟩, f0, f1, f2⟩ := hu1
    have xl := cell_lt x0
    clear b1 hs0
    go_wp2_with fail
    clear x0 x1 x2 f0 f1 f2 xl
    rw [rounds_succ]
    go_wp2_with fail
    refine (T2.out _ (HN.out.1.below B4.out) (HN.out.2.1.below B4.out) (HN.out.2.2.below B4.out)).mono ?_
    rintro e w5 ⟨rfl, b2⟩
    have hu2 := hs1.below b2
    have hs2 := hu2.set2 C
    have B5 := Lib.hid (show Below w.heap.size w (w5.setCell ⟨w1.heap.size, 2, none⟩ (.string C)) from (bel2 B4.out b2).setCell B1.out.size _)
    obtain ⟨⟨x0, x1, x2⟩, f0, f1, f2⟩ := hu2
    have xl := cell_lt x0
    clear b2 hs1
    go_wp2_with fail
    clear x0 x1 x2 f0 f1 f2 xl
    rw [rounds_succ]
    go_wp2_with fail
    refine (HJ.out _ _ hs2.1.1 hs2.1.2.1 hs2.1.2.2).mono ?_
    rintro e w9 ⟨rfl, b9⟩
    go_wp2
    go_ret2
    exact ⟨ret_sbL (by rw [lnXR_yes HB.out, HX1.out]; simp) HB.out.symm, bel2 B5.out b9⟩
/-- The numbers of which these are the texts. -/
def pvL (ps : List ByteArray) : List Int := ps.map fun p => pnV p.data.toList
theorem pvL_len (ps : List ByteArray) : (pvL ps).length = ps.length := by simp [pvL]
theorem pvL_gd (ps : List ByteArray) (k : Nat) (hk : k < ps.length) : gd (pvL ps) k = pnV ps[k].data.toList := by
  rw [gd_eq _ k (by rw [pvL_len]; exact hk)]; simp [pvL]
theorem pvL_map {ps : List ByteArray} {qs : List (List UInt8)} (h : ps.map (·.data.toList) = qs) : pvL ps = qs.map pnV := by rw [← h, List.map_map]; rfl
theorem allL_of {ps : List ByteArray} {qs : List (List UInt8)} (h : ps.map (·.data.toList) = qs) (ha : ∀ j (hj : j < ps.length), okPs ps[j].data.toList = true) : qs.all okPs = true := by
  rw [← h, List.all_eq_true]
  intro x hx
  obtain ⟨p, hp, rfl⟩ := List.mem_map.1 hx
  obtain ⟨j, hj, rfl⟩ := List.getElem_of_mem hp
  exact ha j hj
theorem notL_of {ps : List ByteArray} {qs : List (List UInt8)} (h : ps.map (·.data.toList) = qs) (k : Nat) (hk : k < ps.length) (ho : okPs ps[k].data.toList = false) : qs.all okPs = false := by
  rw [← h, List.all_eq_false]
  exact ⟨ps[k].data.toList, List.mem_map.2 ⟨_, List.getElem_mem hk, rfl⟩, by simp [ho]⟩
theorem T3.upd {w : World} {g : Nat} {s t : Tm} (h : B3 w g s) : T3 (((w.setCell ⟨g, 0, none⟩ (.int .i64 t.1)).setCell ⟨g, 1, none⟩ (.int .i64 t.2.1)).setCell ⟨g, 2, none⟩ (.int .i64 t.2.2)) g t := T3.stores h.1 t
set_option maxHeartbeats 4000000 in
set_option maxRecDepth 100000 in
theorem specParseLine_any (s : ByteArray) (w : World) (hs : s.size ≤ 1000000000) : Calls Tryz.prog 18 #[.string s] w fun e w' => GivesLB (lpR s.data.toList) (lpB s.data.toList) w e w' := by
  obtain ⟨i0, hi, hz0, hz1, hz2⟩ := info_parts infoInt
  have HZ := Lib.hid (B3.new w (0, 0, 0) 24)
  have B0 := Lib.hid (show Below w.heap.size w (w.alloc (.cells #[.int .i64 0, .int .i64 0, .int .i64 0] 24)) from (gr1 _ _).below)
  go_enter Tryz.func18, Tryz.ntmps18
  go_wp2_with fail
  refine (l1Split_any s 32 _ hs).mono ?_
  rintro e w1 ⟨v, ps, rfl, hts, hps, b1⟩
  have HPS := Lib.hid hps
  have HLEN := Lib.hid (show ps.length = (blL s.data.toList).length by rw [show blL s.data.toList = ps.map (·.data.toList) from hps.symm]; simp)
  have HZ1 := Lib.hid (HZ.out.below b1)
  have B1 := Lib.hid (bel2 B0.out b1)
  obtain ⟨A, cap, rfl, hpt⟩ := hts.parts
  have HP := Lib.hid hpt
  clear hts hps hpt b1
  go_wp2_with fail
  go_loopw [4, 13] (fun o i wr => ∃ k : Nat, k ≤ ps.length ∧ i = .int .i64 k ∧ IS wr w1.heap.size o ((pvL ps).take k) ∧ Below w1.heap.size w1 wr ∧ Hid (∀ j (hj : j < ps.length), j < k → okPs ps[j].data.toList = true)) (fun _ i _ => ps.length - (intOf i).toNat)
  case atStart => exact ⟨0, by omega, rfl, IS.nil_ _ _, Below.refl _ _, Lib.hid fun j _ h => by omega⟩
  case round =>
    obtain ⟨k, hk, rfl, ho, hb, hall⟩ := hrel
    by_cases hlt : k < ps.length
    · obtain ⟨g, rfl, -, hc0, -⟩ := HP.out k hlt
      have hc := (hb.cell (p := ⟨g, k, none⟩) (cell_lt hc0)).trans hc0
      have hsz := pc_sizes (s := s) HPS.out ps[k] (List.getElem_mem hlt)
      obtain ⟨p, hp⟩ : ∃ p, ps[k] = p := ⟨_, rfl⟩
      rw [hp] at hc hsz
      have HPK := Lib.hid hp
      clear hc0 hp
      go_wp2_with fail
      refine (nuParse_any p _ (by omega)).mono ?_
      rintro e w2 ⟨rfl, b2⟩
      have ho2 := ho.below b2
      have hb2 := bel2 hb b2
      clear ho hb b2 hc
      cases hq : okPs p.data.toList
      · have HNO := Lib.hid (lp_bad (l := s.data.toList) (notL_of HPS.out k hlt (by rw [HPK.out]; exact hq)))
        have hk3 := HZ1.out.below hb2
        have HK := Lib.hid hk3
        obtain ⟨⟨c0, c1, c2⟩, f0, f1, f2⟩ := hk3
        have hl := cell_lt c0
        have BB := Lib.hid (bel2 B1.out hb2)
        clear ho2 hb2
        go_wp2
        refine bodyPost_ret (T3.resultsL (t := (0, 0, 0)) (g := w.heap.size) (T3.stores (s := (0, 0, 0)) HK.out.1 (0, 0, 0)) rfl rfl rfl) rfl ⟨ret_tb (lpR_no HNO.out).symm HNO.out.symm, ?_⟩
        exact bel3L BB.out (Nat.le_refl _) _ _ _
      · have HG := Lib.hid (show gd (pvL ps) k = pnV p.data.toList by rw [pvL_gd ps k hlt, HPK.out])
        have HTS := Lib.hid (take_succ_gd (pvL ps) k (by rw [pvL_len]; exact hlt))
        have HLn := Lib.hid (show ((pvL ps).take k).length = k by rw [List.length_take, pvL_len]; omega)
        have HOK := Lib.hid hq
        have hpl : ps.length ≤ s.size + 1 := by
          have h1 := spB_count 32 s.data.toList []
          rw [size_lst] at h1
          have h2 : ps.length = (sp 32 [] s.data.toList).length := HLEN.out
          omega
        have ho' : w2.ownsRow w1.heap.size 3 1 u4 k (ints ((pvL ps).take k)) := by have := ho2; unfold IS at this; rwa [HLn.out] at this
        clear hq
        go_wp2_with (at_builtin; refine wpList_append_own _ rfl _ _ 61 rfl w1.heap.size 3 i0 (.int .i64 0) 1 8 Tryz.underlying61 hi hz0 hz1 hz2 rfl (by decide) _ _ _ rfl (ho'.alloc _) ⟨w2.heap.size, 0, none⟩ 1 1 [.int .i64 (pnV p.data.toList)] rfl rfl (one_new _ _) (by simp [Value.oneCell']) (by unfold maxLen; omega) (by omega) (by have := hb2.size; simp; omega) ?_; intro v' w3 hown' hgrow hnil)
        have hb' : Below w1.heap.size w1 w3 := (hb2.alloc hb2.size _).grown hgrow (by have := hb2.size; simp; omega) (fun g' hg' => (World.ownsRow.lt ho' g' hg').1)
        have hrow := IS.snoc HLn.out.symm hown'
        rw [← HG.out, ← HTS.out] at hrow
        go_wp2
        go_roundw
        case rel => exact ⟨k + 1, by omega, by go_num, hrow, hb', Lib.hid fun j hj hjk => by
          by_cases e : j = k
          · subst e; rw [HPK.out]; exact HOK.out
          · exact hall.out j hj (by omega)⟩
        case measure => simp [intOf]; omega
    · have hk' : (pvL ps).take k = pvL ps := List.take_of_length_le (by rw [pvL_len]; omega)
      rw [hk'] at ho
      have HALL := Lib.hid (allL_of HPS.out fun j hj => hall.out j hj (by omega))
      have HIN := Lib.hid (pvL_map HPS.out)
      obtain ⟨A', cap', he9, hm', hp'⟩ := ho.parts
      have HPP := Lib.hid hp'
      rw [pvL_len] at hm' he9
      subst he9
      have hk3 := HZ1.out.below hb
      have HK := Lib.hid hk3
      have BB := Lib.hid (bel2 B1.out hb)
      clear hp' ho hall hk'
      by_cases h3 : ps.length = 3
      · have HL3 := Lib.hid (lp_is (l := s.data.toList) (by rw [← HLEN.out]; exact h3) HALL.out)
        obtain ⟨x, y, z, hxyz⟩ : ∃ x y z, lpT s.data.toList = (x, y, z) := ⟨_, _, _, rfl⟩
        have hgd : gd (pvL ps) 0 = x ∧ gd (pvL ps) 1 = y ∧ gd (pvL ps) 2 = z := by
          have h := hxyz
          unfold lpT at h
          rw [show (blL s.data.toList).map pnV = pvL ps from HIN.out.symm] at h
          exact ⟨congrArg (·.1) h, congrArg (·.2.1) h, congrArg (·.2.2) h⟩
        obtain ⟨g, rfl, e0⟩ := HPP.out 0 (by rw [pvL_len]; omega)
        obtain ⟨g', he, e1⟩ := HPP.out 1 (by rw [pvL_len]; omega)
        cases he
        obtain ⟨g', he, e2⟩ := HPP.out 2 (by rw [pvL_len]; omega)
        cases he
        rw [hgd.1] at e0
        rw [hgd.2.1] at e1
        rw [hgd.2.2] at e2
        have hlg := cell_lt e0
        have HI := Lib.hid (fun W => lnGood_any (x, y, z) W)
        have HXT := Lib.hid (fun h W => show Calls Tryz.prog 31 #[tmV (x, y, z)] W fun e w' => e = .returned (.string s) ∧ Below W.heap.size W w' by
          have hb9 := lp_back (l := s.data.toList) (HL3.out.1.trans (by rw [hxyz]; exact h))
          rw [hxyz] at hb9
          have := lnText_any (x, y, z) h W
          unfold Says at this
          rw [hb9] at this
          rwa [show (⟨s.data.toList.toArray⟩ : ByteArray) = s from by simp] at this)
        have HR := Lib.hid (show lpB s.data.toList = lnB (x, y, z) ∧ lpR s.data.toList = lnR (x, y, z) by rw [← hxyz]; exact HL3.out)
        have hn3 : ((ps.length : Int) == 3) = true := by simp; omega
        clear hgd hxyz HL3 hm' hk3
        have z0 : (0 : Int) < (ps.length : Int) := by omega
        have z1 : (1 : Int) < (ps.length : Int) := by omega
        have z2 : (2 : Int) < (ps.length : Int) := by omega
        have y0 : 0 < ps.length := by omega
        have y1 : 1 < ps.length := by omega
        have y2 : 2 < ps.length := by omega
        have hS := T3.new wr (x, y, z) 24
        have hS2 : T3 ((wr.alloc (.cells #[.int .i64 x, .int .i64 y, .int .i64 z] 24)).drew) wr.heap.size (x, y, z) := hS
        have hW2 : Below wr.heap.size wr ((wr.alloc (.cells #[.int .i64 x, .int .i64 y, .int .i64 z] 24)).drew) := ((Below.refl _ _).alloc (Nat.le_refl _) _).drew
        go_wp2_with fail
        go_region
        clear hS e0 e1 e2 hlg z0 z1 z2 y0 y1 y2 hn3
        generalize (wr.alloc (.cells #[.int .i64 x, .int .i64 y, .int .i64 z] 24)).drew = W2 at hS2 hW2 ⊢
        have HS := Lib.hid hS2
        have HK2 := Lib.hid (HK.out.below hW2)
        have BB2 := Lib.hid (bel2 BB.out hW2)
        obtain ⟨c0, c1, c2⟩ := hS2
        have hl := cell_lt c0
        clear hW2 hb h3
        cases hq : lnB (x, y, z)
        · rw [hq] at HI
          have hk3 := HK2.out
          have HF := Lib.hid hq
          clear hq
          go_wp2_with fail
          refine (HI.out _).mono ?_
          rintro e w3 ⟨rfl, g3⟩
          have hk4 := hk3.below g3.below
          have HK4 := Lib.hid hk4
          obtain ⟨⟨d0, d1, d2⟩, f0, f1, f2⟩ := hk4
          have hl' := cell_lt d0
          have BB3 := Lib.hid (bel2 BB2.out g3.below)
          clear g3 hk3 c0 c1 c2 hl
          go_wp2
          refine bodyPost_ret (T3.resultsL (t := (0, 0, 0)) (g := w.heap.size) (T3.stores (s := (0, 0, 0)) HK4.out.1 (0, 0, 0)) rfl rfl rfl) rfl ⟨ret_tb (by rw [HR.out.2, lnR_no HF.out]) (by rw [HR.out.1, HF.out]), ?_⟩
          exact bel3L BB3.out (Nat.le_refl _) _ _ _
        · have HXT2 := Lib.hid (HXT.out hq)
          rw [hq] at HI
          have HF := Lib.hid hq
          clear hq
          go_wp2_with fail
          refine (HI.out _).mono ?_
          rintro e w3 ⟨rfl, g3⟩
          clear c0 c1 c2 hl
          have hk4 := HS.out.below g3.below
          obtain ⟨c0, c1, c2⟩ := hk4
          have hl := cell_lt c0
          have HS3 := Lib.hid (HS.out.below g3.below)
          have HK3 := Lib.hid (HK2.out.below g3.below)
          have BB3 := Lib.hid (bel2 BB2.out g3.below)
          clear g3
          go_wp2_with fail
          refine (HXT2.out _).mono ?_
          rintro e w4 ⟨rfl, b4⟩
          clear c0 c1 c2 hl
          have hk5 := HS3.out.below b4
          obtain ⟨c0, c1, c2⟩ := hk5
          have hl := cell_lt c0
          have hk6 := HK3.out.below b4
          have HK6 := Lib.hid hk6
          obtain ⟨⟨d0, d1, d2⟩, f0, f1, f2⟩ := hk6
          have hl' := cell_lt d0
          have BB4 := Lib.hid (bel2 BB3.out b4)
          clear b4
          go_wp2
          refine bodyPost_ret (T3.resultsL (t := (x, y, z)) (g := w.heap.size) (T3.stores (s := (0, 0, 0)) HK6.out.1 (x, y, z)) rfl rfl rfl) rfl ⟨ret_tb (by rw [HR.out.2, lnR_yes HF.out]) (by rw [HR.out.1, HF.out]), ?_⟩
          exact bel3L BB4.out (Nat.le_refl _) _ _ _
      · have HNO := Lib.hid (lp_short (l := s.data.toList) (by rw [← HLEN.out]; exact h3))
        have hn3 : ((ps.length : Int) == 3) = false := by simp; omega
        obtain ⟨⟨c0, c1, c2⟩, f0, f1, f2⟩ := hk3
        have hl := cell_lt c0
        clear hb
        go_wp2
        refine bodyPost_ret (T3.resultsL (t := (0, 0, 0)) (g := w.heap.size) (T3.stores (s := (0, 0, 0)) HK.out.1 (0, 0, 0)) rfl rfl rfl) rfl ⟨ret_tb (lpR_no HNO.out).symm HNO.out.symm, ?_⟩
        exact bel3L BB.out (Nat.le_refl _) _ _ _
theorem B3.set0 {w : World} {g : Nat} {a b c : Int} (h : B3 w g (a, b, c)) (u : Int) : B3 (w.setCell ⟨g, 0, none⟩ (.int .i64 u)) g (u, b, c) := by
  obtain ⟨⟨h1, h2, h3⟩, h4, h5, h6⟩ := h
  refine ⟨⟨World.cell?_setCell_same w _ _ h1, (World.cell?_setCell_other _ _ _ _ (by simp)).trans h2, (World.cell?_setCell_other _ _ _ _ (by simp)).trans h3⟩, ?_, ?_, ?_⟩
  all_goals (rw [World.frozen?_setCell]; assumption)
theorem B3.set1 {w : World} {g : Nat} {a b c : Int} (h : B3 w g (a, b, c)) (u : Int) : B3 (w.setCell ⟨g, 1, none⟩ (.int .i64 u)) g (a, u, c) := by
  obtain ⟨⟨h1, h2, h3⟩, h4, h5, h6⟩ := h
  refine ⟨⟨(World.cell?_setCell_other _ _ _ _ (by simp)).trans h1, World.cell?_setCell_same w _ _ h2, (World.cell?_setCell_other _ _ _ _ (by simp)).trans h3⟩, ?_, ?_, ?_⟩
  all_goals (rw [World.frozen?_setCell]; assumption)
theorem B3.set2 {w : World} {g : Nat} {a b c : Int} (h : B3 w g (a, b, c)) (u : Int) : B3 (w.setCell ⟨g, 2, none⟩ (.int .i64 u)) g (a, b, u) := by
  obtain ⟨⟨h1, h2, h3⟩, h4, h5, h6⟩ := h
  refine ⟨⟨(World.cell?_setCell_other _ _ _ _ (by simp)).trans h1, (World.cell?_setCell_other _ _ _ _ (by simp)).trans h2, World.cell?_setCell_same w _ _ h3⟩, ?_, ?_, ?_⟩
  all_goals (rw [World.frozen?_setCell]; assumption)
theorem ok_wrap {l : List UInt8} (h : okPs l = true) : IntKind.i64.wrap (pnV l) = pnV l := by
  have h1 : numB (pnV l) = true := by unfold pnV; rw [if_pos h]; exact (okP_parts h).1
  have := numB_bd h1
  exact IntWalk.i64_in _ (by omega)
set_option maxHeartbeats 4000000 in
set_option maxRecDepth 100000 in
theorem implParseLine_any (s : ByteArray) (w : World) (hs : s.size ≤ 1000000000) (hN : Neut w) (hS : Names w) (hP : Pows w) (hE : Sents w) (hM : MaxM w) : Calls Tryz.prog 13 #[.string s] w fun e w' => GivesLB (lpR s.data.toList) (lpB s.data.toList) w e w' := by
  have HN := Lib.hid (And.intro hN (And.intro hS (And.intro hP hE)))
  have HZ := Lib.hid (B3.new w (0, 0, 0) 24)
  have B0 := Lib.hid (show Below w.heap.size w (w.alloc (.cells #[.int .i64 0, .int .i64 0, .int .i64 0] 24)) from (gr1 _ _).below)
  have hM0 := hM.below B0.out
  clear hN hS hP hE hM
  go_enter Tryz.func13, Tryz.ntmps13
  go_wp2_with fail
  refine (splitN_4 s _ hs hM0).mono ?_
  rintro e w1 ⟨g, c, ps, rfl, hpt, HPS, h4, b1⟩
  have HP := Lib.hid hpt
  have HZ1 := Lib.hid (HZ.out.below b1)
  have B1 := Lib.hid (bel2 B0.out b1)
  clear hpt hM0 b1
  by_cases h3 : ps.length = 3
  · have hsk : sk4 s.data.toList = blL s.data.toList := sk4_three (by rw [← HPS.out]; simpa using h3)
    have HQ := Lib.hid (show ps.map (·.data.toList) = blL s.data.toList by rw [← hsk]; exact HPS.out)
    have HL := Lib.hid (show (blL s.data.toList).length = 3 by rw [← HQ.out]; simpa using h3)
    obtain ⟨p0, p1, p2, hp⟩ := three_of h3
    subst hp
    have hz : ∀ p ∈ [p0, p1, p2], p.size ≤ s.size := pc_sizes HQ.out
    have hs0 := hz p0 (by simp)
    have hs1 := hz p1 (by simp)
    have hs2 := hz p2 (by simp)
    have x0 := HP.out 0 (by simp)
    have x1 := HP.out 1 (by simp)
    have x2 := HP.out 2 (by simp)
    simp only [List.getElem_cons_zero, List.getElem_cons_succ] at x0 x1 x2
    have hT : lpT s.data.toList = (pnV p0.data.toList, pnV p1.data.toList, pnV p2.data.toList) := by
      unfold lpT
      rw [show blL s.data.toList = [p0.data.toList, p1.data.toList, p2.data.toList] from HQ.out.symm]
      rfl
    have HT := Lib.hid hT
    have HA : ∀ P : Prop, (okPs p0.data.toList = true → okPs p1.data.toList = true → okPs p2.data.toList = true → P) ∨ True := fun _ => .inr trivial
    clear HA
    have HAll := Lib.hid (show (blL s.data.toList).all okPs = (okPs p0.data.toList && (okPs p1.data.toList && okPs p2.data.toList)) by
      rw [show blL s.data.toList = [p0.data.toList, p1.data.toList, p2.data.toList] from HQ.out.symm]
      simp)
    have TX0 := Lib.hid (x0)
    have TX1 := Lib.hid (x1)
    have TX2 := Lib.hid (x2)
    have xl := cell_lt x0
    have hB := B3.new w1 (0, 0, 0) 52
    have b2 : Below w1.heap.size w1 (w1.alloc (.cells #[.int .i64 0, .int .i64 0, .int .i64 0] 52)) := (gr1 _ _).below
    have HB2 := Lib.hid b2
    have y0 := box_o TX0.out b2
    have y1 := box_o TX1.out b2
    have y2 := box_o TX2.out b2
    clear hT hz h3 b2 x0 x1 x2
    go_wp2_with fail
    have HZX := Lib.hid (HZ1.out.below HB2.out)
    have BX := Lib.hid (bel2 B1.out HB2.out)
    have HR := Lib.hid (show ∀ a b c : Bool, okPs p0.data.toList = a → okPs p1.data.toList = b → okPs p2.data.toList = c → (blL s.data.toList).all okPs = (a && (b && c)) from fun a b c h1 h2 h3 => by rw [HAll.out, h1, h2, h3])
    generalize w1.alloc (.cells #[.int .i64 0, .int .i64 0, .int .i64 0] 52) = X at hB HB2 y0 y1 y2 HZX BX ⊢
    refine wp_loop_rounds 4 ?_
    rw [rounds_succ]
    cases hq0 : okPs p0.data.toList
    · have HQ0 := Lib.hid hq0
      have yl0 := cell_lt y0
      clear hq0
      go_wp2_with fail
      refine (implParseNumber_any p0 _ (by omega) (HN.out.1.below BX.out) (HN.out.2.1.below BX.out) (HN.out.2.2.1.below BX.out) (HN.out.2.2.2.below BX.out)).mono ?_
      rintro e W0 ⟨rfl, b0⟩
      rw [HQ0.out]
      have HNO := Lib.hid (lp_bad (l := s.data.toList) (by rw [HAll.out, HQ0.out]; simp))
      have hk3 := HZX.out.below b0
      have HK := Lib.hid hk3
      obtain ⟨⟨c0, c1, c2⟩, f0, f1, f2⟩ := hk3
      have hl := cell_lt c0
      have BB := Lib.hid (bel2 BX.out b0)
      clear b0
      go_wp2
      refine bodyPost_ret (T3.resultsL (t := (0, 0, 0)) (g := w.heap.size) (T3.stores (s := (0, 0, 0)) HK.out.1 (0, 0, 0)) rfl rfl rfl) rfl ⟨ret_tb (lpR_no HNO.out).symm HNO.out.symm, ?_⟩
      exact bel3L BB.out (Nat.le_refl _) _ _ _
    · have HQ0 := Lib.hid hq0
      have yl0 := cell_lt y0
      clear hq0
      go_wp2_with fail
      refine (implParseNumber_any p0 _ (by omega) (HN.out.1.below BX.out) (HN.out.2.1.below BX.out) (HN.out.2.2.1.below BX.out) (HN.out.2.2.2.below BX.out)).mono ?_
      rintro e W0 ⟨rfl, b0⟩
      rw [HQ0.out]
      have ha0 := hB.below b0
      have hB0 := ha0.set0 (pnV p0.data.toList)
      have yb0 : Below w1.heap.size w1 (W0.setCell ⟨w1.heap.size, 0, none⟩ (.int .i64 (pnV p0.data.toList))) := (bel2 HB2.out b0).setCell (Nat.le_refl _) _
      have YB0 := Lib.hid yb0
      obtain ⟨⟨c0, c1, c2⟩, f0, f1, f2⟩ := ha0
      have hl := cell_lt c0
      have BX0 := Lib.hid (bel2 B1.out yb0)
      have HZ0x := Lib.hid (HZ1.out.below yb0)
      clear b0 yb0 hB
      go_wp2_with fail
      clear c0 c1 c2 f0 f1 f2 hl y0 y1 y2
      have y0 := box_o TX0.out YB0.out
      have y1 := box_o TX1.out YB0.out
      have y2 := box_o TX2.out YB0.out
      rw [rounds_succ]
      cases hq1 : okPs p1.data.toList
      · have HQ1 := Lib.hid hq1
        have yl1 := cell_lt y1
        clear hq1
        go_wp2_with fail
        refine (implParseNumber_any p1 _ (by omega) (HN.out.1.below BX0.out) (HN.out.2.1.below BX0.out) (HN.out.2.2.1.below BX0.out) (HN.out.2.2.2.below BX0.out)).mono ?_
        rintro e W1 ⟨rfl, b1⟩
        rw [HQ1.out]
        have HNO := Lib.hid (lp_bad (l := s.data.toList) (by rw [HAll.out, HQ1.out]; simp))
        have hk3 := HZ0x.out.below b1
        have HK := Lib.hid hk3
        obtain ⟨⟨c0, c1, c2⟩, f0, f1, f2⟩ := hk3
        have hl := cell_lt c0
        have BB := Lib.hid (bel2 BX0.out b1)
        clear b1
        go_wp2
        refine bodyPost_ret (T3.resultsL (t := (0, 0, 0)) (g := w.heap.size) (T3.stores (s := (0, 0, 0)) HK.out.1 (0, 0, 0)) rfl rfl rfl) rfl ⟨ret_tb (lpR_no HNO.out).symm HNO.out.symm, ?_⟩
        exact bel3L BB.out (Nat.le_refl _) _ _ _
      · have HQ1 := Lib.hid hq1
        have yl1 := cell_lt y1
        clear hq1
        go_wp2_with fail
        refine (implParseNumber_any p1 _ (by omega) (HN.out.1.below BX0.out) (HN.out.2.1.below BX0.out) (HN.out.2.2.1.below BX0.out) (HN.out.2.2.2.below BX0.out)).mono ?_
        rintro e W1 ⟨rfl, b1⟩
        rw [HQ1.out]
        have ha1 := hB0.below b1
        have hB1 := ha1.set1 (pnV p1.data.toList)
        have yb1 : Below w1.heap.size w1 (W1.setCell ⟨w1.heap.size, 1, none⟩ (.int .i64 (pnV p1.data.toList))) := (bel2 YB0.out b1).setCell (Nat.le_refl _) _
        have YB1 := Lib.hid yb1
        obtain ⟨⟨c0, c1, c2⟩, f0, f1, f2⟩ := ha1
        have hl := cell_lt c0
        have BX1 := Lib.hid (bel2 B1.out yb1)
        have HZ1x := Lib.hid (HZ1.out.below yb1)
        clear b1 yb1 hB0
        go_wp2_with fail
        clear c0 c1 c2 f0 f1 f2 hl y0 y1 y2
        have y0 := box_o TX0.out YB1.out
        have y1 := box_o TX1.out YB1.out
        have y2 := box_o TX2.out YB1.out
        rw [rounds_succ]
        cases hq2 : okPs p2.data.toList
        · have HQ2 := Lib.hid hq2
          have yl2 := cell_lt y2
          clear hq2
          go_wp2_with fail
          refine (implParseNumber_any p2 _ (by omega) (HN.out.1.below BX1.out) (HN.out.2.1.below BX1.out) (HN.out.2.2.1.below BX1.out) (HN.out.2.2.2.below BX1.out)).mono ?_
          rintro e W2 ⟨rfl, b2⟩
          rw [HQ2.out]
          have HNO := Lib.hid (lp_bad (l := s.data.toList) (by rw [HAll.out, HQ2.out]; simp))
          have hk3 := HZ1x.out.below b2
          have HK := Lib.hid hk3
          obtain ⟨⟨c0, c1, c2⟩, f0, f1, f2⟩ := hk3
          have hl := cell_lt c0
          have BB := Lib.hid (bel2 BX1.out b2)
          clear b2
          go_wp2
          refine bodyPost_ret (T3.resultsL (t := (0, 0, 0)) (g := w.heap.size) (T3.stores (s := (0, 0, 0)) HK.out.1 (0, 0, 0)) rfl rfl rfl) rfl ⟨ret_tb (lpR_no HNO.out).symm HNO.out.symm, ?_⟩
          exact bel3L BB.out (Nat.le_refl _) _ _ _
        · have HQ2 := Lib.hid hq2
          have yl2 := cell_lt y2
          clear hq2
          go_wp2_with fail
          refine (implParseNumber_any p2 _ (by omega) (HN.out.1.below BX1.out) (HN.out.2.1.below BX1.out) (HN.out.2.2.1.below BX1.out) (HN.out.2.2.2.below BX1.out)).mono ?_
          rintro e W2 ⟨rfl, b2⟩
          rw [HQ2.out]
          have ha2 := hB1.below b2
          have hB2 := ha2.set2 (pnV p2.data.toList)
          have yb2 : Below w1.heap.size w1 (W2.setCell ⟨w1.heap.size, 2, none⟩ (.int .i64 (pnV p2.data.toList))) := (bel2 YB1.out b2).setCell (Nat.le_refl _) _
          have YB2 := Lib.hid yb2
          obtain ⟨⟨c0, c1, c2⟩, f0, f1, f2⟩ := ha2
          have hl := cell_lt c0
          have BX2 := Lib.hid (bel2 B1.out yb2)
          have HZ2x := Lib.hid (HZ1.out.below yb2)
          clear b2 yb2 hB1
          go_wp2_with fail
          clear c0 c1 c2 f0 f1 f2 hl y0 y1 y2
          have y0 := box_o TX0.out YB2.out
          have y1 := box_o TX1.out YB2.out
          have y2 := box_o TX2.out YB2.out
          rw [rounds_succ]
          have HV := Lib.hid (lp_is (l := s.data.toList) HL.out (by rw [HAll.out, HQ0.out, HQ1.out, HQ2.out]; rfl))
          have HI := Lib.hid (fun W => lineOrNone_any (pnV p0.data.toList, pnV p1.data.toList, pnV p2.data.toList) ⟨ok_wrap HQ0.out, ok_wrap HQ1.out⟩ W)
          have HRR := Lib.hid (show lpB s.data.toList = lnB (pnV p0.data.toList, pnV p1.data.toList, pnV p2.data.toList) ∧ lpR s.data.toList = lnR (pnV p0.data.toList, pnV p1.data.toList, pnV p2.data.toList) by rw [← HT.out]; exact HV.out)
          obtain ⟨t, ht⟩ : ∃ t, t = lnR (pnV p0.data.toList, pnV p1.data.toList, pnV p2.data.toList) := ⟨_, rfl⟩
          obtain ⟨p, hp⟩ : ∃ p, p = lnB (pnV p0.data.toList, pnV p1.data.toList, pnV p2.data.toList) := ⟨_, rfl⟩
          rw [← ht, ← hp] at HI
          rw [← ht, ← hp] at HRR
          obtain ⟨c0, c1, c2⟩ := hB2.1
          have hl := cell_lt c0
          clear ht hp
          go_wp2_with fail
          refine (HI.out _).mono ?_
          rintro e w9 ⟨rfl, g9⟩
          have hk3 := HZ2x.out.below g9.below
          have HK := Lib.hid hk3
          obtain ⟨⟨d0, d1, d2⟩, f0, f1, f2⟩ := hk3
          have hl' := cell_lt d0
          have BB := Lib.hid (bel2 BX2.out g9.below)
          clear g9 c0 c1 c2 hl y0 y1 y2
          go_wp2
          refine bodyPost_ret (T3.resultsL (t := t) (g := w.heap.size) (T3.stores (s := (0, 0, 0)) HK.out.1 t) rfl rfl rfl) rfl ⟨ret_tb HRR.out.2.symm HRR.out.1.symm, ?_⟩
          exact bel3L BB.out (Nat.le_refl _) _ _ _
  · have hn : ¬ (blL s.data.toList).length = 3 := fun h => h3 (by
      have h1 := sk4_of h
      have h2 : (ps.map (·.data.toList)).length = 3 := by rw [HPS.out, h1]; exact h
      simpa using h2)
    have HNO := Lib.hid (lp_short hn)
    have hn3 : ((ps.length : Int) == 3) = false := by simp; omega
    have hk3 := HZ1.out
    have HK := Lib.hid hk3
    obtain ⟨⟨c0, c1, c2⟩, f0, f1, f2⟩ := hk3
    have hl := cell_lt c0
    clear hn
    go_wp2
    refine bodyPost_ret (T3.resultsL (t := (0, 0, 0)) (g := w.heap.size) (T3.stores (s := (0, 0, 0)) HK.out.1 (0, 0, 0)) rfl rfl rfl) rfl ⟨ret_tb (lpR_no HNO.out).symm HNO.out.symm, ?_⟩
    exact bel3L B1.out (Nat.le_refl _) _ _ _
end Go.Proofs.YtakamboflfkchaaGreatDoor

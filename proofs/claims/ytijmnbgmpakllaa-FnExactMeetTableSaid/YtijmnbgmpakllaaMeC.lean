import Derived.Test.YtijmnbgmpakllaaMeP
/-
  Counts and degrees of balanced stars in the model.
  Condition: the slices read as the lists that are named.
-/
namespace Go.Proofs.Ytijmnbgmpakllaa
set_option linter.unusedSimpArgs false
set_option linter.unusedVariables false
open Go.ChangeShapes Go.WideShapes Go.ChangeAt Go.RowKit
open Go.Sort (grow)

theorem baB_ry {l : List Tm} (h : baB l = true) : ryB l = true := by
  cases hq : ryB l
  · rw [baB_no hq] at h; cases h
  · rfl
theorem mvM_1000 : mvM 1000 1 = true := by decide
theorem meC_bd {a b : List Tm} (ha : ryB a = true) (hb : ryB b = true) : 0 ≤ meC a b ∧ meC a b ≤ 32000000 := meS_bd ha hb 1000 1
theorem meD_bd {a : List Tm} (ha : ryB a = true) : 0 ≤ meD a ∧ meD a ≤ 32000000 := meC_bd ha liR_good
theorem mul_deg {x y : Int} (hx : 0 ≤ x ∧ x ≤ 32000000) (hy : 0 ≤ y ∧ y ≤ 32000000) : 0 ≤ x * y ∧ x * y ≤ 1024000000000000 := by
  have h1 := Int.mul_nonneg hx.1 hy.1
  have h2 := Int.mul_nonneg (show 0 ≤ 32000000 - x by omega) hy.1
  rw [Int.sub_mul] at h2
  omega
/-- Are both balanced stars; what the functions answer. -/
def twS (a b : List Tm) : Bool := baB a && baB b
def okI (g : Bool) (v : Int) : Int := if g = true then v else 0
theorem okI_yes {g : Bool} {v : Int} (h : g = true) : okI g v = v := if_pos h
theorem okI_no {g : Bool} {v : Int} (h : g = false) : okI g v = 0 := if_neg (by simp [h])
theorem twS_no1 {a b : List Tm} (h : baB a = false) : twS a b = false := by unfold twS; rw [h]; rfl
theorem twS_no2 {a b : List Tm} (h : baB b = false) : twS a b = false := by unfold twS; rw [h]; simp
theorem twS_yes {a b : List Tm} (h : baB a = true) (h' : baB b = true) : twS a b = true := by unfold twS; rw [h, h']; rfl
def GivesIbM (n : Int) (ok : Bool) (w : World) (e : Ending) (w' : World) : Prop := e = .returned (.tuple #[.int .i64 n, .bool ok]) ∧ Below w.heap.size w w'
theorem givesIbM_of {n m : Int} {o p : Bool} {w w' : World} (h1 : n = m) (h2 : o = p) (hb : Below w.heap.size w w') : GivesIbM n o w (.returned (.tuple #[.int .i64 m, .bool p])) w' := by
  subst h1; subst h2; exact ⟨rfl, hb⟩
theorem mtStar_any (w : World) (B : Nat) (v : Value) (l : List Tm) (h : RyS w B v l) : Calls Try.prog 68 #[v] w fun e w' => e = .returned (.bool (baB l)) ∧ Below w.heap.size w w' := by
  cases hl : ryB l
  · have HL := Lib.hid hl
    have HN := Lib.hid (baB_no hl)
    clear hl
    go_enter Try.func68, Try.ntmps68
    go_wp2_with fail
    refine (stGood_any _ B _ l h).mono ?_
    rintro e w1 ⟨rfl, b1⟩
    rw [HL.out]
    go_wp2
    go_ret
    exact ⟨ret_bool HN.out.symm, b1⟩
  · have HL := Lib.hid hl
    clear hl
    go_enter Try.func68, Try.ntmps68
    go_wp2_with fail
    refine (stGood_any _ B _ l h).mono ?_
    rintro e w1 ⟨rfl, b1⟩
    rw [HL.out]
    go_wp2_with fail
    refine (stBalanced_any _ B _ l (FS.below h b1) HL.out).mono ?_
    rintro e w2 ⟨rfl, b2⟩
    go_wp2
    go_ret
    exact ⟨rfl, bel2 b1 b2⟩
theorem mtCount_any (w : World) (B1 B2 : Nat) (v1 v2 : Value) (a b : List Tm) (h1 : RyS w B1 v1 a) (h2 : RyS w B2 v2 b) (ha : ryB a = true) (hb : ryB b = true) : Calls Try.prog 69 #[v1, v2] w fun e w' => e = .returned (.int .i64 (meC a b)) ∧ Below w.heap.size w w' := by
  have HC := Lib.hid (show Calls Try.prog 67 #[v1, v2, .int .i64 1000, .int .i64 1] w fun e w' => e = .returned (.int .i64 (meC a b)) ∧ Below w.heap.size w w' from mtSum_any w B1 B2 v1 v2 a b 1000 1 h1 h2 ha hb mvM_1000)
  clear h1 h2 ha hb
  go_enter Try.func69, Try.ntmps69
  go_wp2_with fail
  refine HC.out.mono ?_
  rintro e w1 ⟨rfl, b1⟩
  go_wp2
  go_ret
  exact ⟨rfl, b1⟩
theorem line_new (w : World) : RyS (w.alloc (.cells #[.int .i64 (-1), .int .i64 (-1), .int .i64 1, .int .i64 0, .int .i64 1, .int .i64 1, .int .i64 1, .int .i64 0, .int .i64 1] 26)) w.heap.size (.slice (some ⟨w.heap.size, 0, none⟩) 3 3) liR :=
  World.ownsRow_lit w #[.int .i64 (-1), .int .i64 (-1), .int .i64 1, .int .i64 0, .int .i64 1, .int .i64 1, .int .i64 1, .int .i64 0, .int .i64 1] 3 (Nat.le_refl _) (by decide) rfl
theorem mtDegree_any (w : World) (B : Nat) (v : Value) (a : List Tm) (h : RyS w B v a) (ha : ryB a = true) : Calls Try.prog 71 #[v] w fun e w' => e = .returned (.int .i64 (meD a)) ∧ Below w.heap.size w w' := by
  have bA : Below w.heap.size w (w.alloc (.cells #[.int .i64 (-1), .int .i64 (-1), .int .i64 1, .int .i64 0, .int .i64 1, .int .i64 1, .int .i64 1, .int .i64 0, .int .i64 1] 26)) := (Below.refl _ _).alloc (Nat.le_refl _) _
  have HC := Lib.hid (mtCount_any _ B w.heap.size v _ a liR (FS.below h bA) (line_new w) ha liR_good)
  have HB := Lib.hid bA
  obtain ⟨A1, c1, rfl, -, -⟩ := RyS.parts h
  clear h ha bA
  go_enter Try.func71, Try.ntmps71
  go_wp2_with fail
  refine HC.out.mono ?_
  rintro e w1 ⟨rfl, b1⟩
  have hb := bel2 HB.out b1
  go_wp2
  go_ret
  exact ⟨rfl, hb⟩
set_option maxRecDepth 100000 in
theorem specMeetCount_any (w : World) (B1 B2 : Nat) (v1 v2 : Value) (a b : List Tm) (h1 : RyS w B1 v1 a) (h2 : RyS w B2 v2 b) : Calls Try.prog 32 #[v1, v2] w fun e w' => GivesIbM (okI (twS a b) (meC a b)) (twS a b) w e w' := by
  have H1 := Lib.hid h1
  have H2 := Lib.hid h2
  obtain ⟨A1, c1, rfl, -, -⟩ := RyS.parts h1
  obtain ⟨A2, c2, rfl, -, -⟩ := RyS.parts h2
  clear h1 h2
  cases g1 : baB a
  · have G1 := Lib.hid g1
    clear g1
    go_enter Try.func32, Try.ntmps32
    go_wp2_with fail
    refine (mtStar_any _ B1 _ a (FS.below H1.out (Below.refl _ _))).mono ?_
    rintro e x1 ⟨rfl, b1⟩
    have bb := b1
    rw [G1.out]
    go_wp2
    go_ret2
    exact givesIbM_of (okI_no (twS_no1 G1.out)) (twS_no1 G1.out) bb
  · have G1 := Lib.hid g1
    clear g1
    cases g2 : baB b
    · have G2 := Lib.hid g2
      clear g2
      go_enter Try.func32, Try.ntmps32
      go_wp2_with fail
      refine (mtStar_any _ B1 _ a (FS.below H1.out (Below.refl _ _))).mono ?_
      rintro e x1 ⟨rfl, b1⟩
      have bb := b1
      rw [G1.out]
      go_wp2_with fail
      refine (mtStar_any _ B2 _ b (FS.below H2.out bb)).mono ?_
      rintro e x2 ⟨rfl, b2⟩
      replace bb := bel2 bb b2
      rw [G2.out]
      go_wp2
      go_ret2
      exact givesIbM_of (okI_no (twS_no2 G2.out)) (twS_no2 G2.out) bb
    · have G2 := Lib.hid g2
      clear g2
      have R1 := Lib.hid (baB_ry G1.out)
      have R2 := Lib.hid (baB_ry G2.out)
      go_enter Try.func32, Try.ntmps32
      go_wp2_with fail
      refine (mtStar_any _ B1 _ a (FS.below H1.out (Below.refl _ _))).mono ?_
      rintro e x1 ⟨rfl, b1⟩
      have bb := b1
      rw [G1.out]
      go_wp2_with fail
      refine (mtStar_any _ B2 _ b (FS.below H2.out bb)).mono ?_
      rintro e x2 ⟨rfl, b2⟩
      replace bb := bel2 bb b2
      rw [G2.out]
      go_wp2_with fail
      refine (mtCount_any _ B1 B2 _ _ a b (FS.below H1.out bb) (FS.below H2.out bb) R1.out R2.out).mono ?_
      rintro e y0 ⟨rfl, d0⟩
      replace bb := bel2 bb d0
      go_wp2
      go_ret2
      exact givesIbM_of (okI_yes (twS_yes G1.out G2.out)) (twS_yes G1.out G2.out) bb
set_option maxRecDepth 100000 in
theorem specBezoutOf_any (w : World) (B1 B2 : Nat) (v1 v2 : Value) (a b : List Tm) (h1 : RyS w B1 v1 a) (h2 : RyS w B2 v2 b) : Calls Try.prog 38 #[v1, v2] w fun e w' => GivesIbM (okI (twS a b) (meD a * meD b)) (twS a b) w e w' := by
  have H1 := Lib.hid h1
  have H2 := Lib.hid h2
  obtain ⟨A1, c1, rfl, -, -⟩ := RyS.parts h1
  obtain ⟨A2, c2, rfl, -, -⟩ := RyS.parts h2
  clear h1 h2
  cases g1 : baB a
  · have G1 := Lib.hid g1
    clear g1
    go_enter Try.func38, Try.ntmps38
    go_wp2_with fail
    refine (mtStar_any _ B1 _ a (FS.below H1.out (Below.refl _ _))).mono ?_
    rintro e x1 ⟨rfl, b1⟩
    have bb := b1
    rw [G1.out]
    go_wp2
    go_ret2
    exact givesIbM_of (okI_no (twS_no1 G1.out)) (twS_no1 G1.out) bb
  · have G1 := Lib.hid g1
    clear g1
    cases g2 : baB b
    · have G2 := Lib.hid g2
      clear g2
      go_enter Try.func38, Try.ntmps38
      go_wp2_with fail
      refine (mtStar_any _ B1 _ a (FS.below H1.out (Below.refl _ _))).mono ?_
      rintro e x1 ⟨rfl, b1⟩
      have bb := b1
      rw [G1.out]
      go_wp2_with fail
      refine (mtStar_any _ B2 _ b (FS.below H2.out bb)).mono ?_
      rintro e x2 ⟨rfl, b2⟩
      replace bb := bel2 bb b2
      rw [G2.out]
      go_wp2
      go_ret2
      exact givesIbM_of (okI_no (twS_no2 G2.out)) (twS_no2 G2.out) bb
    · have G2 := Lib.hid g2
      clear g2
      have R1 := Lib.hid (baB_ry G1.out)
      have R2 := Lib.hid (baB_ry G2.out)
      have q0 := mul_deg (meD_bd R1.out) (meD_bd R2.out)
      have q1 : IntKind.i64.wrap (meD a * meD b) = meD a * meD b := IntWalk.i64_in _ (by omega)
      go_enter Try.func38, Try.ntmps38
      go_wp2_with fail
      refine (mtStar_any _ B1 _ a (FS.below H1.out (Below.refl _ _))).mono ?_
      rintro e x1 ⟨rfl, b1⟩
      have bb := b1
      rw [G1.out]
      go_wp2_with fail
      refine (mtStar_any _ B2 _ b (FS.below H2.out bb)).mono ?_
      rintro e x2 ⟨rfl, b2⟩
      replace bb := bel2 bb b2
      rw [G2.out]
      go_wp2_with fail
      refine (mtDegree_any _ B1 _ a (FS.below H1.out bb) R1.out).mono ?_
      rintro e y0 ⟨rfl, d0⟩
      replace bb := bel2 bb d0
      go_wp2_with fail
      refine (mtDegree_any _ B2 _ b (FS.below H2.out bb) R2.out).mono ?_
      rintro e y1 ⟨rfl, d1⟩
      replace bb := bel2 bb d1
      go_wp2
      go_ret2
      exact givesIbM_of (okI_yes (twS_yes G1.out G2.out)) (twS_yes G1.out G2.out) bb
set_option maxRecDepth 100000 in
theorem specMeetDefect_any (w : World) (B1 B2 : Nat) (v1 v2 : Value) (a b : List Tm) (h1 : RyS w B1 v1 a) (h2 : RyS w B2 v2 b) : Calls Try.prog 40 #[v1, v2] w fun e w' => GivesIbM (okI (twS a b) (meD a * meD b - meC a b)) (twS a b) w e w' := by
  have H1 := Lib.hid h1
  have H2 := Lib.hid h2
  obtain ⟨A1, c1, rfl, -, -⟩ := RyS.parts h1
  obtain ⟨A2, c2, rfl, -, -⟩ := RyS.parts h2
  clear h1 h2
  cases g1 : baB a
  · have G1 := Lib.hid g1
    clear g1
    go_enter Try.func40, Try.ntmps40
    go_wp2_with fail
    refine (mtStar_any _ B1 _ a (FS.below H1.out (Below.refl _ _))).mono ?_
    rintro e x1 ⟨rfl, b1⟩
    have bb := b1
    rw [G1.out]
    go_wp2
    go_ret2
    exact givesIbM_of (okI_no (twS_no1 G1.out)) (twS_no1 G1.out) bb
  · have G1 := Lib.hid g1
    clear g1
    cases g2 : baB b
    · have G2 := Lib.hid g2
      clear g2
      go_enter Try.func40, Try.ntmps40
      go_wp2_with fail
      refine (mtStar_any _ B1 _ a (FS.below H1.out (Below.refl _ _))).mono ?_
      rintro e x1 ⟨rfl, b1⟩
      have bb := b1
      rw [G1.out]
      go_wp2_with fail
      refine (mtStar_any _ B2 _ b (FS.below H2.out bb)).mono ?_
      rintro e x2 ⟨rfl, b2⟩
      replace bb := bel2 bb b2
      rw [G2.out]
      go_wp2
      go_ret2
      exact givesIbM_of (okI_no (twS_no2 G2.out)) (twS_no2 G2.out) bb
    · have G2 := Lib.hid g2
      clear g2
      have R1 := Lib.hid (baB_ry G1.out)
      have R2 := Lib.hid (baB_ry G2.out)
      have q0 := mul_deg (meD_bd R1.out) (meD_bd R2.out)
      have q1 : IntKind.i64.wrap (meD a * meD b) = meD a * meD b := IntWalk.i64_in _ (by omega)
      have q3 := meC_bd R1.out R2.out
      have q2 : IntKind.i64.wrap (meD a * meD b - meC a b) = meD a * meD b - meC a b := IntWalk.i64_in _ (by omega)
      go_enter Try.func40, Try.ntmps40
      go_wp2_with fail
      refine (mtStar_any _ B1 _ a (FS.below H1.out (Below.refl _ _))).mono ?_
      rintro e x1 ⟨rfl, b1⟩
      have bb := b1
      rw [G1.out]
      go_wp2_with fail
      refine (mtStar_any _ B2 _ b (FS.below H2.out bb)).mono ?_
      rintro e x2 ⟨rfl, b2⟩
      replace bb := bel2 bb b2
      rw [G2.out]
      go_wp2_with fail
      refine (mtDegree_any _ B1 _ a (FS.below H1.out bb) R1.out).mono ?_
      rintro e y0 ⟨rfl, d0⟩
      replace bb := bel2 bb d0
      go_wp2_with fail
      refine (mtDegree_any _ B2 _ b (FS.below H2.out bb) R2.out).mono ?_
      rintro e y1 ⟨rfl, d1⟩
      replace bb := bel2 bb d1
      go_wp2_with fail
      refine (mtCount_any _ B1 B2 _ _ a b (FS.below H1.out bb) (FS.below H2.out bb) R1.out R2.out).mono ?_
      rintro e y2 ⟨rfl, d2⟩
      replace bb := bel2 bb d2
      go_wp2
      go_ret2
      exact givesIbM_of (okI_yes (twS_yes G1.out G2.out)) (twS_yes G1.out G2.out) bb
theorem specSelfCount_any (w : World) (B : Nat) (v : Value) (a : List Tm) (h : RyS w B v a) : Calls Try.prog 34 #[v] w fun e w' => GivesIbM (okI (baB a) (meC a a)) (baB a) w e w' := by
  have H1 := Lib.hid h
  obtain ⟨A1, c1, rfl, -, -⟩ := RyS.parts h
  clear h
  cases g1 : baB a
  · have G1 := Lib.hid g1
    clear g1
    go_enter Try.func34, Try.ntmps34
    go_wp2_with fail
    refine (mtStar_any _ B _ a H1.out).mono ?_
    rintro e x1 ⟨rfl, bb⟩
    rw [G1.out]
    go_wp2
    go_ret2
    exact givesIbM_of (okI_no rfl) rfl bb
  · have G1 := Lib.hid g1
    clear g1
    have R1 := Lib.hid (baB_ry G1.out)
    go_enter Try.func34, Try.ntmps34
    go_wp2_with fail
    refine (mtStar_any _ B _ a H1.out).mono ?_
    rintro e x1 ⟨rfl, bb⟩
    rw [G1.out]
    go_wp2_with fail
    refine (mtCount_any _ B B _ _ a a (FS.below H1.out bb) (FS.below H1.out bb) R1.out R1.out).mono ?_
    rintro e y1 ⟨rfl, d1⟩
    replace bb := bel2 bb d1
    go_wp2
    go_ret2
    exact givesIbM_of (okI_yes rfl) rfl bb
theorem specStarDegree_any (w : World) (B : Nat) (v : Value) (a : List Tm) (h : RyS w B v a) : Calls Try.prog 36 #[v] w fun e w' => GivesIbM (okI (baB a) (meD a)) (baB a) w e w' := by
  have H1 := Lib.hid h
  obtain ⟨A1, c1, rfl, -, -⟩ := RyS.parts h
  clear h
  cases g1 : baB a
  · have G1 := Lib.hid g1
    clear g1
    go_enter Try.func36, Try.ntmps36
    go_wp2_with fail
    refine (mtStar_any _ B _ a H1.out).mono ?_
    rintro e x1 ⟨rfl, bb⟩
    rw [G1.out]
    go_wp2
    go_ret2
    exact givesIbM_of (okI_no rfl) rfl bb
  · have G1 := Lib.hid g1
    clear g1
    have R1 := Lib.hid (baB_ry G1.out)
    go_enter Try.func36, Try.ntmps36
    go_wp2_with fail
    refine (mtStar_any _ B _ a H1.out).mono ?_
    rintro e x1 ⟨rfl, bb⟩
    rw [G1.out]
    go_wp2_with fail
    refine (mtDegree_any _ B _ a (FS.below H1.out bb) R1.out).mono ?_
    rintro e y1 ⟨rfl, d1⟩
    replace bb := bel2 bb d1
    go_wp2
    go_ret2
    exact givesIbM_of (okI_yes rfl) rfl bb
end Go.Proofs.Ytijmnbgmpakllaa

/-
  The model's draws of a polynomial and a fraction, often one of its roots: what the call returns.
  Condition: the bytes can be read; they are at most 1048576.
-/
import Derived.Test.YtklcildhfcomnaaGreatDoorDrawP
import Derived.Test.YtklcildhfcomnaaGreatDoorRoots
import Derived.Deep.MidRow
import Derived.Deep.RegionLaw
namespace Go.Proofs.YtklcildhfcomnaaGreatDoor
set_option linter.unusedSimpArgs false
set_option linter.unusedVariables false
open Go.ChangeShapes Go.WideShapes Go.ChangeAt Go.RowKit
open Go.Sort (grow)

/-- A list and a fraction are drawn. -/
def DrawsPF (w : World) (e : Ending) (w' : World) : Prop := ∃ v zs a b, e = .returned (.tuple #[v, fracV a b]) ∧ IS w' w.heap.size v zs ∧ zs.length ≤ 50 ∧ Below w.heap.size w w'
theorem F2.resultsVF {w : World} {g : Nat} {a b : Int} (h : F2 w g a b) {fn : Func} {p u : Tmp} {ts : Array Value} {x : Value} (hr : fn.results = #[.tmp u, .cell p 35]) (hx : ts.getD u undef = x) (hp : ts.getD p undef = .pointer (some ⟨g, 0, none⟩)) : (Go.results fn ts).run Tryz.prog w = .ok (.tuple #[x, fracV a b]) w := by
  have hl := h.load
  simp only [Go.results, hr]
  have hp' : ts[p]?.getD undef = .pointer (some ⟨g, 0, none⟩) := by simpa using hp
  have hx' : ts[u]?.getD undef = x := by simpa using hx
  have ha : ∀ x, (asAddr (Value.pointer (some ⟨x, 0, none⟩))).run Tryz.prog w = .ok ⟨x, 0, none⟩ w := fun _ => rfl
  simp [Sem.run_bind, Result.andThen, hp', hx', ha, hl]
theorem IS.put2 {w : World} {B g : Nat} {v : Value} {zs : List Int} (h : IS w B v zs) (hg : g < B) (x y : Value) : IS ((w.setCell ⟨g, 0, none⟩ x).setCell ⟨g, 1, none⟩ y) B v zs :=
  h.keep fun k hk => by
    have := (h.lt k hk).1
    rw [heap_far _ _ _ _ _ (by omega), heap_far _ _ _ _ _ (by omega)]
theorem bel_pairR {w W : World} {g i j : Nat} {u v : Value} (b : Below w.heap.size w W) (hg : w.heap.size ≤ g) : Below w.heap.size w ((W.setCell ⟨g, i, none⟩ u).setCell ⟨g, j, none⟩ v) :=
  (b.setCell (p := ⟨g, i, none⟩) hg u).setCell (p := ⟨g, j, none⟩) hg v
theorem cellAt_cur {w w' : World} {b : Nat} (h : w.grownBy w' (some b)) (g i : Nat) (hg : g < w.heap.size) (hne : g ≠ b) : w'.cell? ⟨g, i, none⟩ = w.cell? ⟨g, i, none⟩ := by
  have hb : w'.heap[g]? = w.heap[g]? := h.block g hg (fun he => hne (by injection he))
  unfold World.cell?
  simp only [hb]
set_option maxHeartbeats 4000000 in
set_option maxRecDepth 100000 in
theorem drawTimesOfRoot_any (w : World) (A : Option Addr) (n cap : Nat) (h : RB w w.heap.size A n) (hn : n ≤ 1048576) : Calls Tryz.prog 15 #[.slice A n cap] w fun e w' => DrawsPF w e w' := by
  have q0 : Below w.heap.size w (w.alloc (.cells #[.int .i64 0, .int .i64 0] 35)) := (Below.refl _ _).alloc (Nat.le_refl _) _
  have hs : (w.alloc (.cells #[.int .i64 0, .int .i64 0] 35)).heap.size = w.heap.size + 1 := by simp
  have hc := cur_new (cap := cap) (h.below q0) hn
  rw [hs] at hc
  have R0 := (F2.new w 0 0).old (.cells #[.slice A n cap, .int .i64 0, .int .u64 0] 69)
  have b0 : Below w.heap.size w ((w.alloc (.cells #[.int .i64 0, .int .i64 0] 35)).alloc (.cells #[.slice A n cap, .int .i64 0, .int .u64 0] 69)) := q0.alloc (by simp) _
  clear q0 hs h
  go_enter Tryz.func15, Tryz.ntmps15
  go_wp2_with fail
  refine (anyPoly_any _ _ 0 hc (by omega)).mono ?_
  rintro e v1 ⟨v, zs, rfl, hv0, hl, hc1, hg1⟩
  have hv : IS v1 (w.heap.size + 2) v zs := hv0.base (by simp)
  have B1 := bel_drawsP b0 hg1 (by omega)
  have R1 := R0.grownD hg1 (by omega)
  obtain ⟨A1, cap1, rfl, -, -⟩ := hv.parts
  clear b0 R0 hc hg1 hv0
  cases hz : poB zs
  · have HZ := Lib.hid hz
    clear hz
    go_wp2_with fail
    refine (poGood_any _ _ _ zs hv).mono ?_
    rintro e w' ⟨rfl, rfl⟩
    rw [HZ.out]
    go_wp2_with fail
    refine (anyFrac_any _ _ _ hc1 (by omega)).mono ?_
    rintro e v4 ⟨x, y, rfl, -, hc4, hg4⟩
    have O4 := Lib.hid (IS.away hv (fun g hg => by have := (IS.lt hv g hg).1; omega) hg4)
    have B4 := Lib.hid (bel_drawsP B1 hg4 (by omega))
    have R4 := Lib.hid (F2.grownD R1 hg4 (by omega))
    clear hc4 hg4
    obtain ⟨z0, z1, z2, z3⟩ := R4.out
    go_wp2
    refine bodyPost_ret (F2.resultsVF (F2.store ⟨z0, z1, z2, z3⟩ x y) rfl rfl rfl) rfl ?_
    exact ⟨_, zs, x, y, rfl, (O4.out.put2 (by omega) _ _).base (by omega), hl, bel_pairR B4.out (Nat.le_refl _)⟩
  · have HZ := Lib.hid hz
    clear hz
    go_wp2_with fail
    refine (poGood_any _ _ _ zs hv).mono ?_
    rintro e w' ⟨rfl, rfl⟩
    rw [HZ.out]
    go_wp2_with fail
    refine (one_any 2 (by omega) _ _ _ hc1 (by omega)).mono ?_
    rintro e v2 ⟨o, rfl, hc2, hg2⟩
    have O2 := IS.away hv (fun g hg => by have := (hv.lt g hg).1; omega) hg2
    have B2 := bel_drawsP B1 hg2 (by omega)
    have R2 := R1.grownD hg2 (by omega)
    clear hc1 hg2 hv B1 R1
    cases o
    · go_wp2_with fail
      refine (anyFrac_any _ _ _ hc2 (by omega)).mono ?_
      rintro e v4 ⟨x, y, rfl, -, hc4, hg4⟩
      have O4 := Lib.hid (IS.away O2 (fun g hg => by have := (IS.lt O2 g hg).1; omega) hg4)
      have B4 := Lib.hid (bel_drawsP B2 hg4 (by omega))
      have R4 := Lib.hid (F2.grownD R2 hg4 (by omega))
      clear hc4 hg4
      obtain ⟨z0, z1, z2, z3⟩ := R4.out
      go_wp2
      refine bodyPost_ret (F2.resultsVF (F2.store ⟨z0, z1, z2, z3⟩ x y) rfl rfl rfl) rfl ?_
      exact ⟨_, zs, x, y, rfl, (O4.out.put2 (by omega) _ _).base (by omega), hl, bel_pairR B4.out (Nat.le_refl _)⟩
    · have hs2 := B2.size
      have hlc := hc2.lt
      go_wp2_with fail
      refine (rtRoots_any _ _ _ zs O2 HZ.out).mono ?_
      rintro e v3 ⟨vr, rfl, hr, b3⟩
      have hc3 := hc2.below b3
      have O3 := O2.below b3
      have R3 := R2.below b3
      have B3' := bel2 B2 b3
      clear hc2 O2 R2 B2 b3
      obtain ⟨rs, hrs⟩ : ∃ rs, rs = rootsL zs := ⟨_, rfl⟩
      rw [← hrs] at hr
      obtain ⟨A2, cap2, rfl, hm, hp⟩ := RS.parts hr
      have HP := Lib.hid hp
      have HR := Lib.hid hr
      have hm' : rs.length ≤ 1000 := by rw [hrs]; exact Nat.le_trans (rootsL_len HZ.out) (by omega)
      clear hm hp hr hrs
      by_cases h0 : rs.length = 0
      · go_wp2_with fail
        refine (anyFrac_any _ _ _ hc3 (by omega)).mono ?_
        rintro e v4 ⟨x, y, rfl, -, hc4, hg4⟩
        have O4 := Lib.hid (IS.away O3 (fun g hg => by have := (IS.lt O3 g hg).1; omega) hg4)
        have B4 := Lib.hid (bel_drawsP B3' hg4 (by omega))
        have R4 := Lib.hid (F2.grownD R3 hg4 (by omega))
        clear hc4 hg4
        obtain ⟨z0, z1, z2, z3⟩ := R4.out
        go_wp2
        refine bodyPost_ret (F2.resultsVF (F2.store ⟨z0, z1, z2, z3⟩ x y) rfl rfl rfl) rfl ?_
        exact ⟨_, zs, x, y, rfl, (O4.out.put2 (by omega) _ _).base (by omega), hl, bel_pairR B4.out (Nat.le_refl _)⟩
      · obtain ⟨g, rfl, k0, -, -⟩ := HP.out 0 (by omega)
        have lg := cell_lt k0
        have hgb : v2.heap.size ≤ g := (FS.lt HR.out g rfl).1
        clear HR
        have hs3 := B3'.size
        have O3h := Lib.hid O3
        have B3h := Lib.hid B3'
        obtain ⟨z0, z1, z2, z3⟩ := id R3
        have lz := cell_lt z0
        have hpos : (0 : Int) < (rs.length : Int) := by omega
        clear k0
        go_wp2_with fail
        go_region_with (first | (go_at_call 38; refine (pick_any (rs.length : Int) (by omega) _ _ (0 + 400 + 2) (by first | exact hc3 | exact hc3.below (Below.refl _ _).drew | exact hc3.below (belN (Below.refl _ _) _)) (by omega)).mono ?_; rintro e v5 ⟨p, rfl, hp5, hc5, hg5⟩; obtain ⟨j, rfl, hj⟩ : ∃ j : Nat, p = (j : Int) ∧ j < rs.length := ⟨p.toNat, by omega, by omega⟩; obtain ⟨g9, hg9, d0, d1, -⟩ := HP.out j hj; cases hg9; have e0 := (cellAt_cur hg5 g (j * 3) (by first | exact lg | (simpa using lg)) (by omega)).trans d0; have e1 := (cellAt_cur hg5 g (j * 3 + 1) (by first | exact lg | (simpa using lg)) (by omega)).trans d1; have F5 := F2.grownD (by first | exact R3 | exact R3.drew | exact R3.drewN _) hg5 (by omega); obtain ⟨y0, y1, y2, y3⟩ := id F5; have ly := cell_lt y0; clear hp5 d0 d1) | (fail))
        have O5 := IS.away (w := v3.drew) (O3h.out.below (Below.refl _ _).drew) (fun g hg => by have := (O3h.out.lt g hg).1; omega) hg5
        have B5 := bel_drawsP (B3h.out.drew) hg5 (by omega)
        go_wp2
        refine bodyPost_ret (F2.resultsVF (F2.store ⟨y0, y1, y2, y3⟩ _ _) rfl rfl rfl) rfl ?_
        exact ⟨_, zs, _, _, rfl, (O5.put2 (by omega) _ _).base (by omega), hl, bel_pairR B5 (Nat.le_refl _)⟩
end Go.Proofs.YtklcildhfcomnaaGreatDoor

/-
  The functions of chapter 3 on polynomials, of the program and of the model: least terms, slopes, sums, products, moved ones: what each call returns.
  Condition: the slices read as the lists that are named.
-/
import Derived.Test.YtbhmlfidideemaaPolyB
namespace Go.Proofs.Ytbhmlfidideemaa
set_option linter.unusedSimpArgs false
set_option linter.unusedVariables false
open Go.ChangeShapes Go.WideShapes Go.ChangeAt Go.RowKit

theorem ret_iib {a b c d : Int} {e f : Bool} (h : a = b) (h' : c = d) (h'' : e = f) : Ending.returned (.tuple #[.int .i64 a, .int .i64 c, .bool e]) = .returned (.tuple #[.int .i64 b, .int .i64 d, .bool f]) := by rw [h, h', h'']
/-- A new slice that is laid out whole. -/
theorem IS.lit (w : World) (x : Int) : IS (w.alloc (.cells #[.int .i64 x] 3)) w.heap.size (.slice (some ⟨w.heap.size, 0, none⟩) 1 1) [x] :=
  World.ownsRow_lit w #[.int .i64 x] 1 (Nat.le_refl _) (by decide) rfl
theorem poAt_any (w : World) (B : Nat) (v : Value) (zs : List Int) (i : Nat) (m : Int) (hm : m = i) (h : IS w B v zs) : Calls Try.prog 26 #[v, .int .i64 m] w fun e w' => e = .returned (.int .i64 (atI zs i)) ∧ w = w' := by
  subst hm
  obtain ⟨A, cap, rfl, hm, hp⟩ := h.parts
  unfold maxLen at hm
  by_cases hi : i < zs.length
  · obtain ⟨g, rfl, hc⟩ := hp i hi
    have HA := Lib.hid (at_in hi)
    clear hp
    go_enter Try.func26, Try.ntmps26
    go_wp2
    go_ret
    exact ⟨ret_i64 HA.out.symm, rfl⟩
  · have HA := Lib.hid (at_out hi)
    clear hp
    go_enter Try.func26, Try.ntmps26
    go_wp2
    go_ret
    exact ⟨ret_i64 HA.out.symm, rfl⟩
theorem ent_coef : Ent 39 := enters_of Try.func39 (by kernel_rfl) rfl
theorem coef1_any (w : World) (B : Nat) (v : Value) (zs : List Int) (a i : Nat) (m : Int) (hm : m = i) (h : IS w B v zs) (ha : w.cell? ⟨a, 0, none⟩ = some v) : Calls Try.prog 39 #[.int .i64 m, .pointer (some ⟨a, 0, none⟩)] w fun e w' => e = .returned (.int .i64 (atI zs i)) ∧ w = w' := by
  subst hm
  obtain ⟨A, cap, rfl, hm, hp⟩ := h.parts
  unfold maxLen at hm
  by_cases hi : i < zs.length
  · obtain ⟨g, rfl, hc⟩ := hp i hi
    have HA := Lib.hid (at_in hi)
    clear hp
    go_enter Try.func39, Try.ntmps39
    go_wp2
    go_ret
    exact ⟨ret_i64 HA.out.symm, rfl⟩
  · have HA := Lib.hid (at_out hi)
    clear hp
    go_enter Try.func39, Try.ntmps39
    go_wp2
    go_ret
    exact ⟨ret_i64 HA.out.symm, rfl⟩
/-- The box at block a holds the function value that tells the coefficients of zs. -/
def Cof (w : World) (a : Nat) (zs : List Int) : Prop := ∃ (c B : Nat) (v : Value), w.cell? ⟨a, 0, none⟩ = some (.func (.func 39) #[] #[.pointer (some ⟨c, 0, none⟩)]) ∧ w.cell? ⟨c, 0, none⟩ = some v ∧ IS w B v zs
theorem Cof.below {w w' : World} {a : Nat} {zs : List Int} (h : Cof w a zs) (hb : Below w.heap.size w w') : Cof w' a zs := by
  obtain ⟨c, B, v, h1, h2, h3⟩ := h
  exact ⟨c, B, v, box_old h1 hb, box_old h2 hb, h3.below hb⟩
theorem coef_any (w : World) (B : Nat) (v : Value) (zs : List Int) (h : IS w B v zs) : Calls Try.prog 27 #[v] w fun e w' => ∃ c, e = .returned (.func (.func 39) #[] #[.pointer (some ⟨c, 0, none⟩)]) ∧ w'.cell? ⟨c, 0, none⟩ = some v ∧ Below w.heap.size w w' := by
  have hmf : ∀ (fn : Fn) (first cap : Array Value) (w : World), (Instr.makeFunc fn first cap).run Try.prog w = .ok (.func fn first cap) w := fun _ _ _ _ => rfl
  have HB := Lib.hid (box_new w v 22)
  obtain ⟨A, cap, rfl, -, -⟩ := h.parts
  clear h
  go_enter Try.func27, Try.ntmps27
  go_wp2
  go_ret
  exact ⟨_, rfl, HB.out, (Below.refl _ _).alloc (Nat.le_refl _) _⟩
end Go.Proofs.Ytbhmlfidideemaa

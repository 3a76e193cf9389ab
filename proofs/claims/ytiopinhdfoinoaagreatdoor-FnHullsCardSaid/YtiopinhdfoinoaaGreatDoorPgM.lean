/-
  Sums of polygons and mixed areas, of the program and of the model: what the calls return.
  Conditions: the slices read as the lists that are named; polygons where a contract names them.
-/
import Derived.Test.YtiopinhdfoinoaaGreatDoorPgB
namespace Go.Proofs.YtiopinhdfoinoaaGreatDoor
set_option linter.unusedSimpArgs false
set_option linter.unusedVariables false
open Go.ChangeShapes Go.WideShapes Go.ChangeAt Go.RowKit
open Go.Sort (grow)

/-- The sums of the first k points of a and all of b, and of the next one and the first m of b. -/
def sumT (a b : List Pt) (k m : Nat) : List Pt := (a.take k).flatMap (fun s => b.map (adP s)) ++ (b.take m).map (adP (pd a k))
theorem sumT_0 (a b : List Pt) : sumT a b 0 0 = [] := by simp [sumT]
theorem sumT_next (a b : List Pt) (k m : Nat) (hm : m < b.length) : sumT a b k (m + 1) = sumT a b k m ++ [adP (pd a k) (pd b m)] := by
  unfold sumT; rw [take_pd b m hm]; simp
theorem sumT_row (a b : List Pt) (k : Nat) (hk : k < a.length) : sumT a b (k + 1) 0 = sumT a b k b.length := by
  unfold sumT; rw [take_pd a k hk]; simp
theorem sumT_end (a b : List Pt) : sumT a b a.length 0 = sumLP a b := by unfold sumT sumLP; simp
theorem sumM_len (b : List Pt) : ∀ l : List Pt, (l.flatMap fun s => b.map (adP s)).length = l.length * b.length
  | [] => by simp
  | s :: l => by rw [List.flatMap_cons, List.length_append, List.length_map, sumM_len b l, List.length_cons, Nat.add_mul]; omega
theorem sumT_len (a b : List Pt) (k m : Nat) (hk : k ≤ a.length) (hm : m ≤ b.length) : (sumT a b k m).length = k * b.length + m := by
  unfold sumT
  rw [List.length_append, List.length_map, List.length_take, Nat.min_eq_left hm, sumM_len, List.length_take, Nat.min_eq_left hk]
theorem sumL_len (a b : List Pt) : (sumLP a b).length = a.length * b.length := sumM_len b a
theorem sumL_sm {a b : List Pt} (ha : ∀ q ∈ a, Sm 100 q) (hb : ∀ q ∈ b, Sm 100 q) : ∀ q ∈ sumLP a b, Sm 1000 q := fun q hq => by
  obtain ⟨x, hx, y, hy, rfl⟩ := (sumL_mem a b q).1 hq
  exact ((ha x hx).ad (hb y hy)).mono (by omega)
theorem sumL_ne {a b : List Pt} (ha : 0 < a.length) (hb : 0 < b.length) : sumLP a b ≠ [] := by
  intro h
  have := sumL_len a b
  rw [h] at this
  have := Nat.mul_pos ha hb
  simp at *; omega
def suL (a b : List Pt) : List Pt := hulL (sumLP a b)
def sgB (a b : List Pt) : Bool := pgB a && (pgB b && pgB (suL a b))
def sgR (a b : List Pt) : List Pt := if sgB a b = true then suL a b else []
def mxL (a b : List Pt) : Int := (arL (suL a b) - arL a - arL b).tdiv 2
def mxR (a b : List Pt) : Int := if sgB a b = true then mxL a b else 0
theorem sg_no1 {a b : List Pt} (h : pgB a = false) : sgB a b = false := by unfold sgB; rw [h]; rfl
theorem sg_no2 {a b : List Pt} (h : pgB b = false) : sgB a b = false := by unfold sgB; rw [h]; simp
theorem sg_yes {a b : List Pt} (h : pgB a = true) (h' : pgB b = true) : sgB a b = pgB (suL a b) := by unfold sgB; rw [h, h']; rfl
theorem sgR_no {a b : List Pt} (h : sgB a b = false) : sgR a b = [] := if_neg (by simp [h])
theorem sgR_yes {a b : List Pt} (h : sgB a b = true) : sgR a b = suL a b := if_pos h
theorem mxR_no {a b : List Pt} (h : sgB a b = false) : mxR a b = 0 := if_neg (by simp [h])
theorem mxR_yes {a b : List Pt} (h : sgB a b = true) : mxR a b = mxL a b := if_pos h
theorem sgB_parts {a b : List Pt} (h : sgB a b = true) : pgB a = true ∧ pgB b = true ∧ pgB (suL a b) = true := by
  unfold sgB at h; simpa using h
theorem pg_100 {l : List Pt} (h : pgB l = true) : ∀ q ∈ l, Sm 100 q := pts_sm ((pgB_iff l).1 h).1
theorem suL_le {a b : List Pt} (ha : pgB a = true) (hb : pgB b = true) : (suL a b).length ≤ 1600 ∧ 0 < (suL a b).length ∧ (∀ q ∈ suL a b, Sm 1000 q) := by
  obtain ⟨-, a0, a1⟩ := pg_sm ha
  obtain ⟨-, b0, b1⟩ := pg_sm hb
  have hne := sumL_ne (a := a) (b := b) (by omega) (by omega)
  have h1 := hul_le hne
  rw [sumL_len] at h1
  have h2 : a.length * b.length ≤ 40 * 40 := Nat.mul_le_mul a1 b1
  exact ⟨by unfold suL; omega, List.length_pos_iff.2 (hul_ne hne), fun q hq => sumL_sm (pg_100 ha) (pg_100 hb) q (hul_sub hne hq)⟩
theorem sumL_1600 {a b : List Pt} (ha : pgB a = true) (hb : pgB b = true) : (sumLP a b).length ≤ 100000 := by
  obtain ⟨-, a0, a1⟩ := pg_sm ha
  obtain ⟨-, b0, b1⟩ := pg_sm hb
  rw [sumL_len]
  have h2 : a.length * b.length ≤ 40 * 40 := Nat.mul_le_mul a1 b1
  omega
theorem mx_wrap {s a b : Int} (hs : -200000000000 ≤ s ∧ s ≤ 200000000000) (ha : -200000000000 ≤ a ∧ a ≤ 200000000000) (hb : -200000000000 ≤ b ∧ b ≤ 200000000000) :
    IntKind.i64.wrap (s - a) = s - a ∧ IntKind.i64.wrap (s - a - b) = s - a - b ∧ IntKind.i64.wrap ((s - a - b).tdiv 2) = (s - a - b).tdiv 2 := by
  have ht := tdiv2_bd (x := s - a - b) (by omega)
  exact ⟨IntWalk.i64_in _ (by omega), IntWalk.i64_in _ (by omega), IntWalk.i64_in _ (by omega)⟩
end Go.Proofs.YtiopinhdfoinoaaGreatDoor

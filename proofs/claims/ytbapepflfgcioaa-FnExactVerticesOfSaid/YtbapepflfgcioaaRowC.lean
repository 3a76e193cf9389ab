/-
  Rows of cells: their first elements, runs of stores, clearing; an append of one element at a step of a drawn region.
  No condition.
-/
import Derived.Test.YtbapepflfgcioaaGr
import Derived.Lib.SliceRun
namespace Go.Proofs.Ytbapepflfgcioaa
set_option linter.unusedSimpArgs false
set_option linter.unusedVariables false
open Go.ChangeShapes Go.WideShapes Go.ChangeAt Go.RowKit
open Go.Sort (grow)

/-- The first elements of a row. -/
theorem row_cut {T : TypeId} {k n m cap : Nat} {w : World} {B : Nat} {A : Option Addr} {xs : List Value} (h : w.ownsRow B T k (.slice A n cap) n xs) (hm : m ≤ n) : w.ownsRow B T k (.slice A m cap) m (xs.take (m * k)) := by
  have hlen := h.1
  rcases h.2 with ⟨h0, h1⟩ | ⟨g, cap', cur, hv, hB, hh, hn, hc, hs, ht⟩
  · simp only [Value.slice.injEq] at h0
    obtain ⟨rfl, rfl, rfl⟩ := h0
    obtain rfl : m = 0 := by omega
    refine ⟨by simp, .inl ⟨rfl, rfl⟩⟩
  · simp only [Value.slice.injEq, true_and] at hv
    obtain ⟨rfl, rfl⟩ := hv
    have hmk : m * k ≤ n * k := Nat.mul_le_mul_right k hm
    refine ⟨by simp; omega, .inr ⟨g, cap, cur, rfl, hB, hh, by omega, hc, hs, ?_⟩⟩
    rw [← ht, List.take_take, Nat.min_eq_left hmk]
/-- A run of stores into a row of ours. -/
theorem row_stores {T : TypeId} {k n cap g B : Nat} : ∀ (vs : List Value) (o : Nat) (w : World) (xs : List Value), w.ownsRow B T k (.slice (some ⟨g, 0, none⟩) n cap) n xs →
    ∃ ys, (w.setCells g o vs).ownsRow B T k (.slice (some ⟨g, 0, none⟩) n cap) n ys ∧ w.grownBy (w.setCells g o vs) (some g) ∧ ys.take o = xs.take o
  | [], o, w, xs, h => ⟨xs, h, World.grownBy.refl _ _, rfl⟩
  | v :: r, o, w, xs, h => by
    have s := World.ownsRow.stored h o v
    obtain ⟨ys, h1, h2, h3⟩ := row_stores r (o + 1) _ _ s.1
    refine ⟨ys, h1, Lib.grownBy_trans s.2 h2, ?_⟩
    have h4 := congrArg (List.take o) h3
    rw [List.take_take, List.take_take, Nat.min_eq_left (by omega)] at h4
    rw [h4, List.take_set_of_le (Nat.le_refl _)]
theorem clear_at {P : Program} (w : World) (t e ty : TypeId) (z : Value) (ht : P.underlying t = some (.slice e)) (hv : ∀ w, (zeroValue e).run P w = .ok z w) (k : Nat) (hk : 0 < k) (hz : z.cells = (List.replicate k (Value.int .i64 0)).toArray) (b o n c : Nat) (hn : 0 < n)
    (hc : ∀ j, j < n * k → (w.cell? ⟨b, o + j, none⟩).isSome = true) (hf : ∀ j, j < n * k → w.frozen? ⟨b, o + j, none⟩ = false) :
    (Builtin.clear_ #[t] ty #[.slice (some ⟨b, o, none⟩) n c]).run P w = .ok (.tuple #[]) (w.setCells b o (ints (List.replicate (n * k) 0))) := by
  have hzc : (Builtin.zeroCells z.cells n).toList = ints (List.replicate (n * k) 0) := by
    rw [hz]
    refine List.ext_getElem (by simp [Builtin.zeroCells, ints]) fun i h1 h2 => ?_
    have h3 : i % k < k := Nat.mod_lt _ hk
    simp [Builtin.zeroCells, ints, h3]
  have hlen : (ints (List.replicate (n * k) (0 : Int))).length = n * k := by simp [ints]
  have hst := run_storeCells_cells (P := P) b o (ints (List.replicate (n * k) 0)) 0 w (by simpa [ints] using hc) (by simpa [ints] using hf) (by intro v hv'; simp [ints] at hv'; rw [hv'.2]; rfl)
  simp only [Nat.add_zero] at hst
  obtain ⟨L, hL⟩ : ∃ L, L = ints (List.replicate (n * k) 0) := ⟨_, rfl⟩
  rw [← hL] at hzc hst ⊢
  clear hL hlen
  obtain ⟨m, rfl⟩ : ∃ m, n = m + 1 := ⟨n - 1, by omega⟩
  simp [Builtin.clear_, run_underlying ht, hv, hzc, hst]
end Go.Proofs.Ytbapepflfgcioaa

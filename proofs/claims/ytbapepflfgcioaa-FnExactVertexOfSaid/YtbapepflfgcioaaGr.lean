/-
  Worlds that have come of another one by draws and new blocks alone; rows of structs of integers behind a make.
  No condition.
-/
import Derived.Test.YtbapepflfgcioaaRow
import Derived.Lib.AppendIntMem
import Derived.Deep.RegionWith
import Derived.Shelf.SlSortCmp.QuietGrown
import Derived.BigQuiet
import Derived.StillTailTactics
namespace Go.Proofs.Ytbapepflfgcioaa
set_option linter.unusedSimpArgs false
set_option linter.unusedVariables false
open Go.ChangeShapes Go.WideShapes Go.ChangeAt Go.RowKit
open Go.Sort (grow)

/-- A world that has come of another one by draws and new blocks alone. -/
abbrev Gr (w w' : World) : Prop := ∃ (q : Nat) (os : Array Obj), w' = grow (w.drewN q) os
theorem Gr.below {w w' : World} (h : Gr w w') : Below w.heap.size w w' := by
  obtain ⟨q, os, rfl⟩ := h
  exact Lib.below_grow _ w (Nat.le_refl _) q os
theorem gr1 (w : World) (o : Obj) : Gr w (w.alloc o) := ⟨0, #[o], by rw [Sort.alloc_eq_grow]; rfl⟩
theorem gr2 (w : World) (o o' : Obj) : Gr w ((w.alloc o).alloc o') := ⟨0, #[o, o'], by rw [Sort.alloc_eq_grow, Sort.alloc_eq_grow, Sort.grow_grow]; rfl⟩
theorem Gr.trans {w w1 w2 : World} (h : Gr w w1) (h' : Gr w1 w2) : Gr w w2 := by
  obtain ⟨n, os, rfl⟩ := h
  obtain ⟨m, os', rfl⟩ := h'
  exact ⟨n + m, os ++ os', by show grow (grow ((w.drewN n).drewN m) os) os' = _; rw [Sort.grow_grow, World.drewN_drewN]⟩
theorem gr0 (w : World) : Gr w w := ⟨0, #[], by rw [Sort.grow_empty]; rfl⟩
theorem grB {w : World} (q : Nat) (os : Array Obj) : Below w.heap.size w (grow (w.drewN q) os) := Lib.below_grow _ w (Nat.le_refl _) q os
theorem gr3 (w : World) (o o' o'' : Obj) : Gr w (((w.alloc o).alloc o').alloc o'') := (gr2 w o o').trans (gr1 _ _)
theorem add_at (a : Addr) (i j : Nat) (hj : 0 < j) : (⟨(a.add i).block, (a.add i).off + j, none⟩ : Addr) = a.add (i + j) := by
  unfold Addr.add
  by_cases h : i = 0
  · subst h
    rw [if_neg (show ¬ 0 + j = 0 by omega), Nat.zero_add]
    rfl
  · rw [if_neg h, if_neg (show ¬ i + j = 0 by omega), ← Nat.add_assoc]
theorem box_o {w w' : World} {a : Addr} {v : Value} (h : w.cell? a = some v) (hb : Below w.heap.size w w') : w'.cell? a = some v := (hb.cell (p := a) (cell_lt h)).trans h
theorem Gr.drew {w w' : World} (h : Gr w w') : Gr w w'.drew := h.trans ⟨1, #[], by rw [Sort.grow_empty]; rfl⟩
theorem Gr.drewN {w w' : World} (h : Gr w w') (n : Nat) : Gr w (w'.drewN n) := h.trans ⟨n, #[], by rw [Sort.grow_empty]⟩
theorem Gr.alloc {w w' : World} (h : Gr w w') (o : Obj) : Gr w (w'.alloc o) := h.trans (gr1 _ _)
/-- The cells of a made row of structs of integers. -/
theorem made_ints (k n : Nat) (h : 0 < k) : (madeCells (List.replicate k (Value.int .i64 0)).toArray n).toList = ints (List.replicate n 0) := by
  refine List.ext_getElem (by simp [madeCells, ints]) fun i h1 h2 => ?_
  have h3 : i % k < k := Nat.mod_lt _ h
  simp [madeCells, ints, h3]
end Go.Proofs.Ytbapepflfgcioaa

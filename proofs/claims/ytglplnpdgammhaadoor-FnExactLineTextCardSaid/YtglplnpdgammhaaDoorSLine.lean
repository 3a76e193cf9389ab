/-
  Slices of the struct Line in the laws: compared, marked, read again, copied.
  Conditions: the slices are not too long, and read as the cells that are named.
-/
import Derived.Test.YtglplnpdgammhaaDoorSTerm
namespace Go.Proofs.YtglplnpdgammhaaDoor
set_option linter.unusedSimpArgs false
set_option linter.unusedVariables false
open Go.ChangeShapes Go.WideShapes Go.ChangeAt Go.RowKit
open Go.Sort (grow)

theorem eqLine_same (a b c : Int) (w : World) : Calls Tryd.prog 10 #[.agg #[.int .i64 a, .int .i64 b, .int .i64 c], .agg #[.int .i64 a, .int .i64 b, .int .i64 c]] w fun e w' => e = .returned (.bool true) ∧ Gr w w' := by
  go_enter Tryd.func10, Tryd.ntmps10
  go_wp2
  go_ret
  exact ⟨rfl, gr2 _ _ _⟩
theorem infoLineL : (Tryd.prog.info? 26).map (fun i => (i.zero, i.size, i.bytes)) = some (some (.agg #[.int .i64 0, .int .i64 0, .int .i64 0]), 3, 24) := by kernel_rfl
theorem toLine_load (w : World) (g : Nat) (a b c : Int) (T : TypeId) (hT : T = 26) (h0 : w.cell? ⟨g, 0, none⟩ = some (.int .i64 a)) (h1 : w.cell? ⟨g, 1, none⟩ = some (.int .i64 b)) (h2 : w.cell? ⟨g, 2, none⟩ = some (.int .i64 c)) : (loadVar T ⟨g, 0, none⟩).run Tryd.prog w = .ok (.agg #[.int .i64 a, .int .i64 b, .int .i64 c]) w := by
  subst hT
  simp [loadVar, go_sem, h0, h1, h2]
theorem toLine_result (w : World) (g : Nat) (a b c : Int) (h0 : w.cell? ⟨g, 0, none⟩ = some (.int .i64 a)) (h1 : w.cell? ⟨g, 1, none⟩ = some (.int .i64 b)) (h2 : w.cell? ⟨g, 2, none⟩ = some (.int .i64 c)) {fn : Func} {p : Tmp} {ts : Array Value} (hr : fn.results = #[.cell p 26]) (hp : ts.getD p undef = .pointer (some ⟨g, 0, none⟩)) : (Go.results fn ts).run Tryd.prog w = Result.ok (.agg #[.int .i64 a, .int .i64 b, .int .i64 c]) w := by
  have hp' : ts[p]?.getD undef = .pointer (some ⟨g, 0, none⟩) := by simpa using hp
  have ha : (asAddr (Value.pointer (some ⟨g, 0, none⟩))).run Tryd.prog w = .ok ⟨g, 0, none⟩ w := rfl
  simp only [Go.results, hr]
  simp [Sem.run_bind, Result.andThen, hp', ha, toLine_load w g a b c _ rfl h0 h1 h2]
set_option maxHeartbeats 400000 in
theorem toLine_any (a b c : Int) (w : World) : Calls Tryd.prog 6 #[.agg #[.int .i64 a, .int .i64 b, .int .i64 c]] w fun e w' => e = .returned (.agg #[.int .i64 a, .int .i64 b, .int .i64 c]) ∧ Gr w w' := by
  go_enter Tryd.func6, Tryd.ntmps6
  go_wp2
  refine bodyPost_ret (toLine_result _ (w.heap.size + 1) a b c ?_ ?_ ?_ rfl rfl) rfl ⟨rfl, gr3 _ _ _ _⟩
  all_goals simp [go_sem]
def GivesFLine (n : Nat) (zs : List Int) (w : World) (e : Ending) (w' : World) : Prop := ∃ r, e = .returned r ∧ FS 26 3 w' w.heap.size r n zs ∧ Below w.heap.size w w'
end Go.Proofs.YtglplnpdgammhaaDoor

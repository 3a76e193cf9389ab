/-
  A ray put into no rays, in the model: what the calls return.
  Condition: the slice reads as the list that is named.
-/
import Derived.Test.YthegkifhbgopoaaStPut
namespace Go.Proofs.Ythegkifhbgopoaa
set_option linter.unusedSimpArgs false
set_option linter.unusedVariables false
open Go.ChangeShapes Go.WideShapes Go.ChangeAt Go.RowKit
open Go.Sort (grow)

theorem step_app_none {w : World} {ops : Array Oper} {o : Oper} {a : Act} {K : Act → World → Prop} {Q : Exit → Act → World → Prop} {E : Prop} (hgd : o.guard = none) (s t : Operand)
    (ho : o.op = .call { callee := .builtin .append, args := #[s, t], argTypes := #[47, 47] })
    (B : Nat) (v : Value) (n : Nat) (xs : List Value) (hs : a.eval s = v) (hown : w.ownsRow B 39 3 v n xs) (hx : a.eval t = .slice none 0 0)
    (h : K (a.put o.dst v) w) : if Region.wanted o (yielded ops a.tmps) = true then Oper.wp Try.prog o a w K Q else E := by
  obtain ⟨i0, hi, hz0, hz1, hz2⟩ := info_parts infoRay
  have hw : Region.wanted o (yielded ops a.tmps) = true := by simp [Region.wanted, hgd]
  rw [if_pos hw]
  exact Lib.wp_append_run w s t 47 47 ho v (.slice none 0 0) hs hx v w (run_append_owned_none w B 47 o.type 39 i0 3 Try.underlying47 hi v n xs hown) h
set_option maxHeartbeats 2000000 in
set_option maxRecDepth 100000 in
theorem stPut_nil (w : World) (t : Tm) : Calls Try.prog 73 #[.slice none 0 0, tmV t] w fun e w' => GivesRy [t] w e w' := by
  have hT := T3.new w t 39
  have hgr := gr1 w (.cells #[.int .i64 t.1, .int .i64 t.2.1, .int .i64 t.2.2] 39)
  have hsz := World.size_alloc w (.cells #[.int .i64 t.1, .int .i64 t.2.1, .int .i64 t.2.2] 39)
  go_enter Try.func73, Try.ntmps73
  go_wp2
  generalize w.alloc (.cells #[.int .i64 t.1, .int .i64 t.2.1, .int .i64 t.2.2] 39) = wA at hT hgr hsz ⊢
  have HT := Lib.hid hT
  have HG := Lib.hid hgr
  clear hT hgr
  go_loopw [5] (fun i wr => i = .int .i64 0 ∧ Hid (Gr wA wr)) (fun i _ => (intOf i).toNat)
  case atStart => exact ⟨rfl, Lib.hid (gr0 _)⟩
  case round =>
    obtain ⟨rfl, hgw⟩ := hrel
    go_wp2_with fail
    refine wp_region_quiet_grown (by kernel_rfl) (by kernel_rfl) ?_
    repeat (go_big_quiet_step ((fail)))
    refine wpQuiet_nil ?_
    intro _ hw'
    obtain ⟨⟨nq, osq⟩, hw''⟩ := hw'
    subst hw''
    have HYG := Lib.hid (hgw.out.trans ⟨nq, osq, rfl⟩)
    generalize grow (wr.drewN nq) osq = Y at HYG ⊢
    go_wp2_with fail
    refine wp_region_quiet_grown (by kernel_rfl) (by kernel_rfl) ?_
    repeat (go_big_quiet_step ((fail)))
    refine wpQuiet_nil ?_
    intro _ hw'
    obtain ⟨⟨nq, osq⟩, hw''⟩ := hw'
    subst hw''
    have HXG := Lib.hid (HYG.out.trans ⟨nq, osq, rfl⟩)
    generalize grow (Y.drewN nq) osq = X at HXG ⊢
    have HXB := Lib.hid (bel2 HG.out.below HXG.out.below)
    have HTX := Lib.hid (T3.below HT.out HXG.out.below)
    have hSX : S5 X w.heap.size t X := S5.of HTX.out (Below.refl _ _)
    obtain ⟨t0, t1, t2⟩ := HTX.out
    go_wp2_with fail
    go_region_held3 (fun w' => S5 X w.heap.size t w') (repeat' (first | with_reducible assumption | with_reducible refine S5.drew ?_ | with_reducible refine S5.drewN ?_ _ | with_reducible refine S5.alloc ?_ _)) (first | (refine step_app_none (by rfl) (.tmp 45) (.tmp 48) (by rfl) X.heap.size (.slice (some ⟨X.heap.size, 0, none⟩) 0 0) 0 (ints []) (by rfl) (by first | exact tw_new _ _ (Nat.le_refl _) | exact World.ownsRow.alloc (tw_new _ _ (Nat.le_refl _)) _) (by rfl) ?_) | (refine step_app_none (by rfl) (.tmp 45) (.tmp 48) (by rfl) X.heap.size (.slice (some ⟨X.heap.size + 1, 0, none⟩) 0 0) 0 (ints []) (by rfl) (tw_new' _ _ _ (Nat.le_refl _)) (by rfl) ?_) | (refine step_app_tm (by rfl) (.tmp 49) (.tmp 51) (by rfl) X w.heap.size t HTX.out (.slice (some ⟨X.heap.size, 0, none⟩) 0 0) 0 [] (by rfl) (World.ownsRow.alloc (tw_new _ _ (Nat.le_refl _)) _) ⟨X.heap.size + 1, 0, none⟩ 1 1 (encT t) (by rfl) rfl (T3.news (lit_new2 _ _ t)) (by omega) (by assumption) ?_; intro v2 w2 hown2 hS2 hk2) | (refine step_app_tm (by rfl) (.tmp 49) (.tmp 51) (by rfl) X w.heap.size t HTX.out (.slice (some ⟨X.heap.size + 1, 0, none⟩) 0 0) 0 [] (by rfl) (tw_new' _ _ _ (Nat.le_refl _)) ⟨X.heap.size, 0, none⟩ 1 1 (encT t) (by rfl) rfl (T3.news (lit_new3 _ _ t)) (by omega) (by assumption) ?_; intro v2 w2 hown2 hS2 hk2) | (refine step_app_none (by rfl) (.tmp 52) (.tmp 53) (by rfl) X.heap.size v2 (0 + 1) _ (by rfl) hown2 (by rfl) ?_))
    all_goals
      go_wp2
      go_ret
      refine ⟨_, rfl, ?_, bel2 HXB.out hS2.2.2.2⟩
      exact FS.base (zs := [] ++ encT t) hown2 HXB.out.size
end Go.Proofs.Ythegkifhbgopoaa

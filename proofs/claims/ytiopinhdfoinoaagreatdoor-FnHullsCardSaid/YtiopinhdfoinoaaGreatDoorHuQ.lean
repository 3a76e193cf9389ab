/-
  The law on hulls: drawn points' hulls, edges, texts; rows of points compared.
  Condition: the two rows read as the same points.
-/
import Derived.Test.YtiopinhdfoinoaaGreatDoorDrawW
import Derived.Test.YtiopinhdfoinoaaGreatDoorPgTx
import Derived.Test.YtiopinhdfoinoaaGreatDoorPgParse
import Derived.Test.YtiopinhdfoinoaaGreatDoorPgE
import Derived.Test.YtiopinhdfoinoaaGreatDoorPgP
namespace Go.Proofs.YtiopinhdfoinoaaGreatDoor
set_option linter.unusedSimpArgs false
set_option linter.unusedVariables false
open Go.ChangeShapes Go.WideShapes Go.ChangeAt Go.RowKit

theorem hull_fits {l : List Pt} (h : ptsB l = true) : pgB (huR l) = true ∧ ∀ k, k < l.length → ptG (pd l k) = true ∧ hpR (huR l) (pd l k) = true ∧ hpB (huR l) (pd l k) = true := by
  obtain ⟨h1, h2, h3⟩ := (ptsB_iff l).1 h
  have hl : l ≠ [] := by intro h0; rw [h0] at h1; simp at h1
  have hg : pgB (huR l) = true := by rw [huR_yes h]; exact hul_pg h
  refine ⟨hg, fun k hk => ?_⟩
  have hm := pd_mem hk
  obtain ⟨q1, q2⟩ := hp_yes hg (h3 _ hm)
  refine ⟨h3 _ hm, ?_, q1⟩
  rw [q2, huR_yes h]
  exact hul_has hl hm
theorem pg_at {l : List Pt} (h : pgB l = true) {k : Nat} (hk : k < l.length) : Sm 100 (pd l k) := (pg_pts h).2.2 _ (pd_mem hk)
/-- The edges, summed from the first on, come back. -/
theorem edges_fits {l : List Pt} (h : pgB l = true) : ∃ f : Nat → Pt, f 0 = (0, 0) ∧ f (edR l).length = (0, 0) ∧ ∀ k, k < (edR l).length → (f (k + 1)).1 = (f k).1 + (pd (edR l) k).1 ∧ (f (k + 1)).2 = (f k).2 + (pd (edR l) k).2 ∧ Sm 200 (f (k + 1)) := by
  have hl := (pg_pts h).1
  have he : edR l = edL l := if_pos h
  rw [he]
  refine ⟨fun k => if k < l.length then dfP (pd l 0) (pd l k) else (0, 0), ?_, ?_, ?_⟩
  · show (if 0 < l.length then dfP (pd l 0) (pd l 0) else (0, 0)) = (0, 0)
    rw [if_pos (by omega)]
    unfold dfP
    ext <;> simp
  · show (if (edL l).length < l.length then dfP (pd l 0) (pd l (edL l).length) else (0, 0)) = (0, 0)
    by_cases h1 : l.length = 1
    · have : edL l = [] := if_pos h1
      rw [this, if_pos (by simp; omega)]
      unfold dfP
      ext <;> simp
    · have : edL l = edT l l.length := if_neg h1
      rw [this, edT_len, if_neg (by omega)]
  · intro k hk
    by_cases h1 : l.length = 1
    · have : edL l = [] := if_pos h1
      rw [this] at hk; simp at hk
    · have ht : edL l = edT l l.length := if_neg h1
      rw [ht, edT_len] at hk
      rw [ht, edT_pd l hk]
      have s0 := pg_at h (show 0 < l.length by omega)
      have sk := pg_at h hk
      show (if k + 1 < l.length then dfP (pd l 0) (pd l (k + 1)) else (0, 0)).1 = (if k < l.length then dfP (pd l 0) (pd l k) else (0, 0)).1 + (edP l k).1 ∧ (if k + 1 < l.length then dfP (pd l 0) (pd l (k + 1)) else (0, 0)).2 = (if k < l.length then dfP (pd l 0) (pd l k) else (0, 0)).2 + (edP l k).2 ∧ Sm 200 (if k + 1 < l.length then dfP (pd l 0) (pd l (k + 1)) else (0, 0))
      rw [if_pos hk]
      by_cases h2 : k + 1 < l.length
      · rw [if_pos h2]
        have e1 : edP l k = dfP (pd l k) (pd l (k + 1)) := by unfold edP nxP; rw [Nat.mod_eq_of_lt h2]
        rw [e1]
        refine ⟨?_, ?_, s0.df (pg_at h h2)⟩
        · unfold dfP; simp only; omega
        · unfold dfP; simp only; omega
      · rw [if_neg h2]
        have hk1 : k + 1 = l.length := by omega
        have e1 : edP l k = dfP (pd l k) (pd l 0) := by unfold edP nxP; rw [hk1, Nat.mod_self]
        rw [e1]
        refine ⟨?_, ?_, by unfold Sm; simp⟩
        · unfold dfP; simp only; omega
        · unfold dfP; simp only; omega
theorem edges_fits2 {l : List Pt} (h : pgB l = true) : ∃ fx fy : Nat → Int, fx 0 = 0 ∧ fy 0 = 0 ∧ fx (edR l).length = 0 ∧ fy (edR l).length = 0 ∧ ∀ k, k < (edR l).length → fx (k + 1) = fx k + (pd (edR l) k).1 ∧ fy (k + 1) = fy k + (pd (edR l) k).2 ∧ (-200 ≤ fx (k + 1) ∧ fx (k + 1) ≤ 200) ∧ -200 ≤ fy (k + 1) ∧ fy (k + 1) ≤ 200 := by
  obtain ⟨f, h0, h1, h2⟩ := edges_fits h
  refine ⟨fun k => (f k).1, fun k => (f k).2, by simp [h0], by simp [h0], by simp [h1], by simp [h1], fun k hk => ?_⟩
  obtain ⟨q1, q2, q3⟩ := h2 k hk
  obtain ⟨a, b, c, d⟩ := q3
  exact ⟨q1, q2, ⟨a, b⟩, c, d⟩
theorem ptS_at {w : World} {B n cap : Nat} {A : Option Addr} {l : List Pt} (h : PtS w B (.slice A n cap) l) : ∀ k, k < l.length → ∃ g, A = some ⟨g, 0, none⟩ ∧ X2 w g (k * 2) (pd l k) := by
  obtain ⟨A', cap', he, -, hp⟩ := PtS.parts h
  cases he
  exact hp
theorem size_of_list (l : List UInt8) : (ByteArray.mk l.toArray).size = l.length := by show l.toArray.size = _; simp
/-- A polygon's text is read back. -/
theorem text_fits {l : List Pt} (h : pgB l = true) : pypB (pyR l) = true ∧ pypR (pyR l) = l ∧ (pyR l).length ≤ 1000000 := by
  obtain ⟨h1, h2⟩ := pyp_of h (pyR_yes h)
  refine ⟨h1, h2, ?_⟩
  obtain ⟨q1, q2, q3⟩ := pg_pts h
  have h3 := pyT_len (fun t ht => (q3 t ht).mono (by omega)) l.length (Nat.le_refl _)
  rw [pyR_yes h]
  show (pyT l l.length).length ≤ 1000000
  omega
set_option maxHeartbeats 1000000 in
theorem qPoints_same (w : World) (B B' : Nat) (v v' : Value) (l : List Pt) (h : PtS w B v l) (h' : PtS w B' v' l) : Calls Tryz.prog 7 #[v, v'] w fun e w' => e = .returned (.bool true) ∧ ∃ n, w' = w.drewN n := by
  obtain ⟨A, cap, rfl, hm, hp⟩ := PtS.parts h
  obtain ⟨A', cap', rfl, hm', hp'⟩ := PtS.parts h'
  unfold maxLen at hm hm'
  have HP := Lib.hid hp
  have HP' := Lib.hid hp'
  clear hp hp' h h'
  go_enter Tryz.func7, Tryz.ntmps7
  go_wp2
  go_loopw [13] (fun i wr => ∃ k : Nat, k ≤ l.length ∧ i = .int .i64 k ∧ ∃ n, wr = w.drewN n) (fun i _ => l.length - (intOf i).toNat)
  case atStart => exact ⟨0, by omega, rfl, 0, rfl⟩
  case round =>
    obtain ⟨k, hk, rfl, n, rfl⟩ := hrel
    by_cases hlt : k < l.length
    · obtain ⟨g, rfl, c0, c1⟩ := HP.out k hlt
      obtain ⟨g', rfl, c0', c1'⟩ := HP'.out k hlt
      obtain ⟨x, hx⟩ : ∃ x, x = (pd l k).1 := ⟨_, rfl⟩
      obtain ⟨y, hy⟩ : ∃ x, x = (pd l k).2 := ⟨_, rfl⟩
      rw [← hx] at c0 c0'
      rw [← hy] at c1 c1'
      clear hx hy
      have hne : ∀ W, Sem.run Tryz.prog (binOp .neq 30 (ptV (pd l k)) (ptV (pd l k))) W = .ok (.bool false) W := fun W => by rw [nePt, (eqB_iff _ _).2 rfl]; rfl
      go_wp2
      go_quiet (fail)
      go_wp2
      go_roundw
      case rel => exact ⟨k + 1, by omega, by go_num, _, rfl⟩
      case measure => simp [intOf]; omega
    · go_wp2
      go_ret
      exact ⟨rfl, n, rfl⟩
end Go.Proofs.YtiopinhdfoinoaaGreatDoor

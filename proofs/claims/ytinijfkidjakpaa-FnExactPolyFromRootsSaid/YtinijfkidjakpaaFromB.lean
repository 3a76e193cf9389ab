/-
  Polynomials of given roots, in the model: what the call returns.
  Condition: the slice reads as the list that is named.
-/
import Derived.Test.YtinijfkidjakpaaFrom
namespace Go.Proofs.Ytinijfkidjakpaa
set_option linter.unusedSimpArgs false
set_option linter.unusedVariables false
open Go.ChangeShapes Go.WideShapes Go.ChangeAt Go.RowKit

theorem insI_at (r : Int) : ∀ (s : List Int) (a : Nat), a ≤ s.length → (∀ j, j < a → gd s j < r) → (a < s.length → ¬ gd s a < r) → insI r s = s.take a ++ [r] ++ s.drop a
  | [], a, h, _, _ => by
    have : a = 0 := by simpa using h
    subst this; rfl
  | x :: t, 0, _, _, h => by
    have h0 : ¬ x < r := h (by simp)
    simp [insI, h0]
  | x :: t, a + 1, hl, h1, h2 => by
    have h0 : x < r := h1 0 (by omega)
    have ih := insI_at r t a (by simpa using hl) (fun j hj => h1 (j + 1) (by omega)) (fun ha => h2 (by simpa using ha))
    simp [insI, h0, ih]
/-- The slice at block g reads as s, and nothing that lay there when x was has changed. -/
def SS (x : World) (g : Nat) (s : List Int) (w : World) : Prop := (∀ j, j < s.length → w.cell? ⟨g, j, none⟩ = some (.int .i64 (gd s j))) ∧ Below x.heap.size x w ∧ g < x.heap.size
section
variable {x w w' : World} {g : Nat} {s : List Int}
theorem SS.drew (h : SS x g s w) : SS x g s w.drew := ⟨h.1, h.2.1.drew, h.2.2⟩
theorem SS.drewN (h : SS x g s w) (n : Nat) : SS x g s (w.drewN n) := ⟨h.1, belN h.2.1 n, h.2.2⟩
theorem SS.alloc (h : SS x g s w) (o : Obj) : SS x g s (w.alloc o) := by
  have hs := h.2.1.size
  exact ⟨fun j hj => ((Below.refl w.heap.size w).alloc (Nat.le_refl _) o |>.cell (p := ⟨g, j, none⟩) (by show g < w.heap.size; have := h.2.2; omega)).trans (h.1 j hj), h.2.1.alloc hs o, h.2.2⟩
theorem SS.grown {row : Option Nat} (h : SS x g s w) (hg : w.grownBy w' row) (hr : ∀ k, row = some k → x.heap.size ≤ k) : SS x g s w' :=
  ⟨fun j hj => hg.cell (h.1 j hj) (fun e => by have := hr g e.symm; have := h.2.2; omega), h.2.1.grown hg h.2.1.size hr, h.2.2⟩
theorem SS.take (h : SS x g s w) (a : Nat) : ∀ j u, (ints (s.take a))[j]? = some u → w.cell? ((⟨g, 0, none⟩ : Addr).add j) = some u := fun j u hu => by
  obtain ⟨h1, h2⟩ := List.getElem?_eq_some_iff.1 hu
  have h3 : j < (s.take a).length := by simpa [ints] using h1
  have h4 : j < s.length := by rw [List.length_take] at h3; omega
  have h0 : (⟨g, 0, none⟩ : Addr).add j = ⟨g, j, none⟩ := by simp [Addr.add]; try omega
  rw [h0, h.1 j h4, ← h2]
  simp [ints, gd_eq s j h4]
theorem SS.drop (h : SS x g s w) (a : Nat) : ∀ j u, (ints (s.drop a))[j]? = some u → w.cell? ((⟨g, a, none⟩ : Addr).add j) = some u := fun j u hu => by
  obtain ⟨h1, h2⟩ := List.getElem?_eq_some_iff.1 hu
  have h3 : j < (s.drop a).length := by simpa [ints] using h1
  have h4 : a + j < s.length := by rw [List.length_drop] at h3; omega
  have h0 : (⟨g, a, none⟩ : Addr).add j = ⟨g, a + j, none⟩ := by simp [Addr.add]; try omega
  rw [h0, h.1 (a + j) h4, ← h2]
  simp [ints, gd_eq s (a + j) h4]
end
theorem one_cellN {w : World} {b : Nat} {r : Int} (h : w.cell? ⟨b, 0, none⟩ = some (.int .i64 r)) : ∀ j u, (ints [r])[j]? = some u → w.cell? ((⟨b, 0, none⟩ : Addr).add j) = some u := fun j u hu => by
  obtain ⟨h1, h2⟩ := List.getElem?_eq_some_iff.1 hu
  have h3 : j = 0 := by simpa [ints] using h1
  subst h3
  have h0 : (⟨b, 0, none⟩ : Addr).add 0 = ⟨b, 0, none⟩ := by simp [Addr.add]
  rw [h0, h, ← h2]; rfl
theorem cell_new1 (w : World) (r : Int) : (w.alloc (.cells #[.int .i64 r] 3)).cell? ⟨w.heap.size, 0, none⟩ = some (.int .i64 r) := by
  have := new_cells w 3 #[.int .i64 r] 0 (.int .i64 r) rfl
  have h0 : (⟨w.heap.size, 0, none⟩ : Addr).add 0 = ⟨w.heap.size, 0, none⟩ := by simp [Addr.add]
  rwa [h0] at this
theorem ow_new (w : World) (B : Nat) (h : B ≤ w.heap.size) : (w.alloc (.cells #[] 3)).ownsRow B 3 1 (.slice (some ⟨w.heap.size, 0, none⟩) 0 0) 0 (ints []) := World.ownsRow_made w #[] 0 h (Nat.zero_le _) rfl
theorem ow_new' (w : World) (o : Obj) (B : Nat) (h : B ≤ w.heap.size) : ((w.alloc o).alloc (.cells #[] 3)).ownsRow B 3 1 (.slice (some ⟨w.heap.size + 1, 0, none⟩) 0 0) 0 (ints []) := by
  have hs : (w.alloc o).heap.size = w.heap.size + 1 := by simp
  have := ow_new (w.alloc o) B (by omega)
  rwa [hs] at this
theorem cell_new2 (w : World) (o : Obj) (r : Int) : ((w.alloc o).alloc (.cells #[.int .i64 r] 3)).cell? ⟨w.heap.size + 1, 0, none⟩ = some (.int .i64 r) := by
  have h := cell_new1 (w.alloc o) r
  have hs : (w.alloc o).heap.size = w.heap.size + 1 := by simp
  rwa [hs] at h
theorem cell_new3 (w : World) (o : Obj) (r : Int) : ((w.alloc (.cells #[.int .i64 r] 3)).alloc o).cell? ⟨w.heap.size, 0, none⟩ = some (.int .i64 r) :=
  ((Below.refl _ (w.alloc (.cells #[.int .i64 r] 3))).alloc (Nat.le_refl _) o |>.cell (p := ⟨w.heap.size, 0, none⟩) (by simp)).trans (cell_new1 w r)
theorem insL_len (xs : List Int) : (insL xs).length = xs.length := (insL_both xs).1.length_eq
theorem ins_row {w : World} {B : Nat} {v : Value} {S l : List Int} {j k : Nat} {r : Int} (hl : S.length = k) (hj : j ≤ k) (hi : l = S.take j ++ [r] ++ S.drop j) (h : w.ownsRow B 3 1 v (0 + j + 1 + (k - j)) (ints ([] ++ S.take j ++ [r] ++ S.drop j))) : IS w B v l := by
  subst hi
  unfold IS
  have e : (S.take j ++ [r] ++ S.drop j).length = 0 + j + 1 + (k - j) := by
    simp; omega
  rw [e]
  simpa using h
theorem pf_non {lead : Int} {zs : List Int} {j : Nat} (hj : j ≤ zs.length) (h : finB (sm lead (sortL zs) j) = false) : pfOk lead zs = false := by
  unfold pfOk pfAll
  have : (tab (sm lead (sortL zs)) (zs.length + 1)).all finB = false := by
    rw [List.all_eq_false]
    exact ⟨sm lead (sortL zs) j, by unfold tab; exact List.mem_map.2 ⟨j, List.mem_range.2 (by omega), rfl⟩, by simp [h]⟩
  rw [this, Bool.and_false]
theorem pf_all {lead : Int} {zs : List Int} (hi : pfIn lead zs = true) (h : ∀ j, j ≤ zs.length → finB (sm lead (sortL zs) j) = true) : pfOk lead zs = true := by
  unfold pfOk pfAll
  rw [hi, Bool.true_and, List.all_eq_true]
  intro x hx
  unfold tab at hx
  obtain ⟨j, hj, rfl⟩ := List.mem_map.1 hx
  exact h j (by have := List.mem_range.1 hj; omega)
theorem step_app {w : World} {ops : Array Oper} {o : Oper} {a : Act} {K : Act → World → Prop} {Q : Exit → Act → World → Prop} {E : Prop} (hgd : o.guard = none) (s t : Operand)
    (ho : o.op = .call { callee := .builtin .append, args := #[s, t], argTypes := #[22, 22] })
    (x : World) (g : Nat) (S : List Int) (v : Value) (n : Nat) (xs : List Int) (hs : a.eval s = v) (hown : w.ownsRow x.heap.size 3 1 v n (ints xs))
    (ad : Addr) (m c : Nat) (news : List Int) (hx : a.eval t = .slice (some ad) m c) (hl : news.length = m) (hnews : ∀ j u, (ints news)[j]? = some u → w.cell? (ad.add j) = some u)
    (hb : n + m ≤ 1000) (hS : SS x g S w)
    (h : ∀ v' w', w'.ownsRow x.heap.size 3 1 v' (n + m) (ints (xs ++ news)) → SS x g S w' → (∀ b u, w.cell? ⟨b, 0, none⟩ = some u → (∀ k, v.ownBlock = some k → b ≠ k) → w'.cell? ⟨b, 0, none⟩ = some u) → (v' = .slice none 0 0 ↔ v = .slice none 0 0 ∧ m = 0) → K (a.put o.dst v') w') :
    if Region.wanted o (yielded ops a.tmps) = true then Oper.wp Try.prog o a w K Q else E := by
  obtain ⟨i0, hi, hz0, hz1, hz2⟩ := info_parts infoInt
  refine step_append_own hgd s t 22 ho x.heap.size 3 i0 (.int .i64 0) 1 8 Try.underlying22 hi hz0 hz1 hz2 rfl (by decide) v n (ints xs) hs hown ad m c (ints news) hx (by simp [ints, hl]) hnews (by intro u hu; simp only [ints, List.mem_map] at hu; obtain ⟨y, -, rfl⟩ := hu; rfl) (by unfold maxLen; omega) (by omega) hS.2.1.size ?_
  intro v' w' h1 h2 h3
  refine h v' w' ?_ (hS.grown h2 fun k hk => (World.ownsRow.lt hown k hk).1) (fun b u hc hne => h2.cell hc (fun e => hne b e.symm rfl)) h3
  unfold ints at h1 ⊢
  rw [List.map_append]
  exact h1
theorem IS.some {w : World} {B : Nat} {v : Value} {zs : List Int} (h : IS w B v zs) (hn : v ≠ .slice none 0 0) : ∃ g cap, v = .slice (some ⟨g, 0, none⟩) zs.length cap ∧ B ≤ g ∧ g < w.heap.size ∧ zs.length ≤ cap ∧ cap ≤ maxLen ∧ (∀ j, j < zs.length → w.cell? ⟨g, j, none⟩ = some (.int .i64 (gd zs j))) := by
  have h' := h
  rcases h.2 with ⟨rfl, h0⟩ | ⟨g, cap, cur, rfl, h2, h3, h4, h5, h6, h7⟩
  · exact absurd rfl hn
  · refine ⟨g, cap, rfl, h2, (World.ownsRow.lt h g rfl).2, h4, h5, fun j hj => ?_⟩
    rw [World.ownsRow.cellAt h' j (by omega), getD_ints zs j hj]
set_option maxHeartbeats 1000000 in
set_option maxRecDepth 100000 in
theorem specPolyFromRoots_any (w : World) (B : Nat) (v : Value) (lead : Int) (zs : List Int) (h : IS w B v zs) : Calls Try.prog 37 #[.int .i64 lead, v] w fun e w' => GivesIB (pfOk lead zs) (pfR lead zs) w e w' := by
  have H := Lib.hid h
  obtain ⟨A, cap, rfl, hm, hp⟩ := h.parts
  unfold maxLen at hm
  have HLT := Lib.hid h.lt
  have HP := Lib.hid hp
  clear hp h
  obtain ⟨n, hn⟩ : ∃ n, n = zs.length := ⟨_, rfl⟩
  rw [← hn] at hm HLT ⊢
  have HN := Lib.hid hn
  cases hf : finB lead
  · have HQ := Lib.hid (pf_no2 (zs := zs) hf)
    have HF := Lib.hid hf
    clear hn hf
    go_enter Try.func37, Try.ntmps37
    go_wp2_with fail
    refine (poFinite_any _ _).mono ?_
    rintro e w' ⟨rfl, rfl⟩
    rw [HF.out]
    go_wp2
    go_ret2
    exact givesIB_nil HQ.out (pfR_no HQ.out) (Below.refl _ _)
  · cases hz : zs.all finB
    · have HQ := Lib.hid (pf_no3 (lead := lead) hz)
      have HF := Lib.hid hf
      have HZ := Lib.hid hz
      clear hn hf hz
      go_enter Try.func37, Try.ntmps37
      go_wp2_with fail
      refine (poFinite_any _ _).mono ?_
      rintro e w' ⟨rfl, rfl⟩
      rw [HF.out]
      go_wp2_with fail
      refine (l1All_any _ _ _ zs (by have := H.out; rw [← HN.out] at this; exact this)).mono ?_
      rintro e w' ⟨rfl, rfl⟩
      rw [HZ.out]
      go_wp2
      go_ret2
      exact givesIB_nil HQ.out (pfR_no HQ.out) (Below.refl _ _)
    · by_cases h12 : n ≤ 12
      · have hin := pf_yes (lead := lead) (zs := zs) (by rw [← hn]; exact h12) hf hz
        have HI := Lib.hid hin
        have HF := Lib.hid hf
        have HZ := Lib.hid hz
        have HEND := Lib.hid (show rowK lead (sortL zs) n (n + 1) = pfL lead zs by rw [HN.out]; exact rowK_end lead zs)
        obtain ⟨i0, hi, hz0, hz1, hz2⟩ := info_parts infoInt
        clear hn hf hz hin
        go_enter Try.func37, Try.ntmps37
        go_wp2_with fail
        refine (poFinite_any _ _).mono ?_
        rintro e w' ⟨rfl, rfl⟩
        rw [HF.out]
        go_wp2_with fail
        refine (l1All_any _ _ _ zs (by have := H.out; rw [← HN.out] at this; exact this)).mono ?_
        rintro e w' ⟨rfl, rfl⟩
        rw [HZ.out]
        go_wp2_with (
          refine wpList_make_full _ rfl _ _ 22 rfl w.heap.size 3 i0 (.int .i64 0) 1 Try.underlying22 hi hz0 hz1 .i64 .i64 _ _ (n + 1) rfl rfl (by first | rfl | go_num) (by first | rfl | go_num) (by rw [hz2]; omega) (by simp only [maxLen]; omega) (Nat.le_refl _) ?_
          intro w3 hown hgrow
          have hrow0 : Row w3 w.heap.size w.heap.size (n + 1) (rowK lead (sortL zs) n 0) := by
            rw [show (madeCells (Value.int .i64 0).cells ((n + 1) * 1)).toList = ints (rowK lead (sortL zs) n 0) from by
              rw [Nat.mul_one, rowK_zero]
              exact (toList_madeCells_one (.int .i64 0) (n + 1)).trans (by simp [ints])] at hown
            exact hown
          have HROW := Lib.hid hrow0
          have hb3 : Below w.heap.size w w3 := (Below.refl _ _).grown hgrow (Nat.le_refl _) (fun _ h => by cases h)
          have hl3 : w.heap.size < w3.heap.size := (World.ownsRow.lt hrow0 w.heap.size rfl).2
          have HB3 := Lib.hid hb3
          clear hown hgrow hrow0 hb3)
        go_loopw [7, 33] (fun s i wr => ∃ k : Nat, k ≤ n ∧ i = .int .i64 k ∧ s ≠ .slice none 0 0 ∧ IS wr w3.heap.size s (insL (zs.take k)) ∧ Below w3.heap.size w3 wr) (fun _ i _ => n - (intOf i).toNat)
        case atStart => exact ⟨0, by omega, rfl, by simp, ow_new _ _ (Nat.le_refl _), (Below.refl _ _).alloc (Nat.le_refl _) _⟩
        case round =>
          obtain ⟨k, hk, rfl, hne, hs, hb⟩ := hrel
          obtain ⟨g, cap2, rfl, hg1, hg2, hc1, hc2, hcs⟩ := hs.some hne
          have hs3 := hb.size
          obtain ⟨S, hS⟩ : ∃ S, S = insL (zs.take k) := ⟨_, rfl⟩
          have hsl : S.length = k := by rw [hS, insL_len, List.length_take, ← HN.out]; omega
          rw [← hS] at hcs hc1 ⊢
          rw [hsl] at hc1 ⊢
          have HSL := Lib.hid hsl
          have HCS := Lib.hid hcs
          clear hne hs hcs hsl
          by_cases hlt : k < n
          · obtain ⟨g0, rfl, c0⟩ := HP.out k (by rw [← HN.out]; exact hlt)
            have c1 := ((bel2 HB3.out hb).cell (p := ⟨g0, k, none⟩) (cell_lt c0)).trans c0
            obtain ⟨r, hr⟩ : ∃ r, r = gd zs k := ⟨_, rfl⟩
            rw [← hr] at c1
            have HIN := Lib.hid (show ∀ j, j ≤ k → (∀ i, i < j → gd S i < r) → (j < k → ¬ gd S j < r) → insL (zs.take (k + 1)) = S.take j ++ [r] ++ S.drop j from fun j hj h1 h2 => by
              rw [take_succ_gd zs k (by rw [← HN.out]; exact hlt), insL_snoc, ← hS, ← hr]
              exact insI_at r S j (by rw [HSL.out]; exact hj) h1 (by rw [HSL.out]; exact h2))
            clear c0 hr hS
            go_wp2
            go_loop [10] (fun x => ∃ j : Nat, j ≤ k ∧ x = .int .i64 j ∧ Hid (∀ i, i < j → gd S i < r)) (fun x => k - (intOf x).toNat)
            case atStart => exact ⟨0, by omega, rfl, Lib.hid (by omega)⟩
            case round =>
              obtain ⟨j, hj, rfl, hle⟩ := hrel
              by_cases hj2 : j < k
              · have cj := HCS.out j (by rw [HSL.out]; exact hj2)
                obtain ⟨y, hy⟩ : ∃ y, y = gd S j := ⟨_, rfl⟩
                rw [← hy] at cj
                by_cases key : y < r
                · have HLE := Lib.hid (show ∀ i, i < j + 1 → gd S i < r from fun i hi => by
                    rcases Nat.lt_or_ge i j with h | h
                    · exact hle.out i h
                    · obtain rfl : i = j := by omega
                      rw [← hy]; exact key)
                  clear hy
                  go_wp2
                  go_round
                  case rel => exact ⟨j + 1, by omega, by go_num, HLE⟩
                  case measure => simp [intOf]; omega
                · have HINS := Lib.hid (HIN.out j hj hle.out (fun _ => by rw [← hy]; omega))
                  have hS0 : SS wr g S wr := ⟨HCS.out, Below.refl _ _, hg2⟩
                  have l1 : j ≤ cap2 := by omega
                  have l2 : ¬ cap2 = j := by omega
                  have l3 : ¬ cap2 = 0 := by omega
                  clear hy
                  go_wp2
                  go_region_held3 (fun w' => SS wr g S w') (repeat' (first | with_reducible assumption | with_reducible refine SS.drew ?_ | with_reducible refine SS.drewN ?_ _ | with_reducible refine SS.alloc ?_ _)) (first | ((refine step_app (by rfl) (.tmp 51) (.tmp 54) (by rfl) wr g S (.slice (some ⟨wr.heap.size, 0, none⟩) 0 0) 0 [] (by rfl) (ow_new _ _ (Nat.le_refl _)) ⟨g, 0, none⟩ j _ (S.take j) (by rfl) (by have := HSL.out; rw [List.length_take]; omega) (SS.take (by assumption) _) (by omega) (by assumption) ?_; intro v1 w1 hown1 hS1 hk1 hnil1)) | ((refine step_app (by rfl) (.tmp 51) (.tmp 54) (by rfl) wr g S (.slice (some ⟨wr.heap.size, 0, none⟩) 0 0) 0 [] (by rfl) (World.ownsRow.alloc (ow_new _ _ (Nat.le_refl _)) _) ⟨g, 0, none⟩ j _ (S.take j) (by rfl) (by have := HSL.out; rw [List.length_take]; omega) (SS.take (by assumption) _) (by omega) (by assumption) ?_; intro v1 w1 hown1 hS1 hk1 hnil1; have c57 := hk1 _ _ (cell_new2 _ _ _) (by intro q hq; simp [Value.ownBlock] at hq; omega))) | ((refine step_app (by rfl) (.tmp 51) (.tmp 54) (by rfl) wr g S (.slice (some ⟨wr.heap.size + 1, 0, none⟩) 0 0) 0 [] (by rfl) (ow_new' _ _ _ (Nat.le_refl _)) ⟨g, 0, none⟩ j _ (S.take j) (by rfl) (by have := HSL.out; rw [List.length_take]; omega) (SS.take (by assumption) _) (by omega) (by assumption) ?_; intro v1 w1 hown1 hS1 hk1 hnil1; have c57 := hk1 _ _ (cell_new3 _ _ _) (by intro q hq; simp [Value.ownBlock] at hq; omega))) | ((refine step_app (by rfl) (.tmp 58) (.tmp 61) (by rfl) wr g S v2 (0 + j + 1) ([] ++ S.take j ++ [r]) (by rfl) hown2 ⟨g, j, none⟩ (k - j) _ (S.drop j) (by rfl) (by have := HSL.out; rw [List.length_drop]; omega) (SS.drop (by assumption) _) (by omega) (by assumption) ?_; intro v3 w4 hown3 hS3 hk3 hnil3)) | ((refine step_app (by rfl) (.tmp 55) (.tmp 57) (by rfl) wr g S v1 (0 + j) ([] ++ S.take j) (by rfl) (by first | exact hown1 | exact World.ownsRow.alloc hown1 _) _ 1 1 [r] (by rfl) rfl (by first | exact one_cellN c57 | exact one_cellN (cell_new1 _ _)) (by omega) (by assumption) ?_; intro v2 w2 hown2 hS2 hk2 hnil2)))
                  all_goals (
                    have hrow := (ins_row HSL.out (by omega) HINS.out (by simpa using hown3)).base hb.size
                    have hne3 : v3 ≠ .slice none 0 0 := fun e => by have h1 := (hnil3.1 e).1; have h2 := (hnil2.1 h1).2; omega
                    have hb4 := bel2 hb hS3.2.1
                    go_wp2
                    go_roundw
                    case rel => exact ⟨k + 1, by omega, by go_num, hne3, hrow, hb4⟩
                    case measure => simp [intOf]; omega)
              · obtain rfl : j = k := by omega
                have HINS := Lib.hid (HIN.out j (Nat.le_refl _) hle.out (fun h => by omega))
                have hS0 : SS wr g S wr := ⟨HCS.out, Below.refl _ _, hg2⟩
                by_cases hcap : cap2 = j
                · subst hcap
                  go_wp2
                  go_region_held3 (fun w' => SS wr g S w') (repeat' (first | with_reducible assumption | with_reducible refine SS.drew ?_ | with_reducible refine SS.drewN ?_ _ | with_reducible refine SS.alloc ?_ _)) (first | ((refine step_app (by rfl) (.tmp 51) (.tmp 54) (by rfl) wr g S (.slice (some ⟨wr.heap.size, 0, none⟩) 0 0) 0 [] (by rfl) (ow_new _ _ (Nat.le_refl _)) ⟨g, 0, none⟩ cap2 _ (S.take cap2) (by rfl) (by have := HSL.out; rw [List.length_take]; omega) (SS.take (by assumption) _) (by omega) (by assumption) ?_; intro v1 w1 hown1 hS1 hk1 hnil1)) | ((refine step_app (by rfl) (.tmp 51) (.tmp 54) (by rfl) wr g S (.slice (some ⟨wr.heap.size, 0, none⟩) 0 0) 0 [] (by rfl) (World.ownsRow.alloc (ow_new _ _ (Nat.le_refl _)) _) ⟨g, 0, none⟩ cap2 _ (S.take cap2) (by rfl) (by have := HSL.out; rw [List.length_take]; omega) (SS.take (by assumption) _) (by omega) (by assumption) ?_; intro v1 w1 hown1 hS1 hk1 hnil1; have c57 := hk1 _ _ (cell_new2 _ _ _) (by intro q hq; simp [Value.ownBlock] at hq; omega))) | ((refine step_app (by rfl) (.tmp 51) (.tmp 54) (by rfl) wr g S (.slice (some ⟨wr.heap.size + 1, 0, none⟩) 0 0) 0 [] (by rfl) (ow_new' _ _ _ (Nat.le_refl _)) ⟨g, 0, none⟩ cap2 _ (S.take cap2) (by rfl) (by have := HSL.out; rw [List.length_take]; omega) (SS.take (by assumption) _) (by omega) (by assumption) ?_; intro v1 w1 hown1 hS1 hk1 hnil1; have c57 := hk1 _ _ (cell_new3 _ _ _) (by intro q hq; simp [Value.ownBlock] at hq; omega))) | ((refine step_app (by rfl) (.tmp 58) (.tmp 61) (by rfl) wr g S v2 (0 + cap2 + 1) ([] ++ S.take cap2 ++ [r]) (by rfl) hown2 ⟨g, 0, none⟩ 0 _ (S.drop cap2) (by rfl) (by have := HSL.out; rw [List.length_drop]; omega) (by intro q u hu; rw [List.drop_eq_nil_of_le (by rw [HSL.out]; omega)] at hu; simp [ints] at hu) (by omega) (by assumption) ?_; intro v3 w4 hown3 hS3 hk3 hnil3)) | ((refine step_app (by rfl) (.tmp 55) (.tmp 57) (by rfl) wr g S v1 (0 + cap2) ([] ++ S.take cap2) (by rfl) (by first | exact hown1 | exact World.ownsRow.alloc hown1 _) _ 1 1 [r] (by rfl) rfl (by first | exact one_cellN c57 | exact one_cellN (cell_new1 _ _)) (by omega) (by assumption) ?_; intro v2 w2 hown2 hS2 hk2 hnil2)))
                  all_goals (
                    have hrow := (ins_row HSL.out (by omega) HINS.out (by simpa using hown3)).base hb.size
                    have hne3 : v3 ≠ .slice none 0 0 := fun e => by have h1 := (hnil3.1 e).1; have h2 := (hnil2.1 h1).2; omega
                    have hb4 := bel2 hb hS3.2.1
                    go_wp2
                    go_roundw
                    case rel => exact ⟨cap2 + 1, by omega, by go_num, hne3, hrow, hb4⟩
                    case measure => simp [intOf]; omega)
                · have l2 : ¬ cap2 = j := hcap
                  have l3 : ¬ cap2 = 0 := by omega
                  have l1 : j ≤ cap2 := by omega
                  go_wp2
                  go_region_held3 (fun w' => SS wr g S w') (repeat' (first | with_reducible assumption | with_reducible refine SS.drew ?_ | with_reducible refine SS.drewN ?_ _ | with_reducible refine SS.alloc ?_ _)) (first | ((refine step_app (by rfl) (.tmp 51) (.tmp 54) (by rfl) wr g S (.slice (some ⟨wr.heap.size, 0, none⟩) 0 0) 0 [] (by rfl) (ow_new _ _ (Nat.le_refl _)) ⟨g, 0, none⟩ j _ (S.take j) (by rfl) (by have := HSL.out; rw [List.length_take]; omega) (SS.take (by assumption) _) (by omega) (by assumption) ?_; intro v1 w1 hown1 hS1 hk1 hnil1)) | ((refine step_app (by rfl) (.tmp 51) (.tmp 54) (by rfl) wr g S (.slice (some ⟨wr.heap.size, 0, none⟩) 0 0) 0 [] (by rfl) (World.ownsRow.alloc (ow_new _ _ (Nat.le_refl _)) _) ⟨g, 0, none⟩ j _ (S.take j) (by rfl) (by have := HSL.out; rw [List.length_take]; omega) (SS.take (by assumption) _) (by omega) (by assumption) ?_; intro v1 w1 hown1 hS1 hk1 hnil1; have c57 := hk1 _ _ (cell_new2 _ _ _) (by intro q hq; simp [Value.ownBlock] at hq; omega))) | ((refine step_app (by rfl) (.tmp 51) (.tmp 54) (by rfl) wr g S (.slice (some ⟨wr.heap.size + 1, 0, none⟩) 0 0) 0 [] (by rfl) (ow_new' _ _ _ (Nat.le_refl _)) ⟨g, 0, none⟩ j _ (S.take j) (by rfl) (by have := HSL.out; rw [List.length_take]; omega) (SS.take (by assumption) _) (by omega) (by assumption) ?_; intro v1 w1 hown1 hS1 hk1 hnil1; have c57 := hk1 _ _ (cell_new3 _ _ _) (by intro q hq; simp [Value.ownBlock] at hq; omega))) | ((refine step_app (by rfl) (.tmp 58) (.tmp 61) (by rfl) wr g S v2 (0 + j + 1) ([] ++ S.take j ++ [r]) (by rfl) hown2 ⟨g, j, none⟩ 0 _ (S.drop j) (by rfl) (by have := HSL.out; rw [List.length_drop]; omega) (SS.drop (by assumption) _) (by omega) (by assumption) ?_; intro v3 w4 hown3 hS3 hk3 hnil3)) | ((refine step_app (by rfl) (.tmp 55) (.tmp 57) (by rfl) wr g S v1 (0 + j) ([] ++ S.take j) (by rfl) (by first | exact hown1 | exact World.ownsRow.alloc hown1 _) _ 1 1 [r] (by rfl) rfl (by first | exact one_cellN c57 | exact one_cellN (cell_new1 _ _)) (by omega) (by assumption) ?_; intro v2 w2 hown2 hS2 hk2 hnil2)))
                  all_goals (
                    have hrow := (ins_row HSL.out (by omega) HINS.out (by simpa using hown3)).base hb.size
                    have hne3 : v3 ≠ .slice none 0 0 := fun e => by have h1 := (hnil3.1 e).1; have h2 := (hnil2.1 h1).2; omega
                    have hb4 := bel2 hb hS3.2.1
                    go_wp2
                    go_roundw
                    case rel => exact ⟨j + 1, by omega, by go_num, hne3, hrow, hb4⟩
                    case measure => simp [intOf]; omega)
          · obtain rfl : n = k := by omega
            have hSS : S = sortL zs := by rw [hS, ← insL_eq]; congr 1; exact List.take_of_length_le (by rw [← HN.out]; exact Nat.le_refl _)
            have hrw := Row.below HROW.out hb
            rw [← hSS] at hrw
            have HROW2 := Lib.hid hrw
            have HEND2 := Lib.hid (show rowK lead S n (n + 1) = pfL lead zs by rw [hSS]; exact HEND.out)
            have HSF := Lib.hid (show ∀ k, k < n → (-1000000 ≤ gd S k ∧ gd S k ≤ 1000000) ∧ sm lead S (k + 1) = sm lead S k + gd S k from fun k hk => by
              rw [hSS]
              exact ⟨sort_fin (pf_in HI.out).2.1 (by rw [← HN.out]; exact hk), sm_next (by rw [sortL_len, ← HN.out]; exact hk)⟩)
            have HSB := Lib.hid (show ∀ k, k ≤ n → -13000000 ≤ sm lead S k ∧ sm lead S k ≤ 13000000 from fun k hk => by
              have := sm_bd HI.out k (by rw [← HN.out]; exact hk)
              rw [hSS]; omega)
            have HNO := Lib.hid (show ∀ j, j ≤ n → finB (sm lead S j) = false → pfOk lead zs = false from fun j hj h => pf_non (j := j) (by rw [← HN.out]; exact hj) (by rw [← hSS]; exact h))
            have HYES := Lib.hid (show (∀ j, j ≤ n → finB (sm lead S j) = true) → pfOk lead zs = true from fun h => pf_all HI.out fun j hj => by rw [← hSS]; exact h j (by rw [HN.out]; exact hj))
            have HBB := Lib.hid (bel2 HB3.out hb)
            have hsz := (bel2 HB3.out hb).size
            have n1 : ¬ g = w.heap.size := by omega
            have n2 : ¬ w.heap.size = g := by omega
            have hlead := (pf_in HI.out).1
            clear hS hSS hrw hb
            go_wp2
            go_loopw [11, 12] (fun c e wx => ∃ j q : Nat, j ≤ n + 1 ∧ e = .int .i64 ((n : Int) - j) ∧ q ≤ n ∧ (j ≤ n → j = q) ∧ c = .int .i64 (sm lead S q) ∧ Row wx w.heap.size w.heap.size (n + 1) (rowK lead S n j) ∧ wr.grownBy wx (some w.heap.size) ∧ Hid (∀ i, i < j → finB (sm lead S i) = true)) (fun _ e _ => (intOf e + 1).toNat)
            case atStart => exact ⟨0, 0, by omega, by simp, by omega, fun _ => rfl, by rw [sm_zero], HROW2.out, World.grownBy.refl _ _, Lib.hid (by omega)⟩
            case round =>
              obtain ⟨j, q, hj, rfl, hq, hqj, rfl, hrow, hg, hfin⟩ := hrel
              have HBX := Lib.hid (bel_var HBB.out hg (Nat.le_refl _) hsz)
              by_cases hjn : j ≤ n
              · obtain rfl := hqj hjn
                clear hqj hq
                obtain ⟨m, hm'⟩ : ∃ m, m = n - j := ⟨_, rfl⟩
                have e1 : (n : Int) - (j : Int) = (m : Int) := by omega
                rw [e1]
                cases hfj : finB (sm lead S j)
                · have HO := Lib.hid (HNO.out j hjn hfj)
                  have HFJ := Lib.hid hfj
                  clear hfj hm' e1
                  have z0 : (0 : Int) ≤ (m : Int) := by omega
                  go_wp2_with fail
                  refine (poFinite_any _ _).mono ?_
                  rintro e w' ⟨rfl, rfl⟩
                  rw [HFJ.out]
                  go_wp2
                  go_ret2
                  exact givesIB_nil HO.out (pfR_no HO.out) HBX.out
                · have HFJ := Lib.hid hfj
                  have HFN := Lib.hid (show ∀ i, i < j + 1 → finB (sm lead S i) = true from fun i hi => by
                    rcases Nat.lt_or_ge i j with h | h
                    · exact hfin.out i h
                    · obtain rfl : i = j := by omega
                      exact hfj)
                  have hf := World.ownsRow.frozenAt hrow m
                  have hc3 := World.ownsRow.cellAt hrow m (by omega)
                  rw [getD_ints _ m (by rw [rowK_len]; omega)] at hc3
                  have hst := hrow.store m (sm lead S j)
                  rw [hm', rowK_set hjn, ← hm'] at hst
                  have HST := Lib.hid hst
                  have HG2 := Lib.hid (Lib.grownBy_trans hg (grown_set _ w.heap.size m (.int .i64 (sm lead S j))))
                  have lm : m < n + 1 := by omega
                  have z0 : (0 : Int) ≤ (m : Int) := by omega
                  have hb3 := HSB.out j hjn
                  by_cases hlast : j < n
                  · obtain ⟨hb1, hb2⟩ := HSF.out j hlast
                    have hb4 := HSB.out (j + 1) (by omega)
                    have c1 := hg.cell (HCS.out j (by rw [HSL.out]; exact hlast)) (some_ne (by show g ≠ w.heap.size; omega))
                    obtain ⟨a, ha⟩ : ∃ a, a = sm lead S j := ⟨_, rfl⟩
                    obtain ⟨b, hb⟩ : ∃ a, a = gd S j := ⟨_, rfl⟩
                    obtain ⟨c, hc⟩ : ∃ a, a = sm lead S (j + 1) := ⟨_, rfl⟩
                    rw [← ha] at hb2 hb3 HST HG2 HFJ ⊢
                    rw [← hb] at hb1 hb2 c1
                    rw [← hc] at hb2 hb4
                    have q1 : IntKind.i64.wrap (a + b) = c := by rw [hb2]; exact IntWalk.i64_in _ (by omega)
                    have q1' : a + b = c := hb2.symm
                    have q2 : IntKind.i64.wrap ((n : Int) - (m : Int)) = (j : Int) := by rw [IntWalk.i64_in _ (by omega)]; omega
                    have q2' : (n : Int) - (m : Int) = (j : Int) := by omega
                    have z1 : (0 : Int) < (m : Int) := by omega
                    have q3 : IntKind.i64.wrap ((m : Int) - 1) = (m : Int) - 1 := IntWalk.i64_in _ (by omega)
                    have HC := Lib.hid hc
                    have HM := Lib.hid (show (m : Int) - 1 = (n : Int) - ((j + 1 : Nat) : Int) by omega)
                    clear ha hb hc hb2 hst hg hrow hfj hfin hm' e1
                    go_wp2_with fail
                    refine (poFinite_any _ _).mono ?_
                    rintro e w' ⟨rfl, rfl⟩
                    rw [HFJ.out]
                    go_wp2
                    go_roundw
                    case rel => exact ⟨j + 1, j + 1, by omega, by rw [HM.out], by omega, fun _ => rfl, by rw [HC.out], HST.out, HG2.out, HFN⟩
                    case measure => simp [intOf] <;> omega
                  · have z1 : ¬ (0 : Int) < (m : Int) := by omega
                    obtain rfl : m = 0 := by omega
                    obtain ⟨a, ha⟩ : ∃ a, a = sm lead S j := ⟨_, rfl⟩
                    rw [← ha] at hb3 HST HG2 HFJ ⊢
                    have HM := Lib.hid (show (-1 : Int) = (n : Int) - ((j + 1 : Nat) : Int) by omega)
                    have HA := Lib.hid ha
                    clear ha hst hg hrow hfj hfin hm' e1
                    go_wp2_with fail
                    refine (poFinite_any _ _).mono ?_
                    rintro e w' ⟨rfl, rfl⟩
                    rw [HFJ.out]
                    go_wp2
                    go_roundw
                    case rel => exact ⟨j + 1, j, by omega, by first | go_num | rw [← HM.out], hjn, fun h => by omega, by rw [HA.out], HST.out, HG2.out, HFN⟩
                    case measure => simp [intOf] <;> omega
              · obtain rfl : j = n + 1 := by omega
                have HO := Lib.hid (HYES.out fun i hi => hfin.out i (by omega))
                rw [HEND2.out] at hrow
                have HROW3 := Lib.hid hrow
                rw [show (n : Int) - ((n + 1 : Nat) : Int) = -1 by omega]
                clear hrow hg hqj hfin
                go_wp2
                go_ret2
                refine givesIB_yes HO.out ?_ HBX.out
                rw [pfR_yes HO.out]
                unfold IS
                rw [pfL_len, ← HN.out]
                exact HROW3.out
      · have HQ := Lib.hid (pf_no1 (lead := lead) (zs := zs) (by rw [← hn]; exact h12))
        have HF := Lib.hid hf
        have HZ := Lib.hid hz
        clear hn hf hz
        have h13 : 12 < n := by omega
        go_enter Try.func37, Try.ntmps37
        go_wp2_with fail
        refine (poFinite_any _ _).mono ?_
        rintro e w' ⟨rfl, rfl⟩
        rw [HF.out]
        go_wp2_with fail
        refine (l1All_any _ _ _ zs (by have := H.out; rw [← HN.out] at this; exact this)).mono ?_
        rintro e w' ⟨rfl, rfl⟩
        rw [HZ.out]
        go_wp2
        go_ret2
        exact givesIB_nil HQ.out (pfR_no HQ.out) (Below.refl _ _)
end Go.Proofs.Ytinijfkidjakpaa

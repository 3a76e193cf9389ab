/-
  Products of plane polynomials in the program: what the call returns.
  Condition: the slices read as the lists that are named.
-/
import Derived.Test.YtibdbgeknphljaaPlNone
import Derived.Test.YtibdbgeknphljaaPlRow
namespace Go.Proofs.Ytibdbgeknphljaa
set_option linter.unusedSimpArgs false
set_option linter.unusedVariables false
open Go.ChangeShapes Go.WideShapes Go.ChangeAt Go.RowKit
open Go.Sort (grow)

theorem Bx.neT {w : World} {h : Nat} {t : Tm} (b : Bx w h t) {B n : Nat} {v : Value} {zs : List Value} (r : w.ownsRow B 54 3 v n zs) (hn : 2 ≤ n) : some h ≠ v.ownBlock := by
  intro he
  rcases r.2 with ⟨rfl, -⟩ | ⟨g, cap, cur, rfl, -, hg, hnc, -, hs, -⟩
  · cases he
  · simp only [Value.ownBlock, Option.some.injEq] at he
    subst he
    rw [b] at hg
    have : cur.size = 3 := by
      have e : (#[Value.int .i64 t.1, .int .i64 t.2.1, .int .i64 t.2.2] : Array Value) = cur := by simpa using hg
      rw [← e]; rfl
    omega
/-- A term behind a row of terms of our own. -/
theorem wpList_append_tm {ops : Array Oper} {rest : List Oper} {o : Oper} {a : Act} {Q : Exit → Act → World → Prop} (w : World) (hgd : o.guard = none) (s x : Operand)
    (ho : o.op = .call { callee := .builtin .append, args := #[s, x], argTypes := #[25, 25] })
    (B : Nat) (v : Value) (n : Nat) (xs : List Int) (hs : a.eval s = v) (hown : w.ownsRow B 54 3 v n (ints xs)) (ad : Addr) (c : Nat) (t : Tm) (hx : a.eval x = .slice (some ad) 1 c)
    (hnews : ∀ j u, (ints (encT t))[j]? = some u → w.cell? (ad.add j) = some u) (hn : n ≤ 100000) (hB : B ≤ w.heap.size) (hnil : n = 0 → v = .slice none 0 0)
    (h : ∀ v' w', w'.ownsRow B 54 3 v' (n + 1) (ints (xs ++ encT t)) → w.grownBy w' v.ownBlock → (∀ h s, Bx w h s → some h ≠ v.ownBlock → Bx w' h s ∧ some h ≠ v'.ownBlock) → wpList Try.prog ops Q rest (a.put o.dst v') w') :
    wpList Try.prog ops Q (o :: rest) a w := by
  obtain ⟨i0, hi, hz0, hz1, hz2⟩ := info_parts infoTerm
  have e : ints (xs ++ encT t) = ints xs ++ ints (encT t) := by unfold ints; rw [List.map_append]
  by_cases h0 : n = 0
  · have hv := hnil h0
    subst h0
    subst hv
    have hown' : w.ownsRow w.heap.size 54 3 (.slice none 0 0) 0 (ints xs) := ⟨hown.1, .inl ⟨rfl, rfl⟩⟩
    refine wpList_append_own w hgd s x 25 ho w.heap.size 54 i0 (.agg #[.int .i64 0, .int .i64 0, .int .i64 0]) 3 24 Try.underlying25 hi hz0 hz1 hz2 rfl (by decide) _ 0 _ hs hown' ad 1 c (ints (encT t)) hx rfl hnews (by intro u hu; simp [ints, encT] at hu; rcases hu with rfl | rfl | rfl <;> rfl) (by unfold maxLen; omega) (by omega) (Nat.le_refl _) ?_
    intro v' w' h1 h2 h3
    rw [← e] at h1
    refine h v' w' ?_ h2 fun hh s hb hne => ⟨hb.grown h2 hne, fun he => ?_⟩
    · exact FS.base (zs := xs ++ encT t) h1 hB
    · have := (World.ownsRow.lt h1 hh he.symm).1
      have := hb.lt
      omega
  · refine wpList_append_own w hgd s x 25 ho B 54 i0 (.agg #[.int .i64 0, .int .i64 0, .int .i64 0]) 3 24 Try.underlying25 hi hz0 hz1 hz2 rfl (by decide) v n _ hs hown ad 1 c (ints (encT t)) hx rfl hnews (by intro u hu; simp [ints, encT] at hu; rcases hu with rfl | rfl | rfl <;> rfl) (by unfold maxLen; omega) (by omega) hB ?_
    intro v' w' h1 h2 h3
    rw [← e] at h1
    exact h v' w' h1 h2 fun hh s hb hne => ⟨hb.grown h2 hne, (hb.grown h2 hne).neT h1 (by omega)⟩
theorem pq_bd {s t : Tm} (hs : plT s = true) (ht : plT t = true) : IntKind.i64.wrap (s.1 + t.1) = s.1 + t.1 ∧ IntKind.i64.wrap (s.2.1 + t.2.1) = s.2.1 + t.2.1 ∧ IntKind.i64.wrap (s.2.2 + t.2.2) = s.2.2 + t.2.2 := by
  have h1 := plT_parts hs
  have h2 := plT_parts ht
  exact ⟨IntWalk.i64_in _ (by omega), IntWalk.i64_in _ (by omega), IntWalk.i64_in _ (by omega)⟩
theorem TmS.snoc {w : World} {B : Nat} {v : Value} {l : List Tm} {t : Tm} (h : w.ownsRow B 54 3 v (l.length + 1) (ints (flatT l ++ encT t))) : TmS w B v (l ++ [t]) := by
  unfold TmS FS
  rw [flatT_snoc, List.length_append]
  exact h
theorem new_tm_at (w : World) (t : Tm) (n : Nat) (hn : n = w.heap.size) : ∀ j u, (ints (encT t))[j]? = some u → (w.alloc (.cells #[.int .i64 t.1, .int .i64 t.2.1, .int .i64 t.2.2] 54)).cell? ((⟨n, 0, none⟩ : Addr).add j) = some u := by
  subst hn
  exact new_cells w 54 #[.int .i64 t.1, .int .i64 t.2.1, .int .i64 t.2.2]
set_option maxHeartbeats 2000000 in
set_option maxRecDepth 100000 in
theorem implPlaneProduct_any (w : World) (B B' : Nat) (va vb : Value) (a b : List Tm) (h : TmS w B va a) (h' : TmS w B' vb b) : Calls Try.prog 33 #[va, vb] w fun e w' => GivesTmB (ppcB a b) (ppcR a b) w e w' := by
  cases ha : plB a
  · obtain ⟨n1, n2⟩ := ppc_no1 (b := b) ha
    have HA := Lib.hid ha
    have HN1 := Lib.hid n1
    have HN2 := Lib.hid n2
    clear ha n1 n2
    go_enter Try.func33, Try.ntmps33
    go_wp2_with fail
    refine (isPlane_any _ B _ a h).mono ?_
    rintro e w1 ⟨rfl, b1⟩
    rw [HA.out]
    go_wp2
    go_ret2
    exact givesTmB_nil HN1.out HN2.out b1
  · cases hb : plB b
    · obtain ⟨n1, n2⟩ := ppc_no2 (a := a) hb
      have HA := Lib.hid ha
      have HB := Lib.hid hb
      have HN1 := Lib.hid n1
      have HN2 := Lib.hid n2
      clear ha hb n1 n2
      go_enter Try.func33, Try.ntmps33
      go_wp2_with fail
      refine (isPlane_any _ B _ a h).mono ?_
      rintro e w1 ⟨rfl, b1⟩
      have h1' := FS.below h' b1
      rw [HA.out]
      go_wp2_with fail
      refine (isPlane_any _ B' _ b h1').mono ?_
      rintro e w2 ⟨rfl, b2⟩
      rw [HB.out]
      go_wp2
      go_ret2
      exact givesTmB_nil HN1.out HN2.out (bel2 b1 b2)
    · obtain ⟨n1, n2⟩ := ppc_yes ha hb
      have HA := Lib.hid ha
      have HB := Lib.hid hb
      have HN1 := Lib.hid n1
      have HN2 := Lib.hid n2
      have hla := (plB_le ha).2
      have hlb := (plB_le hb).2
      have H := Lib.hid h
      have H' := Lib.hid h'
      obtain ⟨A, cap, rfl, -, hp⟩ := TmS.parts h
      obtain ⟨A', cap', rfl, -, hp'⟩ := TmS.parts h'
      have HP := Lib.hid hp
      have HP' := Lib.hid hp'
      obtain ⟨n, hna⟩ : ∃ n, n = a.length := ⟨_, rfl⟩
      obtain ⟨m, hmb⟩ : ∃ m, m = b.length := ⟨_, rfl⟩
      have HNA := Lib.hid hna
      have HNB := Lib.hid hmb
      clear ha hb n1 n2 h h' hp hp'
      go_enter Try.func33, Try.ntmps33
      go_wp2_with fail
      refine (isPlane_any _ B _ a H.out).mono ?_
      rintro e w1 ⟨rfl, b1⟩
      rw [HA.out]
      go_wp2_with fail
      refine (isPlane_any _ B' _ b (FS.below H'.out b1)).mono ?_
      rintro e w2 ⟨rfl, b2⟩
      have B2 := bel2 b1 b2
      rw [HB.out]
      rw [← hna] at hla ⊢
      rw [← hmb] at hlb ⊢
      clear hna hmb b1 b2
      go_wp2
      go_loopw [6, 21] (fun o i wr => ∃ k : Nat, k ≤ n ∧ i = .int .i64 k ∧ TmS wr w.heap.size o (prT a b k 0) ∧ Hid ((prT a b k 0).length = 0 → o = .slice none 0 0) ∧ Below w.heap.size w wr) (fun _ i _ => n - (intOf i).toNat)
      case atStart => exact ⟨0, by omega, rfl, by rw [prT_0]; exact FS.nil_ _ _ _ _, Lib.hid fun _ => rfl, B2⟩
      case round =>
        obtain ⟨k, hk, rfl, ho, hnil, hb⟩ := hrel
        by_cases hlt : k < n
        · have hka : k < a.length := by rw [← HNA.out]; exact hlt
          obtain ⟨g, rfl, hc0⟩ := HP.out k hka
          obtain ⟨c0, c1, c2⟩ := X3.below hc0 hb
          have hbA := hb.alloc hb.size (.cells #[.int .i64 (td a k).1, .int .i64 (td a k).2.1, .int .i64 (td a k).2.2] 54)
          have hoA := FS.alloc ho (.cells #[.int .i64 (td a k).1, .int .i64 (td a k).2.1, .int .i64 (td a k).2.2] 54)
          have hbx := Bx.new wr (td a k)
          have hne0 : Hid (some wr.heap.size ≠ u6.ownBlock) := Lib.hid fun he => by have := (FS.lt ho _ he.symm).2; omega
          clear hc0
          go_wp2
          go_loopw [6, 27] (fun o i wq => ∃ W : World, W = wq ∧ ∃ j : Nat, j ≤ m ∧ i = .int .i64 j ∧ TmS wq w.heap.size o (prT a b k j) ∧ Hid ((prT a b k j).length = 0 → o = .slice none 0 0) ∧ Bx wq wr.heap.size (td a k) ∧ Hid (some wr.heap.size ≠ o.ownBlock) ∧ Below w.heap.size w wq) (fun _ i _ => m - (intOf i).toNat)
          case atStart => exact ⟨_, rfl, 0, by omega, rfl, hoA, hnil, hbx, hne0, hbA⟩
          case round =>
            obtain ⟨wq, rfl, j, hj, rfl, ho2, hnil2, hbx2, hne2, hb2⟩ := hrel
            by_cases hlt2 : j < m
            · have hjb : j < b.length := by rw [← HNB.out]; exact hlt2
              obtain ⟨g2, rfl, hd0⟩ := HP'.out j hjb
              obtain ⟨d0, d1, d2⟩ := X3.below hd0 hb2
              obtain ⟨p0, p1, p2⟩ := hbx2.cells
              obtain ⟨r1, r2, r3⟩ := pq_bd (plB_at HA.out hka) (plB_at HB.out hjb)
              have hM := prT_next a b k j hjb
              obtain ⟨x, hx⟩ : ∃ x, x = (td a k).1 + (td b j).1 := ⟨_, rfl⟩
              obtain ⟨y, hy⟩ : ∃ y, y = (td a k).2.1 + (td b j).2.1 := ⟨_, rfl⟩
              obtain ⟨z, hz⟩ : ∃ z, z = (td a k).2.2 + (td b j).2.2 := ⟨_, rfl⟩
              have q1 : IntKind.i64.wrap ((td a k).1 + (td b j).1) = x := by rw [hx]; exact r1
              have q2 : IntKind.i64.wrap ((td a k).2.1 + (td b j).2.1) = y := by rw [hy]; exact r2
              have q3 : IntKind.i64.wrap ((td a k).2.2 + (td b j).2.2) = z := by rw [hz]; exact r3
              unfold pq at hM
              rw [← hx, ← hy, ← hz] at hM
              have HM := Lib.hid hM
              have hlen : (prT a b k j).length ≤ 1000 := by
                rw [prT_len a b k j (Nat.le_of_lt hka) (Nat.le_of_lt hjb)]
                have h1 : k * b.length ≤ 12 * 12 := Nat.mul_le_mul (by omega) (by rw [← HNB.out]; exact hlb)
                omega
              have hbB := hb2.alloc hb2.size (.cells #[.int .i64 (td b j).1, .int .i64 (td b j).2.1, .int .i64 (td b j).2.2] 54)
              have hbxB := hbx2.alloc (.cells #[.int .i64 (td b j).1, .int .i64 (td b j).2.1, .int .i64 (td b j).2.2] 54)
              have hz2 := hb2.size
              have hq2 : wr.heap.size < wq.heap.size := hbx2.lt
              clear hd0 hx hy hz hM r1 r2 r3
              go_wp2_with (at_builtin; refine wpList_append_tm _ rfl _ _ rfl w.heap.size _ (prT a b k j).length (flatT (prT a b k j)) rfl (FS.alloc (FS.alloc ho2 _) _) ⟨wq.heap.size + 1, 0, none⟩ _ (x, y, z) rfl (new_tm_at (wq.alloc (.cells #[.int .i64 (td b j).1, .int .i64 (td b j).2.1, .int .i64 (td b j).2.2] 54)) (x, y, z) (wq.heap.size + 1) (by rw [World.size_alloc])) (by omega) (by simp; omega) hnil2.out ?_; intro v' w4 hown hgrow hbk)
              have hrow := TmS.snoc hown
              rw [← HM.out] at hrow
              obtain ⟨hbx4, hne4⟩ := hbk _ _ (hbxB.alloc _) hne2.out
              have hb4 : Below w.heap.size w w4 := (hbB.alloc hbB.size _).grown hgrow (by simp; omega) (fun q hq => (FS.lt ho2 q hq).1)
              have hnil4 : Hid ((prT a b k (j + 1)).length = 0 → v' = .slice none 0 0) := Lib.hid fun h0 => by rw [HM.out] at h0; simp at h0
              clear q1 q2 q3
              go_wp2
              go_roundw
              case rel => exact ⟨_, rfl, j + 1, by omega, by go_num, hrow, hnil4, hbx4, Lib.hid hne4, hb4⟩
              case measure => simp [intOf]; omega
            · obtain rfl : j = m := by omega
              go_wp2
              go_roundw
              case rel => exact ⟨k + 1, by omega, by go_num, by rw [prT_row a b k hka, ← HNB.out]; exact ho2, by rw [prT_row a b k hka, ← HNB.out]; exact hnil2, hb2⟩
              case measure => simp [intOf]; omega
        · obtain rfl : k = n := by omega
          rw [HNA.out, prT_end] at ho
          go_wp2_with fail
          refine (planeOrNone_any _ _ _ _ ho (by have := prT_len a b a.length 0 (Nat.le_refl _) (Nat.zero_le _); rw [prT_end] at this; rw [this, ← HNA.out, ← HNB.out]; have := Nat.mul_le_mul hla hlb; omega)).mono ?_
          rintro e w4 h4
          obtain ⟨r4, rfl, hr4, b4⟩ := h4.ends hb (Nat.le_refl _) (FS.in_ ho)
          go_wp2
          go_ret2
          exact givesTmB_is HN1.out HN2.out hr4 b4
end Go.Proofs.Ytibdbgeknphljaa

/-
  Scaled, mapped and added stars of the model: what the calls return.
  Condition: the slices read as the lists that are named.
-/
import Derived.Test.YthegkifhbgopoaaStG
import Derived.Test.YthegkifhbgopoaaStPutN
namespace Go.Proofs.Ythegkifhbgopoaa
set_option linter.unusedSimpArgs false
set_option linter.unusedVariables false
open Go.ChangeShapes Go.WideShapes Go.ChangeAt Go.RowKit
open Go.Sort (grow)

theorem putR_pos (l : List Tm) (t : Tm) : 0 < (putR l t).length := by
  cases l with
  | nil => simp [putR]
  | cons a r =>
    unfold putR
    split
    · simp
    · split <;> simp
/-! ### Weights that stay small -/
def Wts (l : List Tm) (b : Int) : Prop := ∀ t ∈ l, 0 ≤ t.2.2 ∧ t.2.2 ≤ b
theorem wts_at {l : List Tm} {b : Int} (h : Wts l b) (hb : 0 ≤ b) : ∀ k, k < l.length → 0 ≤ (td l k).2.2 ∧ (td l k).2.2 ≤ b := fun k hk => h _ (td_mem hk)
theorem putR_wts {t : Tm} {b c : Int} (ht : 0 ≤ t.2.2 ∧ t.2.2 ≤ c) (hb : 0 ≤ b) : ∀ {l : List Tm}, Wts l b → Wts (putR l t) (b + c)
  | [], _ => by
    intro s hs
    simp only [putR, List.mem_singleton] at hs
    subst hs; omega
  | a :: r, h => by
    have ha := h a List.mem_cons_self
    have hr : Wts r b := fun s hs => h s (List.mem_cons_of_mem _ hs)
    have ih := putR_wts ht hb hr
    unfold putR
    split
    · intro s hs
      rcases List.mem_cons.1 hs with rfl | hs
      · omega
      · exact ih s hs
    · split
      · intro s hs
        rcases List.mem_cons.1 hs with rfl | hs
        · omega
        · have := h s hs; omega
      · intro s hs
        rcases List.mem_cons.1 hs with rfl | hs
        · simp only; omega
        · have := hr s hs; omega
theorem fold_wts {c b : Int} (hc : 0 ≤ c) (hb : 0 ≤ b) {a : List Tm} (ha : Wts a b) : ∀ (n : Nat) (m : List Tm), m.length = n → Wts m c → Wts (m.foldl putR a) (b + c * n)
  | 0, m, hm, _ => by
    have : m = [] := List.eq_nil_of_length_eq_zero hm
    subst this
    simpa using ha
  | n + 1, m, hm, h => by
    obtain ⟨m', t, rfl⟩ : ∃ m' t, m = m' ++ [t] := ⟨m.dropLast, m.getLast (by intro e; rw [e] at hm; simp at hm), (List.dropLast_concat_getLast _).symm⟩
    rw [List.foldl_append]
    have hm' : m'.length = n := by simp at hm; omega
    have ih := fold_wts hc hb ha n m' hm' fun s hs => h s (List.mem_append_left _ hs)
    have := putR_wts (h t (by simp)) (show 0 ≤ b + c * n by have := Int.mul_nonneg hc (show (0 : Int) ≤ n by omega); omega) ih
    show Wts (putR (m'.foldl putR a) t) (b + c * ((n + 1 : Nat) : Int))
    have e : b + c * ((n + 1 : Nat) : Int) = b + c * n + c := by push_cast; rw [Int.mul_add]; omega
    rw [e]; exact this
theorem normR_wts {m : List Tm} (hm : m.length ≤ 40) (h : Wts m 20) : ∀ k, k < (normR m).length → -1000000 ≤ (td (normR m) k).2.2 ∧ (td (normR m) k).2.2 ≤ 1000000 := by
  have h0 : Wts ([] : List Tm) 0 := fun s hs => by simp at hs
  have := fold_wts (c := 20) (b := 0) (by omega) (by omega) h0 m.length m rfl h
  intro k hk
  have h2 : 0 ≤ (td (normR m) k).2.2 ∧ (td (normR m) k).2.2 ≤ 0 + 20 * (m.length : Int) := wts_at this (by omega) k hk
  omega
theorem ryB_wts {l : List Tm} (h : ryB l = true) : Wts l 20 := fun t ht => by
  have := ryT_parts (((ryB_iff l).1 h).2.1 t ht); omega
theorem mp_wts {l : List Tm} (a b c d : Int) (h : Wts l 20) : Wts (l.map (mpT a b c d)) 20 := fun s hs => by
  obtain ⟨t, ht, rfl⟩ := List.mem_map.1 hs
  exact h t ht
theorem wts_take {l : List Tm} {b : Int} (h : Wts l b) (k : Nat) : Wts (l.take k) b := fun t ht => h t (List.mem_of_mem_take ht)
theorem wts_app {l m : List Tm} {b : Int} (h : Wts l b) (h' : Wts m b) : Wts (l ++ m) b := fun t ht => by
  rcases List.mem_append.1 ht with ht | ht
  · exact h t ht
  · exact h' t ht
theorem stPut_all (w : World) (B : Nat) (v : Value) (l : List Tm) (t : Tm) (h : RyS w B v l) (hz : l.length ≤ 1000) (hw1 : -1000000 ≤ t.2.2 ∧ t.2.2 ≤ 1000000) (hw2 : ∀ k, k < l.length → -1000000 ≤ (td l k).2.2 ∧ (td l k).2.2 ≤ 1000000) : Calls Try.prog 73 #[v, tmV t] w fun e w' => GivesRy (putR l t) w e w' := by
  by_cases hv : v = .slice none 0 0
  · have hl : l = [] := by
      obtain ⟨A, cap, h1, -, -⟩ := RyS.parts h
      rw [hv] at h1
      have : l.length = 0 := by simp only [Value.slice.injEq] at h1; omega
      exact List.eq_nil_of_length_eq_zero this
    subst hl; subst hv
    exact stPut_nil w t
  · exact stPut_any w B v l t h hz (.inr hv) hw1 hw2
set_option maxHeartbeats 2000000 in
set_option maxRecDepth 100000 in
theorem specScaleStar_any (w : World) (B : Nat) (v : Value) (l : List Tm) (k : Int) (h : RyS w B v l) : Calls Try.prog 38 #[v, .int .i64 k] w fun e w' => GivesRyB (scB l k) (scR l k) w e w' := by
  have HI := Lib.hid (stGood_any w B v l h)
  have HK := Lib.hid (fun W => l1In_any k 1 20 W)
  cases hl : ryB l
  · obtain ⟨n1, n2⟩ := sc_no1 (k := k) hl
    have HN1 := Lib.hid n1
    have HN2 := Lib.hid n2
    rw [hl] at HI
    clear hl n1 n2 h
    go_enter Try.func38, Try.ntmps38
    go_wp2_with fail
    refine HI.out.mono ?_
    rintro e w1 ⟨rfl, b1⟩
    go_wp2
    go_ret2
    exact givesRyB_nil HN1.out HN2.out b1
  · rw [hl] at HI
    cases hk : inB k 1 20
    · obtain ⟨n1, n2⟩ := sc_no2 (l := l) hk
      have HN1 := Lib.hid n1
      have HN2 := Lib.hid n2
      rw [hk] at HK
      clear hl n1 n2 h hk
      go_enter Try.func38, Try.ntmps38
      go_wp2_with fail
      refine HI.out.mono ?_
      rintro e w1 ⟨rfl, b1⟩
      go_wp2_with fail
      refine (HK.out _).mono ?_
      rintro e w' ⟨rfl, rfl⟩
      go_wp2
      go_ret2
      exact givesRyB_nil HN1.out HN2.out b1
    · obtain ⟨k1, k2⟩ := (inB_iff _ _ _).1 hk
      have HSR := Lib.hid (scR_is hl hk)
      have HQ := Lib.hid (fun j (hj : j < l.length) => mul20 (u := (td l j).2.2) (k := k) (by have := ryT_parts (ryB_at hl hj); omega) ⟨k1, k2⟩)
      obtain ⟨A, cap, rfl, hm, hp⟩ := RyS.parts h
      have HP := Lib.hid hp
      obtain ⟨n, hn⟩ : ∃ n, n = l.length := ⟨_, rfl⟩
      have HN := Lib.hid hn
      have hle := ryB_le hl
      rw [hk] at HK
      rw [← hn] at hm hle HI ⊢
      obtain ⟨i0, hi, hz0, hz1, hz2⟩ := info_parts infoRay
      clear hp h hn hm hl hk
      go_enter Try.func38, Try.ntmps38
      go_wp2_with fail
      refine HI.out.mono ?_
      rintro e w1 ⟨rfl, b1⟩
      go_wp2_with fail
      refine (HK.out _).mono ?_
      rintro e w' ⟨rfl, rfl⟩
      go_wp2
      go_loopw [6, 19] (fun o i wr => ∃ j : Nat, j ≤ n ∧ i = .int .i64 j ∧ RyS wr w.heap.size o ((l.take j).map (scT k)) ∧ Below w.heap.size w wr) (fun _ i _ => n - (intOf i).toNat)
      case atStart => exact ⟨0, by omega, rfl, FS.nil_ _ _ _ _, b1⟩
      case round =>
        obtain ⟨j, hj, rfl, ho, hb⟩ := hrel
        by_cases hlt : j < n
        · have hjl : j < l.length := by rw [← HN.out]; exact hlt
          obtain ⟨g, rfl, hc0⟩ := HP.out j hjl
          have hc := X3.below hc0 hb
          have hq := HQ.out j hjl
          have HS := Lib.hid (show (l.take (j + 1)).map (scT k) = (l.take j).map (scT k) ++ [scT k (td l j)] by rw [take_td l j hjl, List.map_append]; rfl)
          have hlen : ((l.take j).map (scT k)).length ≤ 10 := by rw [List.length_map, List.length_take]; omega
          have HF := Lib.hid (show ∀ x y z, td l j = (x, y, z) → scT k (td l j) = (x, y, z * k) from fun x y z e => by rw [e]; rfl)
          obtain ⟨a, b, c, ht⟩ : ∃ a b c, td l j = (a, b, c) := ⟨_, _, _, rfl⟩
          have HT := Lib.hid (HF.out a b c ht)
          rw [ht] at hc hq
          dsimp only at hc hq
          obtain ⟨c0, c1, c2⟩ := hc
          have hgl : g < wr.heap.size := cell_lt c0
          have ho' : wr.ownsRow w.heap.size 39 3 u6 ((l.take j).map (scT k)).length (ints (flatT ((l.take j).map (scT k)))) := ho
          have hs := hb.size
          have hbA := hb.alloc hb.size (.cells #[.int .i64 a, .int .i64 b, .int .i64 (c * k)] 39)
          clear hc0 ht HF
          go_wp2_with (at_builtin; refine wpList_append_own _ rfl _ _ 47 rfl w.heap.size 39 i0 (.agg #[.int .i64 0, .int .i64 0, .int .i64 0]) 3 24 Try.underlying47 hi hz0 hz1 hz2 rfl (by decide) _ _ _ rfl ((ho'.alloc _).alloc _) ⟨wr.heap.size + 1, 0, none⟩ 1 1 (ints (encT (a, b, c * k))) rfl rfl (T3.news (lit_new2 wr _ (a, b, c * k))) (ints_one _) (by unfold maxLen; omega) (by omega) (by simp; omega) ?_; intro v' w2 hown' hgrow hnil)
          have hb' : Below w.heap.size w w2 := (hbA.alloc hbA.size _).grown hgrow (by simp; omega) (fun g' hg' => (World.ownsRow.lt ho' g' hg').1)
          have hrow : RyS w2 w.heap.size v' ((l.take (j + 1)).map (scT k)) := by
            unfold RyS
            rw [HS.out, flatT_snoc, HT.out, List.length_append]
            exact FS.snoc hown'
          clear hown' hgrow ho' ho
          go_wp2
          go_roundw
          case rel => exact ⟨j + 1, by omega, by go_num, hrow, hb'⟩
          case measure => simp [intOf]; omega
        · obtain rfl : j = n := by omega
          rw [HN.out, List.take_length] at ho
          go_wp2_with fail
          refine (stIf_any _ _ _ _ ho).mono ?_
          rintro e w3 ⟨r, rfl, hr, b3⟩
          go_wp2
          go_ret2
          exact givesRyB_is HSR.out.1.symm HSR.out.2 hr (bel2 hb b3)
end Go.Proofs.Ythegkifhbgopoaa

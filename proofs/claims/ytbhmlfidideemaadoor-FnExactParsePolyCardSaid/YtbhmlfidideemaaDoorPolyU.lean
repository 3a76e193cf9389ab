/-
  Polynomials of texts, of the program and of the model: what each call returns.
  Conditions: the texts are shorter than a thousand million bytes; the tables and sentinels read as the program's and the library's text lays them.
-/
import Derived.Test.YtbhmlfidideemaaDoorPolyT
namespace Go.Proofs.YtbhmlfidideemaaDoor
set_option linter.unusedSimpArgs false
set_option linter.unusedVariables false
open Go.ChangeShapes Go.WideShapes Go.ChangeAt Go.RowKit

/-- No comma among these bytes. -/
def noC (l : List UInt8) : Prop := ∀ c ∈ l, ¬ (c.toNat : Int) = 44
theorem c44 {c : UInt8} (h : (c.toNat : Int) = 44) : c = 44 := UInt8.toNat_inj.1 (by show c.toNat = 44; omega)
theorem n44 {c : UInt8} (h : ¬ (c.toNat : Int) = 44) : (c == 44) = false := by
  simp only [beq_eq_false_iff_ne]; rintro rfl; exact h (by decide)
theorem idx_none : ∀ l : List UInt8, noC l → Lib.indexByte l 44 = -1
  | [], _ => rfl
  | c :: r, h => by
    unfold Lib.indexByte
    rw [n44 (h c (by simp)), idx_none r fun x hx => h x (by simp [hx])]
    rfl
theorem idx_at (r : List UInt8) : ∀ l : List UInt8, noC l → Lib.indexByte (l ++ 44 :: r) 44 = l.length
  | [], _ => rfl
  | c :: t, h => by
    rw [List.cons_append]
    unfold Lib.indexByte
    rw [n44 (h c (by simp)), idx_at r t fun x hx => h x (by simp [hx])]
    have h1 : ((t.length : Int) == -1) = false := by simp
    rw [h1]
    simp
/-- Either there is no comma, or a first one. -/
theorem first_c : ∀ l : List UInt8, noC l ∨ ∃ a r, l = a ++ 44 :: r ∧ noC a
  | [] => .inl fun _ h => by cases h
  | c :: t => by
    by_cases hc : (c.toNat : Int) = 44
    · exact .inr ⟨[], t, by rw [c44 hc]; rfl, fun _ h => by cases h⟩
    · rcases first_c t with h | ⟨a, r, h1, h2⟩
      · exact .inl fun x hx => by
          rcases List.mem_cons.1 hx with rfl | hx
          · exact hc
          · exact h x hx
      · exact .inr ⟨c :: a, r, by rw [h1]; rfl, fun x hx => by
          rcases List.mem_cons.1 hx with rfl | hx
          · exact hc
          · exact h2 x hx⟩
theorem sp_none : ∀ (l cur : List UInt8), noC l → sp 44 cur l = [cur ++ l]
  | [], cur, _ => by simp [sp]
  | c :: r, cur, h => by
    rw [sp_miss (h c (by simp)), sp_none r _ fun x hx => h x (by simp [hx])]
    simp
theorem sp_at (r : List UInt8) : ∀ (l cur : List UInt8), noC l → sp 44 cur (l ++ 44 :: r) = (cur ++ l) :: sp 44 [] r
  | [], cur, _ => by rw [List.nil_append, sp_hit (by decide), List.append_nil]
  | c :: t, cur, h => by
    rw [List.cons_append, sp_miss (h c (by simp)), sp_at r t _ fun x hx => h x (by simp [hx])]
    simp
theorem sk_none (k : Nat) (l : List UInt8) (h : noC l) : Lib.splitK [44] 0 k l = [l] := by
  cases k with
  | zero => rfl
  | succ k => unfold Lib.splitK; rw [Lib.index_one, idx_none l h]; rfl
theorem sk_at (k : Nat) (a r : List UInt8) (h : noC a) : Lib.splitK [44] 0 (k + 1) (a ++ 44 :: r) = a :: Lib.splitK [44] 0 k r := by
  have hn : ((a.length : Int) == -1) = false := by simp
  rw [Lib.splitK, Lib.index_one, idx_at r a h, hn]
  simp
/-- Few enough commas: the library cuts at each of them. -/
theorem sk_few : ∀ (k : Nat) (l : List UInt8), (sp 44 [] l).length ≤ k + 1 → Lib.splitK [44] 0 k l = sp 44 [] l
  | 0, l, h => by
    rcases first_c l with h1 | ⟨a, r, rfl, h2⟩
    · rw [sp_none l [] h1]; rfl
    · rw [sp_at r a [] h2] at h
      have := sp_pos 44 r []
      rw [List.length_cons] at h; omega
  | k + 1, l, h => by
    rcases first_c l with h1 | ⟨a, r, rfl, h2⟩
    · rw [sp_none l [] h1, sk_none _ l h1]; rfl
    · rw [sp_at r a [] h2] at h ⊢
      rw [sk_at k a r h2, sk_few k r (by simpa using h)]
      rfl
/-- Too many commas: one of the pieces holds one. -/
theorem sk_many : ∀ (k : Nat) (l : List UInt8), k + 1 < (sp 44 [] l).length → ∃ x ∈ Lib.splitK [44] 0 k l, ¬ noC x
  | 0, l, h => by
    rcases first_c l with h1 | ⟨a, r, rfl, h2⟩
    · rw [sp_none l [] h1] at h; simp at h
    · exact ⟨_, List.mem_singleton.2 rfl, fun hn => hn 44 (by simp) (by decide)⟩
  | k + 1, l, h => by
    rcases first_c l with h1 | ⟨a, r, rfl, h2⟩
    · rw [sp_none l [] h1] at h; simp at h
    · rw [sp_at r a [] h2] at h
      obtain ⟨x, hx, hn⟩ := sk_many k r (by simpa using h)
      rw [sk_at k a r h2]
      exact ⟨x, List.mem_cons_of_mem _ hx, hn⟩
theorem sk_len : ∀ (k : Nat) (l : List UInt8), ∀ x ∈ Lib.splitK [44] 0 k l, x.length ≤ l.length
  | 0, l, x, h => by rw [List.mem_singleton.1 h]; exact Nat.le_refl _
  | k + 1, l, x, h => by
    rcases first_c l with h1 | ⟨a, r, rfl, h2⟩
    · rw [sk_none _ l h1] at h; rw [List.mem_singleton.1 h]; exact Nat.le_refl _
    · rw [sk_at k a r h2] at h
      rcases List.mem_cons.1 h with rfl | h
      · simp
      · have := sk_len k r x h; simp; omega
theorem sp_lens : ∀ (l cur : List UInt8), ∀ x ∈ sp 44 cur l, x.length ≤ cur.length + l.length
  | [], cur, x, h => by simp [sp] at h; rw [h]; simp
  | c :: r, cur, x, h => by
    by_cases hc : (c.toNat : Int) = 44
    · rw [sp_hit hc] at h
      rcases List.mem_cons.1 h with rfl | h
      · simp
      · have := sp_lens r [] x h; simp at this ⊢; omega
    · rw [sp_miss hc] at h
      have := sp_lens r _ x h; simp at this ⊢; omega
theorem sp_count : ∀ (l cur : List UInt8), (sp 44 cur l).length ≤ l.length + 1
  | [], cur => by simp [sp]
  | c :: r, cur => by
    by_cases hc : (c.toNat : Int) = 44
    · rw [sp_hit hc]; have := sp_count r []; simp; omega
    · rw [sp_miss hc]; have := sp_count r (cur ++ [c]); simp; omega
/-- A number's text has no comma. -/
theorem num_noC {n : Int} (h : numB n = true) : noC (numText n) := by
  have hb := numB_bd h
  have hd : ∀ u, noC (Lib.decDigits u) := fun u c hc => by have := dec_digs u c hc; omega
  unfold numText
  split
  · intro c hc; simp at hc; rcases hc with rfl | rfl | rfl <;> decide
  · unfold Lib.itoa
    split
    · intro c hc
      rcases List.mem_cons.1 hc with rfl | hc
      · decide
      · exact hd _ c hc
    · exact hd _
theorem okP_noC {l : List UInt8} (h : okP l = true) : noC l := by
  obtain ⟨h1, h2⟩ := okP_parts h
  rw [← h2]; exact num_noC h1
/-- The pieces that the library makes of a text. -/
def skL (l : List UInt8) : List (List UInt8) := Lib.splitK [44] 0 (min 13 (l.length + 1) - 1) l
/-- Is a text that of a polynomial; and the polynomial. -/
def ppB (l : List UInt8) : Bool := decide ((sp 44 [] l).length ≤ 13) && ((sp 44 [] l).all okP && poB ((sp 44 [] l).map pnV))
def ppR (l : List UInt8) : List Int := if ppB l = true then (sp 44 [] l).map pnV else []
theorem ppR_no {l : List UInt8} (h : ppB l = false) : ppR l = [] := if_neg (by simp [h])
theorem ppR_yes {l : List UInt8} (h : ppB l = true) : ppR l = (sp 44 [] l).map pnV := if_pos h
theorem ppR_le (l : List UInt8) : (ppR l).length ≤ 13 := by
  unfold ppR; split
  · rename_i h
    simp only [ppB, Bool.and_eq_true] at h
    exact (po_parts h.2.2).2.2.1
  · simp
theorem sk_ok {l : List UInt8} (h : (skL l).all okP = true) : skL l = sp 44 [] l ∧ (sp 44 [] l).length ≤ 13 := by
  have hc := sp_count l []
  rcases Nat.lt_or_ge (min 13 (l.length + 1) - 1 + 1) (sp 44 [] l).length with hm | hf
  · obtain ⟨x, hx, hn⟩ := sk_many _ l hm
    exact absurd (okP_noC (List.all_eq_true.1 h x hx)) hn
  · exact ⟨sk_few _ l hf, by omega⟩
theorem pp_bad {l : List UInt8} (h : (skL l).all okP = false) : ppB l = false := by
  cases e : ppB l
  · rfl
  · simp only [ppB, Bool.and_eq_true, decide_eq_true_eq] at e
    have : skL l = sp 44 [] l := sk_few _ l (by have := sp_count l []; omega)
    rw [this, e.2.1] at h; cases h
theorem pp_end {l : List UInt8} (h : (skL l).all okP = true) : ppB l = poB ((skL l).map pnV) := by
  obtain ⟨h1, h2⟩ := sk_ok h
  rw [h1] at h ⊢
  unfold ppB; rw [h]; simp [h2]
theorem pp_yes {l : List UInt8} (h : (skL l).all okP = true) : okL ((skL l).map pnV) = ppR l := by
  unfold okL ppR; rw [pp_end h, (sk_ok h).1]
/-- A variable of the library's own, of whatever value. -/
def MaxM (w : World) : Prop := ∃ m, w.cell? ⟨2, 0, none⟩ = some (.int .i64 m)
theorem MaxM.below {w w' : World} (h : MaxM w) (hb : Below w.heap.size w w') : MaxM w' := by
  obtain ⟨m, hm⟩ := h
  exact ⟨m, (hb.cell (p := ⟨2, 0, none⟩) (cell_lt hm)).trans hm⟩
/-- The pieces of a text: a slice of texts in new memory. -/
def GivesK (l : List UInt8) (w : World) (e : Ending) (w' : World) : Prop := ∃ (g c : Nat) (ps : List ByteArray), e = .returned (.slice (some ⟨g, 0, none⟩) ps.length c) ∧ (∀ k (hk : k < ps.length), w'.cell? ⟨g, k, none⟩ = some (.string ps[k])) ∧ Hid (ps.map (·.data.toList) = skL l) ∧ ps.length ≤ 13 ∧ Below w.heap.size w w'
theorem splitN_b (s : ByteArray) (w : World) (hs : s.size ≤ 1000000000) (hM : MaxM w) : Calls Tryd.prog 50 #[.string s, .string ⟨#[44]⟩, .int .i64 13] w fun e w' => GivesK s.data.toList w e w' := by
  obtain ⟨m, hm⟩ := hM
  refine (Tryd.strings_SplitN s ⟨#[44]⟩ 13 m w (by omega) hm (by decide) (by decide) (by decide)).mono ?_
  rintro e w' ⟨rfl, rfl⟩
  have hl := Lib.splitB_length_le ⟨#[44]⟩ 0 (min 13 (s.size + 1) - 1) s
  refine ⟨_, _, Lib.splitB ⟨#[44]⟩ 0 (min 13 (s.size + 1) - 1) s, rfl, fun k hk => ?_, Lib.hid ?_, by omega, (Below.refl _ _).alloc (Nat.le_refl _) _⟩
  · refine (cell_of_row (w.alloc (.cells (Lib.cellsOf (Lib.splitB ⟨#[44]⟩ 0 (min 13 (s.size + 1) - 1) s) (min 13 (s.size + 1))) 9)) w.heap.size k _ 9 (0, 0) (heap_alloc_new w _)).trans ?_
    unfold Lib.cellsOf
    rw [List.getElem?_toArray, List.getElem?_append_left (by simpa using hk), List.getElem?_map, List.getElem?_eq_getElem hk]
    rfl
  · rw [Lib.splitB_data]
    unfold skL
    rw [show s.data.toList.length = s.size by simp]
/-- The numbers of which these are the texts. -/
def pvs (ps : List ByteArray) : List Int := ps.map fun p => pnV p.data.toList
theorem pvs_len (ps : List ByteArray) : (pvs ps).length = ps.length := by simp [pvs]
theorem pvs_gd (ps : List ByteArray) (k : Nat) (hk : k < ps.length) : gd (pvs ps) k = pnV ps[k].data.toList := by
  rw [gd_eq _ k (by rw [pvs_len]; exact hk)]; simp [pvs]
theorem pvs_map {ps : List ByteArray} {qs : List (List UInt8)} (h : ps.map (·.data.toList) = qs) : pvs ps = qs.map pnV := by rw [← h, List.map_map]; rfl
theorem all_of {ps : List ByteArray} {qs : List (List UInt8)} (h : ps.map (·.data.toList) = qs) (ha : ∀ j (hj : j < ps.length), okP ps[j].data.toList = true) : qs.all okP = true := by
  rw [← h, List.all_eq_true]
  intro x hx
  obtain ⟨p, hp, rfl⟩ := List.mem_map.1 hx
  obtain ⟨j, hj, rfl⟩ := List.getElem_of_mem hp
  exact ha j hj
theorem not_of {ps : List ByteArray} {qs : List (List UInt8)} (h : ps.map (·.data.toList) = qs) (k : Nat) (hk : k < ps.length) (ho : okP ps[k].data.toList = false) : qs.all okP = false := by
  rw [← h, List.all_eq_false]
  exact ⟨ps[k].data.toList, List.mem_map.2 ⟨_, List.getElem_mem hk, rfl⟩, by simp [ho]⟩
theorem size_list (s : ByteArray) : s.data.toList.length = s.size := by simp
theorem pc_size {s : ByteArray} {ps : List ByteArray} {qs : List (List UInt8)} (h : ps.map (·.data.toList) = qs) (hq : ∀ x ∈ qs, x.length ≤ s.size) (k : Nat) (hk : k < ps.length) : ps[k].size ≤ s.size := by
  rw [← size_list ps[k]]
  exact hq _ (by rw [← h]; exact List.mem_map.2 ⟨_, List.getElem_mem hk, rfl⟩)
theorem sp_bad {l : List UInt8} (h : (sp 44 [] l).all okP = false) : ppB l = false := by unfold ppB; rw [h]; simp
theorem sp_long {l : List UInt8} (h : ¬ (sp 44 [] l).length ≤ 13) : ppB l = false := by unfold ppB; simp [h]
theorem sp_yes {l : List UInt8} (h : (sp 44 [] l).all okP = true) (hl : (sp 44 [] l).length ≤ 13) : ppB l = poB ((sp 44 [] l).map pnV) ∧ okL ((sp 44 [] l).map pnV) = ppR l := by
  have h1 : ppB l = poB ((sp 44 [] l).map pnV) := by unfold ppB; rw [h]; simp [hl]
  exact ⟨h1, by unfold okL ppR; rw [h1]⟩
set_option maxHeartbeats 800000 in
set_option maxRecDepth 100000 in
theorem specParsePoly_any (s : ByteArray) (w : World) (hs : s.size ≤ 1000000000) : Calls Tryd.prog 26 #[.string s] w fun e w' => GivesIB (ppB s.data.toList) (ppR s.data.toList) w e w' := by
  obtain ⟨i0, hi, hz0, hz1, hz2⟩ := info_parts infoInt
  go_enter Tryd.func26, Tryd.ntmps26
  go_wp2_with fail
  refine (l1Split_any s 44 _ hs).mono ?_
  rintro e w1 ⟨v, ps, rfl, hts, hps, b1⟩
  have HPS := Lib.hid hps
  have HLEN := Lib.hid (show ps.length = (sp 44 [] s.data.toList).length by rw [← hps]; simp)
  obtain ⟨A, cap, rfl, hpt⟩ := hts.parts
  have HP := Lib.hid hpt
  clear hts hps hpt
  by_cases h13 : ps.length ≤ 13
  · go_wp2_with fail
    go_loopw [5, 17] (fun o i wr => ∃ k : Nat, k ≤ ps.length ∧ i = .int .i64 k ∧ IS wr w1.heap.size o ((pvs ps).take k) ∧ Below w1.heap.size w1 wr ∧ Hid (∀ j (hj : j < ps.length), j < k → okP ps[j].data.toList = true)) (fun _ i _ => ps.length - (intOf i).toNat)
    case atStart => exact ⟨0, by omega, rfl, IS.nil_ _ _, Below.refl _ _, Lib.hid fun j _ h => by omega⟩
    case round =>
      obtain ⟨k, hk, rfl, ho, hb, hall⟩ := hrel
      by_cases hlt : k < ps.length
      · obtain ⟨g, rfl, -, hc0, -⟩ := HP.out k hlt
        have hc := (hb.cell (p := ⟨g, k, none⟩) (cell_lt hc0)).trans hc0
        have hsz := pc_size (s := s) HPS.out (fun x hx => by have := sp_lens s.data.toList [] x hx; rw [size_list] at this; simpa using this) k hlt
        obtain ⟨p, hp⟩ : ∃ p, ps[k] = p := ⟨_, rfl⟩
        rw [hp] at hc hsz
        have HPK := Lib.hid hp
        clear hc0 hp
        go_wp2_with fail
        refine (nuParse_any p _ (by omega)).mono ?_
        rintro e w2 ⟨rfl, b2⟩
        have ho2 := ho.below b2
        have hb2 := bel2 hb b2
        clear ho hb b2 hc
        cases hq : okP p.data.toList
        · have HNO := Lib.hid (sp_bad (l := s.data.toList) (not_of HPS.out k hlt (by rw [HPK.out]; exact hq)))
          go_wp2
          go_ret2
          exact givesIB_nil HNO.out (ppR_no HNO.out) (bel2 b1 hb2)
        · have HG := Lib.hid (show gd (pvs ps) k = pnV p.data.toList by rw [pvs_gd ps k hlt, HPK.out])
          have HTS := Lib.hid (take_succ_gd (pvs ps) k (by rw [pvs_len]; exact hlt))
          have HLn := Lib.hid (show ((pvs ps).take k).length = k by rw [List.length_take, pvs_len]; omega)
          have HOK := Lib.hid hq
          have ho' : w2.ownsRow w1.heap.size 3 1 u5 k (ints ((pvs ps).take k)) := by have := ho2; unfold IS at this; rwa [HLn.out] at this
          clear hq
          go_wp2_with (at_builtin; refine wpList_append_own _ rfl _ _ 22 rfl w1.heap.size 3 i0 (.int .i64 0) 1 8 Tryd.underlying22 hi hz0 hz1 hz2 rfl (by decide) _ _ _ rfl (ho'.alloc _) ⟨w2.heap.size, 0, none⟩ 1 1 [.int .i64 (pnV p.data.toList)] rfl rfl (one_new _ _) (by simp [Value.oneCell']) (by unfold maxLen; omega) (by omega) (by have := hb2.size; simp; omega) ?_; intro v' w3 hown' hgrow hnil)
          have hb' : Below w1.heap.size w1 w3 := (hb2.alloc hb2.size _).grown hgrow (by have := hb2.size; simp; omega) (fun g' hg' => (World.ownsRow.lt ho' g' hg').1)
          have hrow := IS.snoc HLn.out.symm hown'
          rw [← HG.out, ← HTS.out] at hrow
          go_wp2
          go_roundw
          case rel => exact ⟨k + 1, by omega, by go_num, hrow, hb', Lib.hid fun j hj hjk => by
            by_cases e : j = k
            · subst e; rw [HPK.out]; exact HOK.out
            · exact hall.out j hj (by omega)⟩
          case measure => simp [intOf]; omega
      · have hk' : (pvs ps).take k = pvs ps := List.take_of_length_le (by rw [pvs_len]; omega)
        rw [hk'] at ho
        have HE := Lib.hid (sp_yes (all_of HPS.out fun j hj => hall.out j hj (by omega)) (by rw [← HLEN.out]; exact h13))
        rw [← pvs_map HPS.out] at HE
        cases hz : poB (pvs ps)
        · have HB := Lib.hid (HE.out.1.trans hz)
          go_wp2_with (go_at_call 37; refine (poGood_any _ _ _ _ ho).mono ?_; rintro e w' ⟨rfl, rfl⟩)
          go_ret2
          exact givesIB_nil HB.out (ppR_no HB.out) (bel2 b1 hb)
        · have HB := Lib.hid (HE.out.1.trans hz)
          go_wp2_with (go_at_call 37; refine (poGood_any _ _ _ _ ho).mono ?_; rintro e w' ⟨rfl, rfl⟩)
          go_ret2
          exact givesIB_yes HB.out (by rw [← HE.out.2, okL_yes hz]; exact ho.base b1.size) (bel2 b1 hb)
  · have HNO := Lib.hid (sp_long (l := s.data.toList) (by rw [← HLEN.out]; exact h13))
    go_wp2
    go_ret2
    exact givesIB_nil HNO.out (ppR_no HNO.out) b1
set_option maxHeartbeats 800000 in
set_option maxRecDepth 100000 in
theorem implParsePoly_any (s : ByteArray) (w : World) (hs : s.size ≤ 1000000000) (hN : Neut w) (hS : Names w) (hP : Pows w) (hE : Sents w) (hM : MaxM w) : Calls Tryd.prog 27 #[.string s] w fun e w' => GivesIB (ppB s.data.toList) (ppR s.data.toList) w e w' := by
  obtain ⟨i0, hi, hz0, hz1, hz2⟩ := info_parts infoInt
  have HN := Lib.hid (And.intro hN (And.intro hS (And.intro hP hE)))
  clear hN hS hP hE
  go_enter Tryd.func27, Tryd.ntmps27
  go_wp2_with fail
  refine (splitN_b s _ hs hM).mono ?_
  rintro e w1 ⟨g, c, ps, rfl, hpt, HPS, h13, b1⟩
  have HP := Lib.hid hpt
  have HTL := Lib.hid (pvs_len ps)
  clear hpt hM
  go_wp2_with (refine wpList_make_full _ rfl _ _ 22 rfl w1.heap.size 3 i0 (.int .i64 0) 1 Tryd.underlying22 hi hz0 hz1 .i64 .i64 _ _ ps.length rfl rfl rfl rfl (by rw [hz2]; omega) (by simp only [maxLen]; omega) (Nat.le_refl _) ?_; intro w2 hown hgrow)
  have hrow0 : Row w2 w1.heap.size w1.heap.size ps.length (part (pvs ps) 0) := by
    rw [show (madeCells (Value.int .i64 0).cells (ps.length * 1)).toList = ints (part (pvs ps) 0) from by
      rw [Nat.mul_one]
      exact (toList_madeCells_one (.int .i64 0) ps.length).trans (by simp [part, HTL.out])] at hown
    exact hown
  have hb0 : Below w1.heap.size w1 w2 := (Below.refl _ _).grown hgrow (Nat.le_refl _) (fun _ h => by cases h)
  clear hown hgrow
  go_loopw [16] (fun i wr => ∃ k : Nat, k ≤ ps.length ∧ i = .int .i64 k ∧ Row wr w1.heap.size w1.heap.size ps.length (part (pvs ps) k) ∧ Below w1.heap.size w1 wr ∧ Hid (∀ j (hj : j < ps.length), j < k → okP ps[j].data.toList = true)) (fun i _ => ps.length - (intOf i).toNat)
  case atStart => exact ⟨0, by omega, rfl, hrow0, hb0, Lib.hid fun j _ h => by omega⟩
  case round =>
    obtain ⟨k, hk, rfl, hrow, hb, hall⟩ := hrel
    clear hrow0 hb0
    by_cases hlt : k < ps.length
    · have hc0 := HP.out k hlt
      have hc := (hb.cell (p := ⟨g, k, none⟩) (cell_lt hc0)).trans hc0
      have hsz := pc_size (s := s) HPS.out (fun x hx => by have := sk_len _ s.data.toList x hx; rwa [size_list] at this) k hlt
      obtain ⟨p, hp⟩ : ∃ p, ps[k] = p := ⟨_, rfl⟩
      rw [hp] at hc hsz
      have HPK := Lib.hid hp
      have hbw := bel2 b1 hb
      clear hc0 hp
      go_wp2_with fail
      refine (implParseNumber_any p _ (by omega) (HN.out.1.below hbw) (HN.out.2.1.below hbw) (HN.out.2.2.1.below hbw) (HN.out.2.2.2.below hbw)).mono ?_
      rintro e W ⟨rfl, hb2⟩
      have hrow2 := hrow.below hb2
      have hb3 := bel2 hb hb2
      clear hrow hb hb2 hc hbw
      cases hq : okP p.data.toList
      · have HNO := Lib.hid (pp_bad (l := s.data.toList) (not_of HPS.out k hlt (by rw [HPK.out]; exact hq)))
        go_wp2
        go_ret2
        exact givesIB_nil HNO.out (ppR_no HNO.out) (bel2 b1 hb3)
      · have HOK := Lib.hid hq
        have hf := World.ownsRow.frozenAt hrow2 k
        have hc2 := World.ownsRow.cellAt hrow2 k (by omega)
        rw [getD_ints _ k (by rw [part_len _ k (by rw [HTL.out]; exact hk), HTL.out]; exact hlt)] at hc2
        have hrow' := hrow2.store k (gd (pvs ps) k)
        rw [part_set _ k (by rw [HTL.out]; exact hlt), show gd (pvs ps) k = pnV p.data.toList by rw [pvs_gd ps k hlt, HPK.out]] at hrow'
        clear hq
        go_wp2
        go_roundw
        case rel => exact ⟨k + 1, by omega, by go_num, hrow', hb3.setCell (Nat.le_refl _) _, Lib.hid fun j hj hjk => by
          by_cases e : j = k
          · subst e; rw [HPK.out]; exact HOK.out
          · exact hall.out j hj (by omega)⟩
        case measure => simp [intOf]; omega
    · have hr : IS wr w1.heap.size (.slice (some ⟨w1.heap.size, 0, none⟩) ps.length ps.length) (pvs ps) := by
        have := hrow
        rw [part_end _ k (by rw [HTL.out]; omega)] at this
        unfold IS; rw [HTL.out]; exact this
      have hall' := all_of HPS.out fun j hj => hall.out j hj (by omega)
      have HE := Lib.hid (And.intro (pp_end hall') (pp_yes hall'))
      rw [← pvs_map HPS.out] at HE
      clear hall'
      cases hz : poB (pvs ps)
      · have HB := Lib.hid (HE.out.1.trans hz)
        go_wp2_with (go_at_call 31; refine (isPoly_any _ _ _ _ hr).mono ?_; rintro e w' ⟨rfl, rfl⟩)
        go_ret2
        exact givesIB_nil HB.out (ppR_no HB.out) (bel2 b1 hb)
      · have HB := Lib.hid (HE.out.1.trans hz)
        go_wp2_with (go_at_call 31; refine (isPoly_any _ _ _ _ hr).mono ?_; rintro e w' ⟨rfl, rfl⟩)
        go_ret2
        exact givesIB_yes HB.out (by rw [← HE.out.2, okL_yes hz]; exact hr.base b1.size) (bel2 b1 hb)
end Go.Proofs.YtbhmlfidideemaaDoor

/-
  Texts of polynomials in two unknowns, cut into pieces: plain mathematics.
-/
import Derived.Test.YtibdbgeknphljaaDoorSplit
import Derived.Test.YtibdbgeknphljaaDoorPlTxt
import Derived.Lib.IndexBytes
import Derived.Lib.IndexMore
namespace Go.Proofs.YtibdbgeknphljaaDoor
set_option linter.unusedSimpArgs false
set_option linter.unusedVariables false
open Go.ChangeShapes Go.WideShapes Go.ChangeAt Go.RowKit

/-- A byte is not among these. -/
def noB (b : UInt8) (l : List UInt8) : Prop := ∀ c ∈ l, c ≠ b
theorem noB_tail {b c : UInt8} {l : List UInt8} (h : noB b (c :: l)) : noB b l := fun x hx => h x (by simp [hx])
theorem ne_int {b c : UInt8} {i : Int} (hb : (b.toNat : Int) = i) (h : c ≠ b) : ¬ (c.toNat : Int) = i := fun e => h (UInt8.toNat_inj.1 (by omega))
theorem spB_none {b : UInt8} {i : Int} (hb : (b.toNat : Int) = i) : ∀ (l cur : List UInt8), noB b l → sp i cur l = [cur ++ l]
  | [], cur, _ => by simp [sp]
  | c :: r, cur, h => by
    rw [sp_miss (ne_int hb (h c (by simp))), spB_none hb r _ (noB_tail h)]
    simp
theorem spB_at {b : UInt8} {i : Int} (hb : (b.toNat : Int) = i) (r : List UInt8) : ∀ (l cur : List UInt8), noB b l → sp i cur (l ++ b :: r) = (cur ++ l) :: sp i [] r
  | [], cur, _ => by rw [List.nil_append, sp_hit hb, List.append_nil]
  | c :: t, cur, h => by
    rw [List.cons_append, sp_miss (ne_int hb (h c (by simp))), spB_at hb r t _ (noB_tail h)]
    simp
theorem firstB (b : UInt8) : ∀ l : List UInt8, noB b l ∨ ∃ a r, l = a ++ b :: r ∧ noB b a
  | [] => .inl fun _ h => by cases h
  | c :: t => by
    by_cases hc : c = b
    · exact .inr ⟨[], t, by rw [hc]; rfl, fun _ h => by cases h⟩
    · rcases firstB b t with h | ⟨a, r, h1, h2⟩
      · exact .inl fun x hx => by
          rcases List.mem_cons.1 hx with rfl | hx
          · exact hc
          · exact h x hx
      · exact .inr ⟨c :: a, r, by rw [h1]; rfl, fun x hx => by
          rcases List.mem_cons.1 hx with rfl | hx
          · exact hc
          · exact h2 x hx⟩
theorem idxB_none {b : UInt8} : ∀ l : List UInt8, noB b l → Lib.indexByte l b = -1
  | [], _ => rfl
  | c :: r, h => by
    have hc : (c == b) = false := by simp only [beq_eq_false_iff_ne]; exact h c (by simp)
    unfold Lib.indexByte
    rw [hc, idxB_none r (noB_tail h)]
    rfl
theorem idxB_at {b : UInt8} (r : List UInt8) : ∀ l : List UInt8, noB b l → Lib.indexByte (l ++ b :: r) b = l.length
  | [], _ => by unfold Lib.indexByte; simp
  | c :: t, h => by
    have hc : (c == b) = false := by simp only [beq_eq_false_iff_ne]; exact h c (by simp)
    rw [List.cons_append]
    unfold Lib.indexByte
    rw [hc, idxB_at r t (noB_tail h)]
    have h1 : ((t.length : Int) == -1) = false := by simp
    rw [h1]
    simp
theorem cutB_none {b : UInt8} {l : List UInt8} (h : noB b l) : Lib.cut l [b] = (l, [], false) := by
  unfold Lib.cut
  rw [Lib.index_one, idxB_none l h]; rfl
theorem cutB_at {b : UInt8} {a : List UInt8} (r : List UInt8) (h : noB b a) : Lib.cut (a ++ b :: r) [b] = (a, r, true) := by
  unfold Lib.cut
  rw [Lib.index_one, idxB_at r a h, if_pos (by omega)]
  simp
theorem cutB_len (l : List UInt8) (b : UInt8) : ((Lib.cut l [b]).1).length ≤ l.length ∧ ((Lib.cut l [b]).2.1).length ≤ l.length := by
  rcases firstB b l with h | ⟨a, r, rfl, h⟩
  · rw [cutB_none h]; simp
  · rw [cutB_at r h]; simp; omega
theorem skB_none {b : UInt8} (k : Nat) (l : List UInt8) (h : noB b l) : Lib.splitK [b] 0 k l = [l] := by
  cases k with
  | zero => rfl
  | succ k => unfold Lib.splitK; rw [Lib.index_one, idxB_none l h]; rfl
theorem skB_at {b : UInt8} (k : Nat) (a r : List UInt8) (h : noB b a) : Lib.splitK [b] 0 (k + 1) (a ++ b :: r) = a :: Lib.splitK [b] 0 k r := by
  have hn : ((a.length : Int) == -1) = false := by simp
  rw [Lib.splitK, Lib.index_one, idxB_at r a h, hn]
  simp
theorem skB_few {b : UInt8} {i : Int} (hb : (b.toNat : Int) = i) : ∀ (k : Nat) (l : List UInt8), (sp i [] l).length ≤ k + 1 → Lib.splitK [b] 0 k l = sp i [] l
  | 0, l, h => by
    rcases firstB b l with h1 | ⟨a, r, rfl, h2⟩
    · rw [spB_none hb l [] h1]; rfl
    · rw [spB_at hb r a [] h2] at h
      have := sp_pos i r []
      rw [List.length_cons] at h; omega
  | k + 1, l, h => by
    rcases firstB b l with h1 | ⟨a, r, rfl, h2⟩
    · rw [spB_none hb l [] h1, skB_none _ l h1]; rfl
    · rw [spB_at hb r a [] h2] at h ⊢
      rw [skB_at k a r h2, skB_few hb k r (by simpa using h)]
      rfl
/-- Too many of them: what is left at the end is not empty. -/
theorem skB_many {b : UInt8} {i : Int} (hb : (b.toNat : Int) = i) : ∀ (k : Nat) (l : List UInt8), k + 1 < (sp i [] l).length → ∃ ps q, Lib.splitK [b] 0 k l = ps ++ [q] ∧ q ≠ []
  | 0, l, h => ⟨[], l, rfl, fun e => by subst e; simp [sp] at h⟩
  | k + 1, l, h => by
    rcases firstB b l with h1 | ⟨a, r, rfl, h2⟩
    · rw [spB_none hb l [] h1] at h; simp at h
    · rw [spB_at hb r a [] h2] at h
      obtain ⟨ps, q, h3, h4⟩ := skB_many hb k r (by simpa using h)
      exact ⟨a :: ps, q, by rw [skB_at k a r h2, h3]; rfl, h4⟩
theorem skB_len {b : UInt8} : ∀ (k : Nat) (l : List UInt8), ∀ x ∈ Lib.splitK [b] 0 k l, x.length ≤ l.length
  | 0, l, x, h => by rw [List.mem_singleton.1 h]; exact Nat.le_refl _
  | k + 1, l, x, h => by
    rcases firstB b l with h1 | ⟨a, r, rfl, h2⟩
    · rw [skB_none _ l h1] at h; rw [List.mem_singleton.1 h]; exact Nat.le_refl _
    · rw [skB_at k a r h2] at h
      rcases List.mem_cons.1 h with rfl | h
      · simp
      · have := skB_len k r x h; simp; omega
theorem spB_lens (i : Int) : ∀ (l cur : List UInt8), ∀ x ∈ sp i cur l, x.length ≤ cur.length + l.length
  | [], cur, x, h => by simp [sp] at h; rw [h]; simp
  | c :: r, cur, x, h => by
    by_cases hc : (c.toNat : Int) = i
    · rw [sp_hit hc] at h
      rcases List.mem_cons.1 h with rfl | h
      · simp
      · have := spB_lens i r [] x h; simp at this ⊢; omega
    · rw [sp_miss hc] at h
      have := spB_lens i r _ x h; simp at this ⊢; omega
theorem spB_count (i : Int) : ∀ (l cur : List UInt8), (sp i cur l).length ≤ l.length + 1
  | [], cur => by simp [sp]
  | c :: r, cur => by
    by_cases hc : (c.toNat : Int) = i
    · rw [sp_hit hc]; have := spB_count i r []; simp; omega
    · rw [sp_miss hc]; have := spB_count i r (cur ++ [c]); simp; omega
/-- The pieces give the text back. -/
theorem spB_back {b : UInt8} {i : Int} (hb : (b.toNat : Int) = i) : ∀ (l cur : List UInt8), ∃ ps q, sp i cur l = ps ++ [q] ∧ cur ++ l = ps.flatMap (· ++ [b]) ++ q
  | [], cur => ⟨[], cur, by simp [sp], by simp⟩
  | c :: r, cur => by
    by_cases hc : (c.toNat : Int) = i
    · obtain ⟨ps, q, h1, h2⟩ := spB_back hb r []
      have : c = b := UInt8.toNat_inj.1 (by omega)
      refine ⟨cur :: ps, q, by rw [sp_hit hc, h1]; rfl, ?_⟩
      rw [List.flatMap_cons, List.append_assoc, ← h2, this]; simp
    · obtain ⟨ps, q, h1, h2⟩ := spB_back hb r (cur ++ [c])
      exact ⟨ps, q, by rw [sp_miss hc, h1], by rw [← h2]; simp⟩
theorem spB_join {b : UInt8} {i : Int} (hb : (b.toNat : Int) = i) : ∀ (ps : List (List UInt8)), (∀ p ∈ ps, noB b p) → sp i [] (ps.flatMap (· ++ [b])) = ps ++ [[]]
  | [], _ => by simp [sp]
  | p :: ps, h => by
    rw [List.flatMap_cons, List.append_assoc, List.singleton_append, spB_at hb _ p [] (h p (by simp)), spB_join hb ps fun q hq => h q (by simp [hq])]
    rfl
/-! ### A term's text -/
theorem dec_noB {b : UInt8} (hb : b.toNat < 48 ∨ 57 < b.toNat) (u : Nat) : noB b (Lib.decDigits u) := fun c hc e => by
  have := dec_digs u c hc; subst e; omega
theorem itoa_noB {b : UInt8} (hb : b.toNat < 45 ∨ 57 < b.toNat) (n : Int) : noB b (Lib.itoa n) := by
  unfold Lib.itoa
  split
  · intro c hc
    rcases List.mem_cons.1 hc with rfl | hc
    · rintro rfl; revert hb; decide
    · exact dec_noB (by omega) _ c hc
  · exact dec_noB (by omega) _
theorem noB_app {b : UInt8} {l r : List UInt8} (h : noB b l) (h' : noB b r) : noB b (l ++ r) := fun c hc => by
  rcases List.mem_append.1 hc with hc | hc
  · exact h c hc
  · exact h' c hc
theorem noB_one {b c : UInt8} (h : c ≠ b) : noB b [c] := fun x hx => by rw [List.mem_singleton.1 hx]; exact h
theorem tmx_noB (t : Tm) : noB 59 (tmx t) := by
  unfold tmx
  exact noB_app (noB_app (noB_app (noB_app (itoa_noB (by decide) _) (noB_one (by decide))) (itoa_noB (by decide) _)) (noB_one (by decide))) (itoa_noB (by decide) _)
theorem tmx_eq (t : Tm) : tmx t = Lib.itoa t.2.2 ++ 58 :: (Lib.itoa t.1 ++ 44 :: Lib.itoa t.2.1) := by unfold tmx; simp
theorem okI {n : Int} (h : -1000000 ≤ n ∧ n ≤ 1000000) : okP (Lib.itoa n) = true ∧ pnV (Lib.itoa n) = n :=
  okP_of (numB_of (.inr h)) (by unfold numText; rw [if_neg (by omega)])
/-- The parts of a term's text, as the program cuts it. -/
def tcC (l : List UInt8) : List UInt8 := (Lib.cut l [58]).1
def tcE (l : List UInt8) : List UInt8 := (Lib.cut l [58]).2.1
def tcI (l : List UInt8) : List UInt8 := (Lib.cut (tcE l) [44]).1
def tcJ (l : List UInt8) : List UInt8 := (Lib.cut (tcE l) [44]).2.1
def tcOk (l : List UInt8) : Bool := okP (tcC l) && (okP (tcI l) && okP (tcJ l))
def tcV (l : List UInt8) : Tm := (pnV (tcI l), pnV (tcJ l), pnV (tcC l))
theorem tc_cut (t : Tm) : tcC (tmx t) = Lib.itoa t.2.2 ∧ tcI (tmx t) = Lib.itoa t.1 ∧ tcJ (tmx t) = Lib.itoa t.2.1 := by
  unfold tcI tcJ tcE tcC
  rw [tmx_eq, cutB_at _ (itoa_noB (by decide) _), cutB_at _ (itoa_noB (by decide) _)]
  exact ⟨rfl, rfl, rfl⟩
theorem tc_of {t : Tm} (h : plT t = true) : tcOk (tmx t) = true ∧ tcV (tmx t) = t := by
  obtain ⟨h1, h2, h3, h4, h5⟩ := plT_parts h
  obtain ⟨e1, e2, e3⟩ := tc_cut t
  unfold tcOk tcV
  rw [e1, e2, e3, (okI (n := t.2.2) (by omega)).1, (okI (n := t.1) (by omega)).1, (okI (n := t.2.1) (by omega)).1, (okI (n := t.2.2) (by omega)).2, (okI (n := t.1) (by omega)).2, (okI (n := t.2.1) (by omega)).2]
  exact ⟨rfl, rfl⟩
theorem ok_text {l : List UInt8} (h : okP l = true) : numText (pnV l) = l := by
  unfold pnV; rw [if_pos h]; exact (okP_parts h).2
theorem ok_ne : okP [] = false := by
  cases h : okP []
  · rfl
  · exfalso
    have := ok_text h
    revert this
    generalize pnV [] = n
    unfold numText Lib.itoa
    split
    · simp
    · split
      · simp
      · exact dec_ne _
theorem tc_form {l : List UInt8} (h : tcOk l = true) (ht : plT (tcV l) = true) : tmx (tcV l) = l := by
  obtain ⟨h1, h2, h3, h4, h5⟩ := plT_parts ht
  simp only [tcOk, Bool.and_eq_true] at h
  obtain ⟨a1, a2, a3⟩ := h
  have e1 : Lib.itoa (pnV (tcC l)) = tcC l := by
    have := ok_text a1
    unfold numText at this
    rwa [if_neg (by simp only [tcV] at h5; omega)] at this
  have e2 : Lib.itoa (pnV (tcI l)) = tcI l := by
    have := ok_text a2
    unfold numText at this
    rwa [if_neg (by simp only [tcV] at h2 h3; omega)] at this
  have e3 : Lib.itoa (pnV (tcJ l)) = tcJ l := by
    have := ok_text a3
    unfold numText at this
    rwa [if_neg (by simp only [tcV] at h1 h3; omega)] at this
  rw [tmx_eq]
  show Lib.itoa (pnV (tcC l)) ++ 58 :: (Lib.itoa (pnV (tcI l)) ++ 44 :: Lib.itoa (pnV (tcJ l))) = l
  rw [e1, e2, e3]
  have hE : ∀ x, tcE l = x → noB 44 x → False := fun x hx hn => by
    have : tcJ l = [] := by unfold tcJ; rw [hx, cutB_none hn]
    rw [this, ok_ne] at a3; cases a3
  rcases firstB 58 l with hn | ⟨a, r, hl, hn⟩
  · exact absurd (show tcE l = [] by unfold tcE; rw [cutB_none hn]) fun e => hE _ e fun _ hc => by cases hc
  · have hC : tcC l = a := by unfold tcC; rw [hl, cutB_at r hn]
    have hR : tcE l = r := by unfold tcE; rw [hl, cutB_at r hn]
    rcases firstB 44 r with hn2 | ⟨a2', r2, hl2, hn2⟩
    · exact absurd hR fun e => hE _ e hn2
    · have hI : tcI l = a2' := by unfold tcI; rw [hR, hl2, cutB_at r2 hn2]
      have hJ : tcJ l = r2 := by unfold tcJ; rw [hR, hl2, cutB_at r2 hn2]
      rw [hC, hI, hJ, hl, hl2]
/-- What the model reads of digits. -/
def l1V (l : List UInt8) : Int := if inB l.length 1 6 = true ∧ lead0 l = false then rdFrom 0 l else -1
theorem l1V_dec {u : Nat} (h : u < 10) : l1V (Lib.decDigits u) = u := by
  have := rd_dec u
  rw [dec_one h] at this ⊢
  unfold l1V
  rw [if_pos ⟨(inB_iff _ _ _).2 (by simp), by simp [lead0]⟩, this]
/-- The parts of a term's text, as the model cuts it. -/
def pcW (l : List UInt8) : List (List UInt8) := sp 58 [] l
def pcU (l : List UInt8) : List (List UInt8) := sp 44 [] ((pcW l).getD 1 [])
def pcOk (l : List UInt8) : Bool := decide ((pcW l).length = 2) && (decide ((pcU l).length = 2) && okP ((pcW l).getD 0 []))
def pcV (l : List UInt8) : Tm := (l1V ((pcU l).getD 0 []), l1V ((pcU l).getD 1 []), pnV ((pcW l).getD 0 []))
theorem pc_of {t : Tm} (h : plT t = true) : pcOk (tmx t) = true ∧ pcV (tmx t) = t := by
  obtain ⟨h1, h2, h3, h4, h5⟩ := plT_parts h
  have n1 : noB 58 (Lib.itoa t.1 ++ 44 :: Lib.itoa t.2.1) := noB_app (itoa_noB (by decide) _) (noB_app (noB_one (by decide)) (itoa_noB (by decide) _))
  have eW : pcW (tmx t) = [Lib.itoa t.2.2, Lib.itoa t.1 ++ 44 :: Lib.itoa t.2.1] := by
    unfold pcW
    rw [tmx_eq, spB_at (b := 58) (i := 58) rfl _ _ [] (itoa_noB (by decide) _), spB_none (b := 58) (i := 58) rfl _ [] n1]; rfl
  have eU : pcU (tmx t) = [Lib.itoa t.1, Lib.itoa t.2.1] := by
    unfold pcU
    rw [eW]
    show sp 44 [] (Lib.itoa t.1 ++ 44 :: Lib.itoa t.2.1) = _
    rw [spB_at (b := 44) (i := 44) rfl _ _ [] (itoa_noB (by decide) _), spB_none (b := 44) (i := 44) rfl _ [] (itoa_noB (by decide) _)]; rfl
  have hI : ∀ n : Int, 0 ≤ n → n ≤ 6 → l1V (Lib.itoa n) = n := fun n a b => by
    obtain ⟨u, rfl⟩ : ∃ u : Nat, n = u := ⟨n.toNat, by omega⟩
    rw [Lib.itoa_nonneg u]; exact l1V_dec (by omega)
  unfold pcOk pcV
  rw [eW, eU]
  refine ⟨?_, ?_⟩
  · show (decide (2 = 2) && (decide (2 = 2) && okP (Lib.itoa t.2.2))) = true
    rw [(okI (n := t.2.2) (by omega)).1]; rfl
  · show (l1V (Lib.itoa t.1), l1V (Lib.itoa t.2.1), pnV (Lib.itoa t.2.2)) = t
    rw [hI t.1 (by omega) (by omega), hI t.2.1 (by omega) (by omega), (okI (n := t.2.2) (by omega)).2]
/-! ### A polynomial's text -/
def pieces9 (l : List UInt8) : List (List UInt8) := sp 59 [] l
def pcs (l : List UInt8) : List (List UInt8) := (pieces9 l).dropLast
def txA (L : List Tm) : List UInt8 := txT L L.length
theorem txA_eq (L : List Tm) : txA L = (L.map tmx).flatMap (· ++ [59]) := by
  unfold txA txT
  rw [List.take_length, List.flatMap_map]
  rfl
def plpB (l : List UInt8) : Bool := plB ((pcs l).map pcV) && decide (txA ((pcs l).map pcV) = l)
def plpR (l : List UInt8) : List Tm := if plpB l = true then (pcs l).map pcV else []
theorem plpR_no {l : List UInt8} (h : plpB l = false) : plpR l = [] := if_neg (by simp [h])
theorem plp_yes {l : List UInt8} (h : plpB l = true) : ∃ L, plB L = true ∧ l = txA L ∧ plpR l = L ∧ pieces9 l = L.map tmx ++ [[]] ∧ pcs l = L.map tmx := by
  have hR : plpR l = (pcs l).map pcV := if_pos h
  simp only [plpB, Bool.and_eq_true, decide_eq_true_eq] at h
  have h9 : pieces9 l = ((pcs l).map pcV).map tmx ++ [[]] := by
    have := spB_join (b := 59) (i := 59) rfl (((pcs l).map pcV).map tmx) fun p hp => by
      obtain ⟨t, -, rfl⟩ := List.mem_map.1 hp
      exact tmx_noB t
    rw [← txA_eq, h.2] at this
    exact this
  exact ⟨_, h.1, h.2.symm, hR, h9, by unfold pcs at h9 ⊢; conv => lhs; rw [h9]; rw [List.dropLast_concat]⟩
theorem plp_of {l : List UInt8} {L : List Tm} (h : plB L = true) (hl : l = txA L) : plpB l = true ∧ plpR l = L := by
  have h9 : pieces9 l = L.map tmx ++ [[]] := by
    rw [hl, txA_eq]
    exact spB_join (b := 59) rfl _ fun p hp => by
      obtain ⟨t, -, rfl⟩ := List.mem_map.1 hp
      exact tmx_noB t
  have hp : (pcs l).map pcV = L := by
    unfold pcs
    rw [h9, List.dropLast_concat, List.map_map]
    conv => rhs; rw [← List.map_id L]
    exact List.map_congr_left fun t ht => (pc_of (((plB_iff L).1 h).2.1 t ht)).2
  have hb : plpB l = true := by
    unfold plpB; rw [hp, h, hl]; simp
  exact ⟨hb, by unfold plpR; rw [if_pos hb, hp]⟩
theorem plp_no {l : List UInt8} (h : plpB l = true → False) : plpB l = false := by
  cases e : plpB l
  · rfl
  · exact (h e).elim
theorem plpR_le (l : List UInt8) : (plpR l).length ≤ 12 := by
  cases h : plpB l
  · rw [plpR_no h]; simp
  · obtain ⟨L, h1, -, h3, -, -⟩ := plp_yes h
    rw [h3]; exact (plB_le h1).2
/-- Too many pieces. -/
theorem plp_long {l : List UInt8} (h : 13 < (pieces9 l).length) : plpB l = false := plp_no fun hp => by
  obtain ⟨L, h1, -, -, h4, -⟩ := plp_yes hp
  have := (plB_le h1).2
  rw [h4] at h; simp at h; omega
/-- A piece that is no term's text. -/
theorem plp_pc {l : List UInt8} {p : List UInt8} (hm : p ∈ pcs l) (h : pcOk p = false) : plpB l = false := plp_no fun hp => by
  obtain ⟨L, h1, -, -, -, h5⟩ := plp_yes hp
  rw [h5] at hm
  obtain ⟨t, ht, rfl⟩ := List.mem_map.1 hm
  rw [(pc_of (((plB_iff L).1 h1).2.1 t ht)).1] at h; cases h
theorem plp_tc {l : List UInt8} {p : List UInt8} (hm : p ∈ pcs l) (h : tcOk p = false) : plpB l = false := plp_no fun hp => by
  obtain ⟨L, h1, -, -, -, h5⟩ := plp_yes hp
  rw [h5] at hm
  obtain ⟨t, ht, rfl⟩ := List.mem_map.1 hm
  rw [(tc_of (((plB_iff L).1 h1).2.1 t ht)).1] at h; cases h
/-- The pieces that the library makes. -/
def sk9 (l : List UInt8) : List (List UInt8) := Lib.splitK [59] 0 (min 13 (l.length + 1) - 1) l
theorem sk9_cases (l : List UInt8) : (∃ ps q, sk9 l = ps ++ [q] ∧ q ≠ [] ∧ plpB l = false) ∨ (∃ ps, sk9 l = ps ++ [[]] ∧ pcs l = ps ∧ l = ps.flatMap (· ++ [59]) ∧ ps.length ≤ 12) := by
  have hc := spB_count 59 l []
  rcases Nat.lt_or_ge (min 13 (l.length + 1) - 1 + 1) (sp 59 [] l).length with hm | hf
  · obtain ⟨ps, q, h1, h2⟩ := skB_many (b := 59) rfl _ l hm
    exact .inl ⟨ps, q, h1, h2, plp_long (by unfold pieces9; omega)⟩
  · obtain ⟨ps, q, h1, h2⟩ := spB_back (b := 59) (i := 59) rfl l []
    have h3 : sk9 l = ps ++ [q] := (skB_few rfl _ l hf).trans h1
    rw [List.nil_append] at h2
    by_cases hq : q = []
    · subst hq
      refine .inr ⟨ps, h3, by unfold pcs pieces9; rw [h1, List.dropLast_concat], by rw [h2]; simp, ?_⟩
      rw [h1] at hf; simp at hf; omega
    · refine .inl ⟨ps, q, h3, hq, plp_no fun hp => ?_⟩
      obtain ⟨L, -, -, -, h4, -⟩ := plp_yes hp
      unfold pieces9 at h4
      rw [h1] at h4
      have := List.append_inj_right' h4 rfl
      simp at this
      exact hq this
/-- All pieces read: then the list that they give decides. -/
theorem plp_end {l : List UInt8} {ps : List (List UInt8)} (h : pcs l = ps) (hl : l = ps.flatMap (· ++ [59])) (ho : ∀ p ∈ ps, tcOk p = true) : plpB l = plB (ps.map tcV) ∧ (plB (ps.map tcV) = true → plpR l = ps.map tcV) := by
  cases hb : plB (ps.map tcV)
  · refine ⟨plp_no fun hp => ?_, fun h => by cases h⟩
    obtain ⟨L, h1, -, -, -, h5⟩ := plp_yes hp
    have : ps.map tcV = L := by
      rw [← h, h5, List.map_map]
      conv => rhs; rw [← List.map_id L]
      exact List.map_congr_left fun t ht => (tc_of (((plB_iff L).1 h1).2.1 t ht)).2
    rw [this, h1] at hb; cases hb
  · have e : l = txA (ps.map tcV) := by
      rw [txA_eq, List.map_map]
      conv => lhs; rw [hl]
      congr 1
      conv => lhs; rw [← List.map_id ps]
      exact List.map_congr_left fun p hp => (tc_form (ho p hp) (((plB_iff _).1 hb).2.1 _ (List.mem_map.2 ⟨p, hp, rfl⟩))).symm
    have := plp_of hb e
    exact ⟨this.1, fun _ => this.2⟩
end Go.Proofs.YtibdbgeknphljaaDoor

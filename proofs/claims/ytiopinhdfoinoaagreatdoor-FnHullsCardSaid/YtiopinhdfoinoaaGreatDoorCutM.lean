/-
  Texts cut at a byte: plain mathematics.
-/
import Derived.Test.YtiopinhdfoinoaaGreatDoorSplit
import Derived.Test.YtiopinhdfoinoaaGreatDoorTx
import Derived.Lib.IndexBytes
import Derived.Lib.IndexMore
namespace Go.Proofs.YtiopinhdfoinoaaGreatDoor
set_option linter.unusedSimpArgs false
set_option linter.unusedVariables false
open Go.ChangeShapes Go.WideShapes Go.ChangeAt Go.RowKit

/-- A byte is not among these. -/
def noB (b : UInt8) (l : List UInt8) : Prop := ∀ c ∈ l, c ≠ b
theorem noB_tail {b c : UInt8} {l : List UInt8} (h : noB b (c :: l)) : noB b l := fun x hx => h x (by simp [hx])
theorem ne_int {b c : UInt8} {i : Int} (hb : (b.toNat : Int) = i) (h : c ≠ b) : ¬ (c.toNat : Int) = i := fun e => h (UInt8.toNat_inj.1 (by omega))
theorem spB_none {b : UInt8} {i : Int} (hb : (b.toNat : Int) = i) : ∀ (l cur : List UInt8), noB b l → sp i cur l = [cur ++ l]
  | [], cur, _ => by simp [sp]
  | c :: r, cur, h => by
    rw [sp_miss (ne_int hb (h c (by simp))), spB_none hb r _ (noB_tail h)]
    simp
theorem spB_at {b : UInt8} {i : Int} (hb : (b.toNat : Int) = i) (r : List UInt8) : ∀ (l cur : List UInt8), noB b l → sp i cur (l ++ b :: r) = (cur ++ l) :: sp i [] r
  | [], cur, _ => by rw [List.nil_append, sp_hit hb, List.append_nil]
  | c :: t, cur, h => by
    rw [List.cons_append, sp_miss (ne_int hb (h c (by simp))), spB_at hb r t _ (noB_tail h)]
    simp
theorem firstB (b : UInt8) : ∀ l : List UInt8, noB b l ∨ ∃ a r, l = a ++ b :: r ∧ noB b a
  | [] => .inl fun _ h => by cases h
  | c :: t => by
    by_cases hc : c = b
    · exact .inr ⟨[], t, by rw [hc]; rfl, fun _ h => by cases h⟩
    · rcases firstB b t with h | ⟨a, r, h1, h2⟩
      · exact .inl fun x hx => by
          rcases List.mem_cons.1 hx with rfl | hx
          · exact hc
          · exact h x hx
      · exact .inr ⟨c :: a, r, by rw [h1]; rfl, fun x hx => by
          rcases List.mem_cons.1 hx with rfl | hx
          · exact hc
          · exact h2 x hx⟩
theorem idxB_none {b : UInt8} : ∀ l : List UInt8, noB b l → Lib.indexByte l b = -1
  | [], _ => rfl
  | c :: r, h => by
    have hc : (c == b) = false := by simp only [beq_eq_false_iff_ne]; exact h c (by simp)
    unfold Lib.indexByte
    rw [hc, idxB_none r (noB_tail h)]
    rfl
theorem idxB_at {b : UInt8} (r : List UInt8) : ∀ l : List UInt8, noB b l → Lib.indexByte (l ++ b :: r) b = l.length
  | [], _ => by unfold Lib.indexByte; simp
  | c :: t, h => by
    have hc : (c == b) = false := by simp only [beq_eq_false_iff_ne]; exact h c (by simp)
    rw [List.cons_append]
    unfold Lib.indexByte
    rw [hc, idxB_at r t (noB_tail h)]
    have h1 : ((t.length : Int) == -1) = false := by simp
    rw [h1]
    simp
theorem cutB_none {b : UInt8} {l : List UInt8} (h : noB b l) : Lib.cut l [b] = (l, [], false) := by
  unfold Lib.cut
  rw [Lib.index_one, idxB_none l h]; rfl
theorem cutB_at {b : UInt8} {a : List UInt8} (r : List UInt8) (h : noB b a) : Lib.cut (a ++ b :: r) [b] = (a, r, true) := by
  unfold Lib.cut
  rw [Lib.index_one, idxB_at r a h, if_pos (by omega)]
  simp
theorem cutB_len (l : List UInt8) (b : UInt8) : ((Lib.cut l [b]).1).length ≤ l.length ∧ ((Lib.cut l [b]).2.1).length ≤ l.length := by
  rcases firstB b l with h | ⟨a, r, rfl, h⟩
  · rw [cutB_none h]; simp
  · rw [cutB_at r h]; simp; omega
theorem skB_none {b : UInt8} (k : Nat) (l : List UInt8) (h : noB b l) : Lib.splitK [b] 0 k l = [l] := by
  cases k with
  | zero => rfl
  | succ k => unfold Lib.splitK; rw [Lib.index_one, idxB_none l h]; rfl
theorem skB_at {b : UInt8} (k : Nat) (a r : List UInt8) (h : noB b a) : Lib.splitK [b] 0 (k + 1) (a ++ b :: r) = a :: Lib.splitK [b] 0 k r := by
  have hn : ((a.length : Int) == -1) = false := by simp
  rw [Lib.splitK, Lib.index_one, idxB_at r a h, hn]
  simp
theorem skB_few {b : UInt8} {i : Int} (hb : (b.toNat : Int) = i) : ∀ (k : Nat) (l : List UInt8), (sp i [] l).length ≤ k + 1 → Lib.splitK [b] 0 k l = sp i [] l
  | 0, l, h => by
    rcases firstB b l with h1 | ⟨a, r, rfl, h2⟩
    · rw [spB_none hb l [] h1]; rfl
    · rw [spB_at hb r a [] h2] at h
      have := sp_pos i r []
      rw [List.length_cons] at h; omega
  | k + 1, l, h => by
    rcases firstB b l with h1 | ⟨a, r, rfl, h2⟩
    · rw [spB_none hb l [] h1, skB_none _ l h1]; rfl
    · rw [spB_at hb r a [] h2] at h ⊢
      rw [skB_at k a r h2, skB_few hb k r (by simpa using h)]
      rfl
/-- Too many of them: what is left at the end is not empty. -/
theorem skB_many {b : UInt8} {i : Int} (hb : (b.toNat : Int) = i) : ∀ (k : Nat) (l : List UInt8), k + 1 < (sp i [] l).length → ∃ ps q, Lib.splitK [b] 0 k l = ps ++ [q] ∧ q ≠ []
  | 0, l, h => ⟨[], l, rfl, fun e => by subst e; simp [sp] at h⟩
  | k + 1, l, h => by
    rcases firstB b l with h1 | ⟨a, r, rfl, h2⟩
    · rw [spB_none hb l [] h1] at h; simp at h
    · rw [spB_at hb r a [] h2] at h
      obtain ⟨ps, q, h3, h4⟩ := skB_many hb k r (by simpa using h)
      exact ⟨a :: ps, q, by rw [skB_at k a r h2, h3]; rfl, h4⟩
theorem skB_len {b : UInt8} : ∀ (k : Nat) (l : List UInt8), ∀ x ∈ Lib.splitK [b] 0 k l, x.length ≤ l.length
  | 0, l, x, h => by rw [List.mem_singleton.1 h]; exact Nat.le_refl _
  | k + 1, l, x, h => by
    rcases firstB b l with h1 | ⟨a, r, rfl, h2⟩
    · rw [skB_none _ l h1] at h; rw [List.mem_singleton.1 h]; exact Nat.le_refl _
    · rw [skB_at k a r h2] at h
      rcases List.mem_cons.1 h with rfl | h
      · simp
      · have := skB_len k r x h; simp; omega
theorem spB_lens (i : Int) : ∀ (l cur : List UInt8), ∀ x ∈ sp i cur l, x.length ≤ cur.length + l.length
  | [], cur, x, h => by simp [sp] at h; rw [h]; simp
  | c :: r, cur, x, h => by
    by_cases hc : (c.toNat : Int) = i
    · rw [sp_hit hc] at h
      rcases List.mem_cons.1 h with rfl | h
      · simp
      · have := spB_lens i r [] x h; simp at this ⊢; omega
    · rw [sp_miss hc] at h
      have := spB_lens i r _ x h; simp at this ⊢; omega
theorem spB_count (i : Int) : ∀ (l cur : List UInt8), (sp i cur l).length ≤ l.length + 1
  | [], cur => by simp [sp]
  | c :: r, cur => by
    by_cases hc : (c.toNat : Int) = i
    · rw [sp_hit hc]; have := spB_count i r []; simp; omega
    · rw [sp_miss hc]; have := spB_count i r (cur ++ [c]); simp; omega
/-- The pieces give the text back. -/
theorem spB_back {b : UInt8} {i : Int} (hb : (b.toNat : Int) = i) : ∀ (l cur : List UInt8), ∃ ps q, sp i cur l = ps ++ [q] ∧ cur ++ l = ps.flatMap (· ++ [b]) ++ q
  | [], cur => ⟨[], cur, by simp [sp], by simp⟩
  | c :: r, cur => by
    by_cases hc : (c.toNat : Int) = i
    · obtain ⟨ps, q, h1, h2⟩ := spB_back hb r []
      have : c = b := UInt8.toNat_inj.1 (by omega)
      refine ⟨cur :: ps, q, by rw [sp_hit hc, h1]; rfl, ?_⟩
      rw [List.flatMap_cons, List.append_assoc, ← h2, this]; simp
    · obtain ⟨ps, q, h1, h2⟩ := spB_back hb r (cur ++ [c])
      exact ⟨ps, q, by rw [sp_miss hc, h1], by rw [← h2]; simp⟩
theorem spB_join {b : UInt8} {i : Int} (hb : (b.toNat : Int) = i) : ∀ (ps : List (List UInt8)), (∀ p ∈ ps, noB b p) → sp i [] (ps.flatMap (· ++ [b])) = ps ++ [[]]
  | [], _ => by simp [sp]
  | p :: ps, h => by
    rw [List.flatMap_cons, List.append_assoc, List.singleton_append, spB_at hb _ p [] (h p (by simp)), spB_join hb ps fun q hq => h q (by simp [hq])]
    rfl
/-! ### A term's text -/
theorem dec_noB {b : UInt8} (hb : b.toNat < 48 ∨ 57 < b.toNat) (u : Nat) : noB b (Lib.decDigits u) := fun c hc e => by
  have := dec_digs u c hc; subst e; omega
theorem itoa_noB {b : UInt8} (hb : b.toNat < 45 ∨ 57 < b.toNat) (n : Int) : noB b (Lib.itoa n) := by
  unfold Lib.itoa
  split
  · intro c hc
    rcases List.mem_cons.1 hc with rfl | hc
    · rintro rfl; revert hb; decide
    · exact dec_noB (by omega) _ c hc
  · exact dec_noB (by omega) _
theorem noB_app {b : UInt8} {l r : List UInt8} (h : noB b l) (h' : noB b r) : noB b (l ++ r) := fun c hc => by
  rcases List.mem_append.1 hc with hc | hc
  · exact h c hc
  · exact h' c hc
theorem noB_one {b c : UInt8} (h : c ≠ b) : noB b [c] := fun x hx => by rw [List.mem_singleton.1 hx]; exact h
theorem okI {n : Int} (h : -1000000 ≤ n ∧ n ≤ 1000000) : okPs (Lib.itoa n) = true ∧ pnV (Lib.itoa n) = n :=
  okP_of (numB_of (.inr h)) (by unfold numText; rw [if_neg (by omega)])
theorem ok_text {l : List UInt8} (h : okPs l = true) : numText (pnV l) = l := by
  unfold pnV; rw [if_pos h]; exact (okP_parts h).2
theorem ok_ne : okPs [] = false := by
  cases h : okPs []
  · rfl
  · exfalso
    have := ok_text h
    revert this
    generalize pnV [] = n
    unfold numText Lib.itoa
    split
    · simp
    · split
      · simp
      · exact dec_ne _
/-- What the model reads of digits. -/
def l1V (l : List UInt8) : Int := if inB l.length 1 6 = true ∧ lead0 l = false then rdFrom 0 l else -1
theorem l1V_dec {u : Nat} (h : u < 10) : l1V (Lib.decDigits u) = u := by
  have := rd_dec u
  rw [dec_one h] at this ⊢
  unfold l1V
  rw [if_pos ⟨(inB_iff _ _ _).2 (by simp), by simp [lead0]⟩, this]
/-- The pieces of a text cut at each semicolon, all and all but the last. -/
def pieces9 (l : List UInt8) : List (List UInt8) := sp 59 [] l
def pcs (l : List UInt8) : List (List UInt8) := (pieces9 l).dropLast
/-- The pieces that the library makes: at most so many. -/
def skN (m : Nat) (l : List UInt8) : List (List UInt8) := Lib.splitK [59] 0 (min m (l.length + 1) - 1) l
end Go.Proofs.YtiopinhdfoinoaaGreatDoor

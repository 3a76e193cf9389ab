/-
  Texts of lines, and lines of texts: plain mathematics, and what the library's cuts and joins return.
  Conditions: the texts are shorter than a thousand million bytes, and the library's variable is an integer.
-/
import Derived.Test.YtakamboflfkchaaGreatDoorLn
import Derived.Test.YtakamboflfkchaaGreatDoorCutG
namespace Go.Proofs.YtakamboflfkchaaGreatDoor
set_option linter.unusedSimpArgs false
set_option linter.unusedVariables false
open Go.ChangeShapes Go.WideShapes Go.ChangeAt Go.RowKit
open Go.Sort (grow)

/-- A line's text. -/
def lnX (t : Tm) : List UInt8 := Lib.itoa t.1 ++ [32] ++ Lib.itoa t.2.1 ++ [32] ++ Lib.itoa t.2.2
def lnXR (t : Tm) : List UInt8 := if lnB t = true then lnX t else []
theorem lnXR_yes {t : Tm} (h : lnB t = true) : lnXR t = lnX t := if_pos h
theorem lnXR_no {t : Tm} (h : lnB t = false) : lnXR t = [] := if_neg (by simp [h])
theorem ret_sbL {a b : List UInt8} {c d : Bool} (h : a = b) (h' : c = d) : Ending.returned (.tuple #[.string ⟨a.toArray⟩, .bool c]) = .returned (.tuple #[.string ⟨b.toArray⟩, .bool d]) := by rw [h, h']
theorem bel3L {x w : World} (h : Below x.heap.size x w) {g : Nat} (hg : x.heap.size ≤ g) (a b c : Value) : Below x.heap.size x (((w.setCell ⟨g, 0, none⟩ a).setCell ⟨g, 1, none⟩ b).setCell ⟨g, 2, none⟩ c) :=
  ((h.setCell hg _).setCell hg _).setCell hg _
/-- The pieces between blanks. -/
abbrev blL (l : List UInt8) : List (List UInt8) := sp 32 [] l
/-- The pieces that the library makes: at most four. -/
def sk4 (l : List UInt8) : List (List UInt8) := Lib.splitK [32] 0 (min 4 (l.length + 1) - 1) l
theorem b32 : ((32 : UInt8).toNat : Int) = 32 := rfl
/-- More pieces than asked for: as many as asked for. -/
theorem skB_full {b : UInt8} {i : Int} (hb : (b.toNat : Int) = i) : ∀ (k : Nat) (l : List UInt8), k + 1 ≤ (sp i [] l).length → (Lib.splitK [b] 0 k l).length = k + 1
  | 0, l, _ => rfl
  | k + 1, l, h => by
    rcases firstB b l with h1 | ⟨a, r, rfl, h2⟩
    · rw [spB_none hb l [] h1] at h; simp at h
    · rw [spB_at hb r a [] h2] at h
      rw [skB_at k a r h2, List.length_cons, skB_full hb k r (by simpa using h)]
theorem sk4_three {l : List UInt8} (h : (sk4 l).length = 3) : sk4 l = blL l := by
  have hc : (blL l).length ≤ l.length + 1 := spB_count 32 l []
  rcases Nat.lt_or_ge (min 4 (l.length + 1) - 1 + 1) (blL l).length with hm | hf
  · have := skB_full b32 (min 4 (l.length + 1) - 1) l (Nat.le_of_lt hm)
    have e : (sk4 l).length = min 4 (l.length + 1) - 1 + 1 := this
    omega
  · exact skB_few b32 _ l hf
theorem sk4_of {l : List UInt8} (h : (blL l).length = 3) : sk4 l = blL l := by
  have hc : (blL l).length ≤ l.length + 1 := spB_count 32 l []
  exact skB_few b32 _ l (show (blL l).length ≤ _ by omega)
/-- The line that three numbers' texts tell. -/
def lpT (l : List UInt8) : Tm := (gd ((blL l).map pnV) 0, gd ((blL l).map pnV) 1, gd ((blL l).map pnV) 2)
def lpB (l : List UInt8) : Bool := decide ((blL l).length = 3) && ((blL l).all okPs && lnB (lpT l))
def lpR (l : List UInt8) : Tm := if lpB l = true then lpT l else (0, 0, 0)
theorem lpR_yes {l : List UInt8} (h : lpB l = true) : lpR l = lpT l := if_pos h
theorem lpR_no {l : List UInt8} (h : lpB l = false) : lpR l = (0, 0, 0) := if_neg (by simp [h])
theorem lp_short {l : List UInt8} (h : ¬ (blL l).length = 3) : lpB l = false := by simp [lpB, h]
theorem lp_bad {l : List UInt8} (h : (blL l).all okPs = false) : lpB l = false := by unfold lpB; rw [h]; simp
theorem lp_is {l : List UInt8} (h : (blL l).length = 3) (h' : (blL l).all okPs = true) : lpB l = lnB (lpT l) ∧ lpR l = lnR (lpT l) := by
  have e : lpB l = lnB (lpT l) := by unfold lpB; rw [h']; simp [h]
  exact ⟨e, by unfold lpR lnR; rw [e]⟩
theorem three_of {α : Type} {l : List α} (h : l.length = 3) : ∃ a b c, l = [a, b, c] := by
  rcases l with _ | ⟨a, _ | ⟨b, _ | ⟨c, _ | ⟨d, r⟩⟩⟩⟩
  · simp at h
  · simp at h
  · simp at h
  · exact ⟨a, b, c, rfl⟩
  · simp at h
theorem ok_fin {p : List UInt8} (h : okPs p = true) (hf : finB (pnV p) = true) : Lib.itoa (pnV p) = p := by
  have h1 := ok_text h
  have h2 := (finB_iff _).1 hf
  unfold numText at h1
  rwa [if_neg (by omega)] at h1
/-- The text of a line that was read is the text. -/
theorem lp_back {l : List UInt8} (h : lpB l = true) : lnX (lpT l) = l := by
  unfold lpB at h
  simp only [Bool.and_eq_true, decide_eq_true_eq] at h
  obtain ⟨h1, h2, h3⟩ := h
  obtain ⟨p, q, r, e⟩ := three_of h1
  obtain ⟨ps, z, e1, e2⟩ := spB_back b32 l []
  have e' : sp 32 [] l = [p, q, r] := e
  rw [e'] at e1
  have hps : ps = [p, q] ∧ z = r := by
    have : [p, q] ++ [r] = ps ++ [z] := e1
    have h4 := List.append_inj' this rfl
    exact ⟨h4.1.symm, by simpa using h4.2.symm⟩
  obtain ⟨rfl, rfl⟩ := hps
  have ht : lpT l = (pnV p, pnV q, pnV z) := by unfold lpT; rw [e]; rfl
  rw [e] at h2
  rw [ht] at h3 ⊢
  simp only [List.all_cons, List.all_nil, Bool.and_true, Bool.and_eq_true] at h2
  simp only [lnB, Bool.and_eq_true] at h3
  have e3 : l = p ++ [32] ++ (q ++ [32]) ++ z := by
    rw [List.nil_append] at e2
    rw [e2]; simp
  unfold lnX
  simp only
  rw [ok_fin h2.1 h3.1, ok_fin h2.2.1 h3.2.1, ok_fin h2.2.2 h3.2.2, e3]
  simp
theorem num_noBl {n : Int} (h : numB n = true) : noB 32 (numText n) := by
  unfold numText
  split
  · intro c hc; simp at hc; rcases hc with rfl | rfl | rfl <;> decide
  · exact itoa_noB (by decide) n
/-- A line's text is read back. -/
theorem lp_of {t : Tm} (h : lnB t = true) : lpB (lnX t) = true ∧ lpT (lnX t) = t := by
  obtain ⟨a, b, c⟩ := t
  have hp := lnB_parts h
  dsimp only at hp
  obtain ⟨ha, hb, hc⟩ := hp
  have e : blL (lnX (a, b, c)) = [Lib.itoa a, Lib.itoa b, Lib.itoa c] := by
    have e0 : lnX (a, b, c) = Lib.itoa a ++ 32 :: (Lib.itoa b ++ 32 :: Lib.itoa c) := by unfold lnX; simp
    have n : ∀ n, noB 32 (Lib.itoa n) := fun n => itoa_noB (by decide) n
    show sp 32 [] _ = _
    rw [e0, spB_at b32 _ _ _ (n a), spB_at b32 _ _ _ (n b), spB_none b32 _ _ (n c)]
    simp
  have ht : lpT (lnX (a, b, c)) = (a, b, c) := by
    unfold lpT
    rw [e]
    simp only [List.map_cons, List.map_nil, (okI ha).2, (okI hb).2, (okI hc).2]
    rfl
  refine ⟨?_, ht⟩
  unfold lpB
  rw [ht, e, h]
  simp [(okI ha).1, (okI hb).1, (okI hc).1]
/-- The pieces of a text: a slice of texts in new memory. -/
def GivesK4 (l : List UInt8) (w : World) (e : Ending) (w' : World) : Prop := ∃ (g c : Nat) (ps : List ByteArray), e = .returned (.slice (some ⟨g, 0, none⟩) ps.length c) ∧ (∀ k (hk : k < ps.length), w'.cell? ⟨g, k, none⟩ = some (.string ps[k])) ∧ Hid (ps.map (·.data.toList) = sk4 l) ∧ ps.length ≤ 4 ∧ Below w.heap.size w w'
theorem splitN_4 (s : ByteArray) (w : World) (hs : s.size ≤ 1000000000) (hM : MaxM w) : Calls Tryz.prog 34 #[.string s, .string ⟨#[32]⟩, .int .i64 4] w fun e w' => GivesK4 s.data.toList w e w' := by
  obtain ⟨m, hm⟩ := hM
  refine (Tryz.strings_SplitN s ⟨#[32]⟩ 4 m w (by omega) hm (by decide) (by decide) (by decide)).mono ?_
  rintro e w' ⟨rfl, rfl⟩
  have hl := Lib.splitB_length_le ⟨#[32]⟩ 0 (min 4 (s.size + 1) - 1) s
  refine ⟨_, _, Lib.splitB ⟨#[32]⟩ 0 (min 4 (s.size + 1) - 1) s, rfl, fun k hk => ?_, Lib.hid ?_, by omega, (Below.refl _ _).alloc (Nat.le_refl _) _⟩
  · refine (cell_of_row (w.alloc (.cells (Lib.cellsOf (Lib.splitB ⟨#[32]⟩ 0 (min 4 (s.size + 1) - 1) s) (min 4 (s.size + 1))) 9)) w.heap.size k _ 9 (0, 0) (heap_alloc_new w _)).trans ?_
    unfold Lib.cellsOf
    rw [List.getElem?_toArray, List.getElem?_append_left (by simpa using hk), List.getElem?_map, List.getElem?_eq_getElem hk]
    rfl
  · rw [Lib.splitB_data]
    unfold sk4
    rw [show s.data.toList.length = s.size by simp]
theorem join3 (g : Nat) (A B C : List UInt8) (hl : A.length + B.length + C.length ≤ 1000) (w : World) (h0 : w.cell? ⟨g, 0, none⟩ = some (.string ⟨A.toArray⟩)) (h1 : w.cell? ⟨g, 1, none⟩ = some (.string ⟨B.toArray⟩)) (h2 : w.cell? ⟨g, 2, none⟩ = some (.string ⟨C.toArray⟩)) :
    Calls Tryz.prog 30 #[.slice (some ⟨g, 0, none⟩) 3 3, .string ⟨#[32]⟩] w fun e w' => Says (A ++ [32] ++ B ++ [32] ++ C) w e w' := by
  have hx : ([⟨A.toArray⟩, ⟨B.toArray⟩, ⟨C.toArray⟩] : List ByteArray).map (·.data.toList) = [A, B, C] := by simp
  have hj : Lib.join [A, B, C] [32] = A ++ [32] ++ B ++ [32] ++ C := by
    rw [Lib.join_cons]
    simp [Lib.joinTail]
  have := Tryz.strings_Join g 0 3 [⟨A.toArray⟩, ⟨B.toArray⟩, ⟨C.toArray⟩] ⟨#[32]⟩ w (fun j x hj => by
      rcases j with _ | _ | _ | j
      · simp at hj; rw [← hj]; exact h0
      · simp at hj; rw [← hj]; exact h1
      · simp at hj; rw [← hj]; exact h2
      · simp at hj)
    (cell_lt h0) (by simp) (by simp) (by rw [hx]; show (Lib.join [A, B, C] [32]).length ≤ _; rw [hj]; simp; omega)
  rw [hx] at this
  rw [← hj]
  exact this
end Go.Proofs.YtakamboflfkchaaGreatDoor

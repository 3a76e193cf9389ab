/-
  Go's own strings.Cut and strings.SplitN at a text of one byte; what is known of the pieces.
  Conditions: the texts are shorter than a thousand million bytes, and the library's variable is an integer.
-/
import Derived.Test.YtiopinhdfoinoaaGreatDoorCutM
import Derived.Test.YtiopinhdfoinoaaGreatDoorTextB
namespace Go.Proofs.YtiopinhdfoinoaaGreatDoor
set_option linter.unusedSimpArgs false
set_option linter.unusedVariables false
open Go.ChangeShapes Go.WideShapes Go.ChangeAt Go.RowKit

theorem pc_at {ps : List ByteArray} {qs : List (List UInt8)} {q : List UInt8} (h : ps.map (·.data.toList) = qs ++ [q]) (k : Nat) (hk : k < qs.length) (hk' : k < ps.length) : ps[k].data.toList = qs[k] := by
  have e : (ps.map (·.data.toList))[k]? = (qs ++ [q])[k]? := by rw [h]
  rw [List.getElem?_map, List.getElem?_append_left hk, List.getElem?_eq_getElem hk', List.getElem?_eq_getElem hk] at e
  simpa using e
theorem pc_last {ps : List ByteArray} {qs : List (List UInt8)} {q : List UInt8} (h : ps.map (·.data.toList) = qs ++ [q]) (hk' : qs.length < ps.length) : ps[qs.length].data.toList = q := by
  have e : (ps.map (·.data.toList))[qs.length]? = (qs ++ [q])[qs.length]? := by rw [h]
  rw [List.getElem?_map, List.getElem?_eq_getElem hk', List.getElem?_append_right (Nat.le_refl _)] at e
  simpa using e
theorem pc_len {ps : List ByteArray} {qs : List (List UInt8)} {q : List UInt8} (h : ps.map (·.data.toList) = qs ++ [q]) : ps.length = qs.length + 1 := by
  have := congrArg List.length h
  simpa using this
theorem pl_empty {p : ByteArray} (h : p.data.toList = []) : p.toList.isEmpty = true := by rw [Lib.toList_data, h]; rfl
theorem pl_full {p : ByteArray} (h : p.data.toList ≠ []) : p.toList.isEmpty = false := by
  rw [Lib.toList_data]
  cases hl : p.data.toList with
  | nil => exact absurd hl h
  | cons a r => rfl
theorem size_lst (s : ByteArray) : s.data.toList.length = s.size := by simp
theorem skN_len {m : Nat} {l : List UInt8} {ps : List ByteArray} (h : ps.map (·.data.toList) = skN m l) (k : Nat) (hk : k < ps.length) : ps[k].data.toList.length ≤ l.length :=
  skB_len _ l _ (by show _ ∈ skN m l; rw [← h]; exact List.mem_map.2 ⟨_, List.getElem_mem hk, rfl⟩)
theorem TS.own {w : World} {B : Nat} {v : Value} {ps : List ByteArray} (h : TS w B v ps) (hp : 0 < ps.length) : ∃ g cap, v = .slice (some ⟨g, 0, none⟩) ps.length cap ∧ ps.length ≤ cap ∧ B ≤ g ∧ ∀ k (hk : k < ps.length), w.cell? ⟨g, k, none⟩ = some (.string ps[k]) := by
  obtain ⟨A, cap, e, hpt⟩ := TS.parts h
  obtain ⟨g, rfl, hg, -, -⟩ := hpt 0 hp
  refine ⟨g, cap, e, ?_, hg, fun k hk => ?_⟩
  · rcases h.2 with ⟨h', _⟩ | ⟨g', cap', cur, h', hb, hg', hnc, _⟩
    · rw [e] at h'; simp at h'
    · rw [e] at h'; simp at h'; omega
  · obtain ⟨g', e', -, hc, -⟩ := hpt k hk
    cases e'; exact hc
abbrev V2 (w : World) (g : Nat) (a b : ByteArray) : Prop := w.cell? ⟨g, 0, none⟩ = some (.string a) ∧ w.cell? ⟨g, 1, none⟩ = some (.string b)
section
variable {w w' : World} {g : Nat} {a b : ByteArray}
theorem V2.drew (h : V2 w g a b) : V2 w.drew g a b := h
theorem V2.drewN (h : V2 w g a b) (n : Nat) : V2 (w.drewN n) g a b := h
theorem V2.below (h : V2 w g a b) (hb : Below w.heap.size w w') : V2 w' g a b :=
  ⟨(hb.cell (p := ⟨g, 0, none⟩) (cell_lt h.1)).trans h.1, (hb.cell (p := ⟨g, 1, none⟩) (cell_lt h.2)).trans h.2⟩
theorem V2.alloc (h : V2 w g a b) (o : Obj) : V2 (w.alloc o) g a b := h.below ((Below.refl _ _).alloc (Nat.le_refl _) o)
theorem V2.grown {row : Option Nat} (h : V2 w g a b) (hg : w.grownBy w' row) (hn : some g ≠ row) : V2 w' g a b := ⟨hg.cell h.1 hn, hg.cell h.2 hn⟩
end
theorem two_of {α : Type} {l : List α} (h : l.length = 2) : ∃ a b, l = [a, b] := by
  rcases l with _ | ⟨a, _ | ⟨b, _ | ⟨c, r⟩⟩⟩
  · simp at h
  · simp at h
  · exact ⟨a, b, rfl⟩
  · simp at h
theorem pc_sizes {s : ByteArray} {i : Int} {ps : List ByteArray} (h : ps.map (fun p => p.data.toList) = sp i [] s.data.toList) : ∀ p ∈ ps, p.size ≤ s.size := fun p hp => by
  have := spB_lens i s.data.toList [] p.data.toList (by rw [← h]; exact List.mem_map.2 ⟨p, hp, rfl⟩)
  rw [size_lst, size_lst] at this
  simpa using this
/-- A variable of the library's own, of whatever value. -/
def MaxM (w : World) : Prop := ∃ m, w.cell? ⟨3, 0, none⟩ = some (.int .i64 m)
theorem MaxM.below {w w' : World} (h : MaxM w) (hb : Below w.heap.size w w') : MaxM w' := by
  obtain ⟨m, hm⟩ := h
  exact ⟨m, (hb.cell (p := ⟨3, 0, none⟩) (cell_lt hm)).trans hm⟩
theorem cut_g (s : ByteArray) (b : UInt8) (w : World) (hs : s.size ≤ 1000000000) (hM : MaxM w) : Calls Tryz.prog 86 #[.string s, .string ⟨#[b]⟩] w fun e w' => ∃ (x y : ByteArray) (f : Bool), e = .returned (.tuple #[.string x, .string y, .bool f]) ∧ Hid (x.data.toList = (Lib.cut s.data.toList [b]).1) ∧ Hid (y.data.toList = (Lib.cut s.data.toList [b]).2.1) ∧ x.size ≤ s.size ∧ y.size ≤ s.size ∧ Below w.heap.size w w' := by
  obtain ⟨m, hm⟩ := hM
  refine (Tryz.strings_Cut s ⟨#[b]⟩ m w (by omega) hm).mono ?_
  rintro e w' ⟨rfl, n, rfl⟩
  have hl := cutB_len s.data.toList b
  rw [show s.data.toList.length = s.size by simp] at hl
  refine ⟨_, _, _, rfl, Lib.hid rfl, Lib.hid rfl, ?_, ?_, belN (Below.refl _ _) n⟩
  · show (List.toArray _).size ≤ _
    rw [List.size_toArray]; exact hl.1
  · show (List.toArray _).size ≤ _
    rw [List.size_toArray]; exact hl.2
/-- The pieces of a text: a slice of texts in new memory. -/
def GivesKN (m : Nat) (l : List UInt8) (w : World) (e : Ending) (w' : World) : Prop := ∃ (g c : Nat) (ps : List ByteArray), e = .returned (.slice (some ⟨g, 0, none⟩) ps.length c) ∧ (∀ k (hk : k < ps.length), w'.cell? ⟨g, k, none⟩ = some (.string ps[k])) ∧ Hid (ps.map (·.data.toList) = skN m l) ∧ ps.length ≤ m ∧ ps.length ≤ c ∧ c ≤ m ∧ Below w.heap.size w w'
theorem splitN_m (m0 : Nat) (h1 : 1 ≤ m0) (h2 : m0 ≤ 100) (s : ByteArray) (w : World) (hs : s.size ≤ 1000000000) (hM : MaxM w) : Calls Tryz.prog 66 #[.string s, .string ⟨#[59]⟩, .int .i64 (m0 : Nat)] w fun e w' => GivesKN m0 s.data.toList w e w' := by
  obtain ⟨m, hm⟩ := hM
  refine (Tryz.strings_SplitN s ⟨#[59]⟩ m0 m w (by omega) hm (by decide) (by omega) (by omega)).mono ?_
  rintro e w' ⟨rfl, rfl⟩
  have hl := Lib.splitB_length_le ⟨#[59]⟩ 0 (min m0 (s.size + 1) - 1) s
  refine ⟨_, _, Lib.splitB ⟨#[59]⟩ 0 (min m0 (s.size + 1) - 1) s, rfl, fun k hk => ?_, Lib.hid ?_, by omega, by omega, by omega, (Below.refl _ _).alloc (Nat.le_refl _) _⟩
  · refine (cell_of_row (w.alloc (.cells (Lib.cellsOf (Lib.splitB ⟨#[59]⟩ 0 (min m0 (s.size + 1) - 1) s) (min m0 (s.size + 1))) 9)) w.heap.size k _ 9 (0, 0) (heap_alloc_new w _)).trans ?_
    unfold Lib.cellsOf
    rw [List.getElem?_toArray, List.getElem?_append_left (by simpa using hk), List.getElem?_map, List.getElem?_eq_getElem hk]
    rfl
  · rw [Lib.splitB_data]
    unfold skN
    rw [show s.data.toList.length = s.size by simp]
end Go.Proofs.YtiopinhdfoinoaaGreatDoor

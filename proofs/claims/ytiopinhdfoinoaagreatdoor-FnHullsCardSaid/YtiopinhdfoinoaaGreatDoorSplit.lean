/-
  Slices of strings that a call owns; the model's splitting of a text: what the call returns.
  Condition: the text is shorter than a thousand million bytes.
-/
import Derived.Test.YtiopinhdfoinoaaGreatDoorShift
import Derived.Test.YtiopinhdfoinoaaGreatDoorParse
namespace Go.Proofs.YtiopinhdfoinoaaGreatDoor
set_option linter.unusedSimpArgs false
set_option linter.unusedVariables false
open Go.ChangeShapes Go.WideShapes Go.ChangeAt Go.RowKit

abbrev strs (ps : List ByteArray) : List Value := ps.map Value.string
/-- The slice value v is of this call's own (from block B on) and reads as the texts ps. -/
def TS (w : World) (B : Nat) (v : Value) (ps : List ByteArray) : Prop := w.ownsRow B 9 1 v ps.length (strs ps)
section
variable {w w' : World} {B : Nat} {v : Value} {ps : List ByteArray}
theorem TS.lt (h : TS w B v ps) : ∀ g, v.ownBlock = some g → B ≤ g ∧ g < w.heap.size := World.ownsRow.lt h
theorem TS.below (h : TS w B v ps) (hb : Below w.heap.size w w') : TS w' B v ps := by
  refine ⟨h.1, ?_⟩
  rcases h.2 with h0 | ⟨g, cap, cur, h1, h2, h3, h4⟩
  · exact .inl h0
  · exact .inr ⟨g, cap, cur, h1, h2, (hb.block g (h.lt g (by rw [h1]; rfl)).2).trans h3, h4⟩
theorem TS.alloc (h : TS w B v ps) (o : Obj) : TS (w.alloc o) B v ps := World.ownsRow.alloc h o
theorem TS.nil_ (w : World) (B : Nat) : TS w B (.slice none 0 0) [] := World.ownsRow_nil w B _ 1
theorem TS.snoc {w' : World} {B : Nat} {v : Value} {xs : List ByteArray} {x : ByteArray} (h : w'.ownsRow B 9 1 v (xs.length + 1) (strs xs ++ [.string x])) : TS w' B v (xs ++ [x]) := by
  unfold TS strs
  rw [List.map_append, List.length_append]
  exact h
/-- The slice's value, and the cell of each element. -/
theorem TS.parts (h : TS w B v ps) : ∃ A cap, v = .slice A ps.length cap ∧ ∀ (k : Nat) (hk : k < ps.length), ∃ g, A = some ⟨g, 0, none⟩ ∧ B ≤ g ∧ w.cell? ⟨g, k, none⟩ = some (.string ps[k]) ∧ w.frozen? ⟨g, k, none⟩ = false := by
  rcases h.2 with ⟨rfl, h0⟩ | ⟨g, cap, cur, rfl, h2, h3, h4, h5, h6, h7⟩
  · exact ⟨none, 0, by rw [h0], fun k hk => by omega⟩
  · refine ⟨some ⟨g, 0, none⟩, cap, rfl, fun k hk => ⟨g, rfl, h2, ?_, World.ownsRow.frozenAt h k⟩⟩
    rw [World.ownsRow.cellAt h k (by omega)]
    simp [strs, hk]
end
theorem one_str (w : World) (x : ByteArray) : ∀ j u, [Value.string x][j]? = some u → (w.alloc (.cells #[.string x] 9)).cell? ((⟨w.heap.size, 0, none⟩ : Addr).add j) = some u := by
  intro j u h
  cases j with
  | zero =>
    simp at h
    subst h
    exact cell_of_row (w.alloc (.cells #[.string x] 9)) w.heap.size 0 #[.string x] 9 (0, 0) (heap_alloc_new w _)
  | succ j => simp at h
theorem infoStr : (Tryz.prog.info? 9).map (fun i => (i.zero, i.size, i.bytes)) = some (some (.string ⟨#[]⟩), 1, 16) := by kernel_rfl
theorem info_str {P : Program} {t : TypeId} {z : Value} {n m : Nat} (h : (P.info? t).map (fun i => (i.zero, i.size, i.bytes)) = some (some z, n, m)) : ∃ i, P.info? t = some i ∧ i.zero = some z ∧ i.size = n ∧ i.bytes = m := by
  cases hi : P.info? t with
  | none => rw [hi] at h; cases h
  | some i => rw [hi] at h; simp at h; exact ⟨i, rfl, h.1, h.2.1, h.2.2⟩
/-- A text cut at each byte b, behind the bytes cur. -/
def sp (b : Int) (cur : List UInt8) : List UInt8 → List (List UInt8)
  | [] => [cur]
  | c :: r => if (c.toNat : Int) = b then cur :: sp b [] r else sp b (cur ++ [c]) r
theorem sp_hit {b : Int} {cur : List UInt8} {c : UInt8} {r : List UInt8} (h : (c.toNat : Int) = b) : sp b cur (c :: r) = cur :: sp b [] r := by simp only [sp]; rw [if_pos h]
theorem sp_miss {b : Int} {cur : List UInt8} {c : UInt8} {r : List UInt8} (h : ¬ (c.toNat : Int) = b) : sp b cur (c :: r) = sp b (cur ++ [c]) r := by simp only [sp]; rw [if_neg h]
theorem sp_pos (b : Int) : ∀ (l cur : List UInt8), 0 < (sp b cur l).length
  | [], cur => by simp [sp]
  | c :: r, cur => by
    simp only [sp]; split
    · simp
    · exact sp_pos b r _
/-- The bytes from one place up to another. -/
def mid (s : ByteArray) (f k : Nat) : List UInt8 := (s.data.toList.take k).drop f
theorem mid_bytes (s : ByteArray) (f k : Nat) (h : k ≤ s.size) : (s.extract f k).data.toList = mid s f k := by
  rw [ByteArray.data_extract, Array.toList_extract, List.extract_eq_drop_take', mid]
theorem mid_same (s : ByteArray) (k : Nat) : mid s k k = [] := by
  unfold mid; exact List.drop_eq_nil_of_le (by rw [List.length_take]; exact Nat.min_le_left _ _)
theorem mid_next (s : ByteArray) (f k : Nat) (hf : f ≤ k) (h : k < s.size) : mid s f (k + 1) = mid s f k ++ [s[k]] := by
  unfold mid
  have h1 : s.data.toList.take (k + 1) = s.data.toList.take k ++ [s[k]] := by
    rw [List.take_succ_eq_append_getElem (by simpa using h)]; rfl
  rw [h1, List.drop_append_of_le_length (by simp; have : s.data.size = s.size := rfl; omega)]
/-- It gives the pieces, in memory of its own. -/
def GivesT_ (b : Int) (s : ByteArray) (w : World) (e : Ending) (w' : World) : Prop := ∃ v ps, e = .returned v ∧ TS w' w.heap.size v ps ∧ ps.map (fun p => p.data.toList) = sp b [] s.data.toList ∧ Below w.heap.size w w'
set_option maxHeartbeats 1000000 in
theorem l1Split_any (s : ByteArray) (b : Int) (w : World) (hs : s.size ≤ 1000000000) : Calls Tryz.prog 45 #[.string s, .int .u8 b] w fun e w' => GivesT_ b s w e w' := by
  obtain ⟨i0, hi, hz0, hz1, hz2⟩ := info_str infoStr
  have hl : s.data.toList.length = s.size := by simp
  have HL := Lib.hid hl
  clear hl
  go_enter Tryz.func45, Tryz.ntmps45
  go_wp2
  go_loopw [5, 6, 7] (fun o f i wr => ∃ (ps : List ByteArray) (fr k : Nat), k ≤ s.size ∧ fr ≤ k ∧ ps.length ≤ k ∧ i = .int .i64 k ∧ f = .int .i64 fr ∧ TS wr w.heap.size o ps ∧ Below w.heap.size w wr ∧ Hid (sp b [] s.data.toList = ps.map (fun p => p.data.toList) ++ sp b (mid s fr k) (s.data.toList.drop k))) (fun _ _ i _ => s.size - (intOf i).toNat)
  case atStart => exact ⟨[], 0, 0, by omega, by omega, by simp, rfl, rfl, TS.nil_ _ _, Below.refl _ _, Lib.hid rfl⟩
  case round =>
    obtain ⟨ps, fr, k, hk, hfr, hps, rfl, rfl, ho, hb, hsp⟩ := hrel
    by_cases hlt : k < s.size
    · have HD := Lib.hid (drop_byte s k hlt)
      cases hq : ((s[k].toNat : Int) == b)
      · have HS := Lib.hid (show sp b [] s.data.toList = ps.map (fun p => p.data.toList) ++ sp b (mid s fr (k + 1)) (s.data.toList.drop (k + 1)) by
          rw [hsp.out, HD.out, sp_miss (by simpa using hq), mid_next s fr k hfr hlt])
        go_wp2
        go_roundw
        case rel => exact ⟨ps, fr, k + 1, by omega, by omega, by omega, by go_num, rfl, ho, hb, HS⟩
        case measure => simp [intOf]; omega
      · have HS := Lib.hid (show sp b [] s.data.toList = (ps ++ [s.extract fr k]).map (fun p => p.data.toList) ++ sp b (mid s (k + 1) (k + 1)) (s.data.toList.drop (k + 1)) by
          rw [hsp.out, HD.out, sp_hit (by simpa using hq), mid_same, List.map_append, List.append_assoc, List.map_cons, List.map_nil, mid_bytes s fr k (by omega)]; rfl)
        have ho' : wr.ownsRow w.heap.size 9 1 u5 ps.length (strs ps) := ho
        go_wp2_with (at_builtin; refine wpList_append_own _ rfl _ _ 64 rfl w.heap.size 9 i0 (.string ⟨#[]⟩) 1 16 Tryz.underlying64 hi hz0 hz1 hz2 rfl (by decide) _ _ _ rfl (ho'.alloc _) ⟨wr.heap.size, 0, none⟩ 1 1 [.string (s.extract fr k)] rfl rfl (one_str _ _) (by simp [Value.oneCell']) (by unfold maxLen; omega) (by omega) (by have := hb.size; simp; omega) ?_; intro v' w1 hown' hgrow hnil)
        have hb' : Below w.heap.size w w1 := (hb.alloc hb.size _).grown hgrow (by have := hb.size; simp; omega) (fun g' hg' => (World.ownsRow.lt ho' g' hg').1)
        have hrow := TS.snoc hown'
        go_wp2
        go_roundw
        case rel => exact ⟨ps ++ [s.extract fr k], k + 1, k + 1, by omega, by omega, by simp; omega, by go_num, by go_num, hrow, hb', HS⟩
        case measure => simp [intOf]; omega
    · have HS := Lib.hid (show (ps ++ [s.extract fr s.size]).map (fun p => p.data.toList) = sp b [] s.data.toList by
        rw [hsp.out, List.drop_eq_nil_of_le (by rw [HL.out]; omega), show k = s.size by omega, List.map_append, List.map_cons, List.map_nil, mid_bytes s fr s.size (Nat.le_refl _)]; rfl)
      have ho' : wr.ownsRow w.heap.size 9 1 u5 ps.length (strs ps) := ho
      go_wp2_with (at_builtin; refine wpList_append_own _ rfl _ _ 64 rfl w.heap.size 9 i0 (.string ⟨#[]⟩) 1 16 Tryz.underlying64 hi hz0 hz1 hz2 rfl (by decide) _ _ _ rfl (ho'.alloc _) ⟨wr.heap.size, 0, none⟩ 1 1 [.string (s.extract fr s.size)] rfl rfl (one_str _ _) (by simp [Value.oneCell']) (by unfold maxLen; omega) (by omega) (by have := hb.size; simp; omega) ?_; intro v' w1 hown' hgrow hnil)
      have hb' : Below w.heap.size w w1 := (hb.alloc hb.size _).grown hgrow (by have := hb.size; simp; omega) (fun g' hg' => (World.ownsRow.lt ho' g' hg').1)
      have hrow := TS.snoc hown'
      go_wp2
      go_ret
      exact ⟨_, _, rfl, hrow, HS.out, hb'⟩
end Go.Proofs.YtiopinhdfoinoaaGreatDoor

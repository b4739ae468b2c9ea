/- Line feeds, as the library's Count, LastIndexByte and IndexByte find them. It has no conditions. -/
import Derived.Test.YthjedecfpedjbaaPLine
import Derived.Lib.Bytealg
import Derived.Lib.LastIndexByte
namespace Go.Proofs.Ythjedecfpedjbaa
open Go.RowKit
set_option linter.unusedVariables false

theorem lf_count (Z : List Int) (i : Nat) (hi : i ≤ Z.length) : (lf Z i).1 = (Z.take i).count 10 := by
  induction i with
  | zero => rfl
  | succ i ih =>
    have h1 : Z[i]? = some (ab Z i) := by rw [ab, List.getElem?_eq_getElem (by omega)]; rfl
    rw [List.take_add_one, h1, List.count_append, ← ih (by omega)]
    by_cases h : ab Z i = 10
    · rw [lf_nl h, h]; rfl
    · rw [lf_no h, Option.toList_some, List.count_cons_of_ne h]; rfl
theorem lf_before (Z : List Int) (i : Nat) : (lf Z i).2 = 0 ∨ ∃ j, (lf Z i).2 = j + 1 ∧ ab Z j = 10 := by
  induction i with
  | zero => exact .inl rfl
  | succ i ih =>
    by_cases h : ab Z i = 10
    · rw [lf_nl h]; exact .inr ⟨i, rfl, h⟩
    · rw [lf_no h]; exact ih
theorem count_sb (l : List UInt8) (c : UInt8) : Lib.countByte l c = (l.map fun b => (b.toNat : Int)).count (c.toNat : Int) := by
  unfold Lib.countByte
  induction l with
  | nil => rfl
  | cons b l ih =>
    rw [List.map_cons, List.count_cons, List.count_cons, ih]
    congr 1
    by_cases h : b = c
    · subst h; simp
    · have : ¬ (b.toNat : Int) = (c.toNat : Int) := fun e => h (UInt8.toNat_inj.1 (by omega))
      simp [h, this]
theorem nl_count (s : ByteArray) (i : Nat) (hi : i ≤ s.size) : Lib.countByte (s.extract 0 i).data.toList 10 = (lf (sb s) i).1 := by
  have h := sb_extract s 0 i
  rw [List.drop_zero, Nat.sub_zero] at h
  rw [count_sb, lf_count _ _ (by rw [sb_len]; exact hi), ← h]
  rfl
theorem bang_sb (s : ByteArray) (j : Nat) (h : j < s.size) : ((s.data[j]!).toNat : Int) = ab (sb s) j := by
  rw [sb_get s j h, getElem!_pos s.data j (by simpa using h)]; rfl
theorem ab_take {Z : List Int} {j n : Nat} (h : j < n) : ab (Z.take n) j = ab Z j := by unfold ab; rw [List.getElem?_take, if_pos h]
theorem last_nl (s : ByteArray) (i : Nat) (hi : i ≤ s.size) : Lib.lastIndexByte (s.extract 0 i) 10 = ((lf (sb s) i).2 : Int) - 1 := by
  have hsz : (s.extract 0 i).size = i := by rw [ByteArray.size_extract]; omega
  have hb : ∀ j, j < i → (((s.extract 0 i).data[j]!).toNat : Int) = ab (sb s) j := by
    intro j hj
    rw [bang_sb _ _ (by omega), sb_extract, List.drop_zero, ab_take (by omega)]
  have hle := (lf_le (sb s) i).1
  rcases Lib.lastIndexByte_spec (s.extract 0 i) 10 with ⟨h1, h2⟩ | ⟨j, h1, h2, h3, h4⟩
  · rcases lf_before (sb s) i with h | ⟨j, h, h10⟩
    · omega
    · exact absurd ((hb j (by omega)).trans h10) (h2 j (by omega))
  · rw [hsz] at h1 h4
    rw [hb j h1] at h3
    rcases lf_before (sb s) i with h | ⟨j', h, h10⟩
    · exact absurd h3 (lf_free (sb s) i j (by omega) h1)
    · rcases Nat.lt_trichotomy j j' with hlt | rfl | hlt
      · exact absurd ((hb j' (by omega)).trans h10) (h4 j' hlt (by omega))
      · omega
      · exact absurd h3 (lf_free (sb s) i j (by omega) h1)
/-- The first n bytes of the text are no line feeds; the text ends there, or a line feed follows. -/
def Fst10 (s : ByteArray) (n : Nat) : Prop := (∀ j, j < n → ab (sb s) j ≠ 10) ∧ (n = s.size ∨ (n < s.size ∧ ab (sb s) n = 10))
theorem indexByte_at (c : UInt8) : ∀ (l : List UInt8) (n : Nat), (∀ j, j < n → l[j]? ≠ some c) → (n = l.length → Lib.indexByte l c = -1) ∧ (l[n]? = some c → Lib.indexByte l c = n)
  | [], n, h => ⟨fun _ => rfl, fun h => by simp at h⟩
  | b :: l, 0, h => ⟨fun h => by simp at h, fun h => by simp at h; simp [Lib.indexByte, h]⟩
  | b :: l, n + 1, h => by
    have h0 : b ≠ c := by have := h 0 (by omega); simpa using this
    obtain ⟨i1, i2⟩ := indexByte_at c l n (fun j hj => by have := h (j + 1) (by omega); simpa using this)
    have hb : (b == c) = false := by simp [h0]
    refine ⟨fun hn => ?_, fun hn => ?_⟩
    · have := i1 (by simpa using hn)
      simp [Lib.indexByte, hb, this]
    · have := i2 (by simpa using hn)
      have hne : ((n : Int) == -1) = false := by simp
      rw [Lib.indexByte, this, hb, hne]
      simp
theorem data_sb (s : ByteArray) (j : Nat) (h : j < s.size) : s.data.toList[j]? = some 10 ↔ ab (sb s) j = 10 := by
  have h2 : j < s.data.toList.length := by simpa using h
  rw [List.getElem?_eq_getElem h2]
  unfold ab sb
  rw [List.getElem?_map, List.getElem?_eq_getElem h2]
  simp only [Option.map_some, Option.getD_some, Option.some.injEq]
  constructor
  · intro e; rw [e]; rfl
  · intro e; exact UInt8.toNat_inj.1 (by have : (10 : UInt8).toNat = 10 := rfl
                                         omega)
theorem fst10_index {s : ByteArray} {n : Nat} (h : Fst10 s n) : (n = s.size ∧ Lib.indexByte s.data.toList 10 = -1) ∨ (n < s.size ∧ Lib.indexByte s.data.toList 10 = (n : Int)) := by
  have hno : ∀ j, j < n → s.data.toList[j]? ≠ some 10 := by
    intro j hj e
    by_cases hs : j < s.size
    · exact h.1 j hj ((data_sb s j hs).1 e)
    · rw [List.getElem?_eq_none (by simp; omega)] at e; cases e
  obtain ⟨i1, i2⟩ := indexByte_at 10 s.data.toList n hno
  rcases h.2 with e | ⟨e, h10⟩
  · exact .inl ⟨e, i1 (by rw [e]; simp)⟩
  · exact .inr ⟨e, i2 ((data_sb s n e).2 h10)⟩
/-- The rest of a text from a line's beginning on: its line feed comes at the line's end. -/
theorem fst10_line {s : ByteArray} {g t k v : Nat} (hgt : g ≤ t) (htl : t ≤ s.size) (hg : lf (sb s) g = (k, g)) (ht : lf (sb s) t = (k, g)) (he : Eol (sb s) t k v) : Fst10 (s.extract g s.size) (t - g) := by
  have hsz : (s.extract g s.size).size = s.size - g := by rw [ByteArray.size_extract]; omega
  have hab : ∀ j, g + j < s.size → ab (sb (s.extract g s.size)) j = ab (sb s) (g + j) := by
    intro j hj
    rw [sb_extract, ab_take (by omega)]
    unfold ab
    rw [List.getElem?_drop]
  refine ⟨fun j hj => ?_, ?_⟩
  · rw [hab j (by omega)]
    exact lf_free (sb s) t (g + j) (by rw [ht]; simp) (by omega)
  · rw [hsz]
    rcases he.2 with e | e
    · left; rw [sb_len] at e; omega
    · by_cases h : t = s.size
      · left; omega
      · right
        refine ⟨by omega, ?_⟩
        rw [hab _ (by omega), show g + (t - g) = t by omega]; exact e
theorem extract_line (s : ByteArray) {g t : Nat} (hgt : g ≤ t) (htl : t ≤ s.size) : (s.extract g s.size).extract 0 (t - g) = s.extract g t := by
  rw [ByteArray.extract_extract]
  congr 1 <;> omega

end Go.Proofs.Ythjedecfpedjbaa

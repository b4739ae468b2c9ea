/- PLib, with the texts that only it needs in front of it: PNl. It has no conditions. -/
import Derived.Test.YtfhpllcdlejfjaaPLine
import Derived.Lib.Bytealg
import Derived.Lib.LastIndexByte
import Derived.Deep.RegionHeld3

/- Line feeds, as the library's Count, LastIndexByte and IndexByte find them. It has no conditions. -/
namespace Go.Proofs.Ytfhpllcdlejfjaa
open Go.RowKit
set_option linter.unusedVariables false

theorem lf_count (Z : List Int) (i : Nat) (hi : i ≤ Z.length) : (lf Z i).1 = (Z.take i).count 10 := by
  induction i with
  | zero => rfl
  | succ i ih =>
    have h1 : Z[i]? = some (ab Z i) := by rw [ab, List.getElem?_eq_getElem (by omega)]; rfl
    rw [List.take_add_one, h1, List.count_append, ← ih (by omega)]
    by_cases h : ab Z i = 10
    · rw [lf_nl h, h]; rfl
    · rw [lf_no h, Option.toList_some, List.count_cons_of_ne h]; rfl
theorem lf_before (Z : List Int) (i : Nat) : (lf Z i).2 = 0 ∨ ∃ j, (lf Z i).2 = j + 1 ∧ ab Z j = 10 := by
  induction i with
  | zero => exact .inl rfl
  | succ i ih =>
    by_cases h : ab Z i = 10
    · rw [lf_nl h]; exact .inr ⟨i, rfl, h⟩
    · rw [lf_no h]; exact ih
theorem count_sb (l : List UInt8) (c : UInt8) : Lib.countByte l c = (l.map fun b => (b.toNat : Int)).count (c.toNat : Int) := by
  unfold Lib.countByte
  induction l with
  | nil => rfl
  | cons b l ih =>
    rw [List.map_cons, List.count_cons, List.count_cons, ih]
    congr 1
    by_cases h : b = c
    · subst h; simp
    · have : ¬ (b.toNat : Int) = (c.toNat : Int) := fun e => h (UInt8.toNat_inj.1 (by omega))
      simp [h, this]
theorem nl_count (s : ByteArray) (i : Nat) (hi : i ≤ s.size) : Lib.countByte (s.extract 0 i).data.toList 10 = (lf (sb s) i).1 := by
  have h := sb_extract s 0 i
  rw [List.drop_zero, Nat.sub_zero] at h
  rw [count_sb, lf_count _ _ (by rw [sb_len]; exact hi), ← h]
  rfl
theorem bang_sb (s : ByteArray) (j : Nat) (h : j < s.size) : ((s.data[j]!).toNat : Int) = ab (sb s) j := by
  rw [sb_getP s j h, getElem!_pos s.data j (by simpa using h)]; rfl
theorem ab_take {Z : List Int} {j n : Nat} (h : j < n) : ab (Z.take n) j = ab Z j := by unfold ab; rw [List.getElem?_take, if_pos h]
theorem last_nl (s : ByteArray) (i : Nat) (hi : i ≤ s.size) : Lib.lastIndexByte (s.extract 0 i) 10 = ((lf (sb s) i).2 : Int) - 1 := by
  have hsz : (s.extract 0 i).size = i := by rw [ByteArray.size_extract]; omega
  have hb : ∀ j, j < i → (((s.extract 0 i).data[j]!).toNat : Int) = ab (sb s) j := by
    intro j hj
    rw [bang_sb _ _ (by omega), sb_extract, List.drop_zero, ab_take (by omega)]
  have hle := (lf_le (sb s) i).1
  rcases Lib.lastIndexByte_spec (s.extract 0 i) 10 with ⟨h1, h2⟩ | ⟨j, h1, h2, h3, h4⟩
  · rcases lf_before (sb s) i with h | ⟨j, h, h10⟩
    · omega
    · exact absurd ((hb j (by omega)).trans h10) (h2 j (by omega))
  · rw [hsz] at h1 h4
    rw [hb j h1] at h3
    rcases lf_before (sb s) i with h | ⟨j', h, h10⟩
    · exact absurd h3 (lf_free (sb s) i j (by omega) h1)
    · rcases Nat.lt_trichotomy j j' with hlt | rfl | hlt
      · exact absurd ((hb j' (by omega)).trans h10) (h4 j' hlt (by omega))
      · omega
      · exact absurd h3 (lf_free (sb s) i j (by omega) h1)
/-- The first n bytes of the text are no line feeds; the text ends there, or a line feed follows. -/
def Fst10 (s : ByteArray) (n : Nat) : Prop := (∀ j, j < n → ab (sb s) j ≠ 10) ∧ (n = s.size ∨ (n < s.size ∧ ab (sb s) n = 10))
theorem indexByte_at (c : UInt8) : ∀ (l : List UInt8) (n : Nat), (∀ j, j < n → l[j]? ≠ some c) → (n = l.length → Lib.indexByte l c = -1) ∧ (l[n]? = some c → Lib.indexByte l c = n)
  | [], n, h => ⟨fun _ => rfl, fun h => by simp at h⟩
  | b :: l, 0, h => ⟨fun h => by simp at h, fun h => by simp at h; simp [Lib.indexByte, h]⟩
  | b :: l, n + 1, h => by
    have h0 : b ≠ c := by have := h 0 (by omega); simpa using this
    obtain ⟨i1, i2⟩ := indexByte_at c l n (fun j hj => by have := h (j + 1) (by omega); simpa using this)
    have hb : (b == c) = false := by simp [h0]
    refine ⟨fun hn => ?_, fun hn => ?_⟩
    · have := i1 (by simpa using hn)
      simp [Lib.indexByte, hb, this]
    · have := i2 (by simpa using hn)
      have hne : ((n : Int) == -1) = false := by simp
      rw [Lib.indexByte, this, hb, hne]
      simp
theorem data_sb (s : ByteArray) (j : Nat) (h : j < s.size) : s.data.toList[j]? = some 10 ↔ ab (sb s) j = 10 := by
  have h2 : j < s.data.toList.length := by simpa using h
  rw [List.getElem?_eq_getElem h2]
  unfold ab sb
  rw [List.getElem?_map, List.getElem?_eq_getElem h2]
  simp only [Option.map_some, Option.getD_some, Option.some.injEq]
  constructor
  · intro e; rw [e]; rfl
  · intro e; exact UInt8.toNat_inj.1 (by have : (10 : UInt8).toNat = 10 := rfl
                                         omega)
theorem fst10_index {s : ByteArray} {n : Nat} (h : Fst10 s n) : (n = s.size ∧ Lib.indexByte s.data.toList 10 = -1) ∨ (n < s.size ∧ Lib.indexByte s.data.toList 10 = (n : Int)) := by
  have hno : ∀ j, j < n → s.data.toList[j]? ≠ some 10 := by
    intro j hj e
    by_cases hs : j < s.size
    · exact h.1 j hj ((data_sb s j hs).1 e)
    · rw [List.getElem?_eq_none (by simp; omega)] at e; cases e
  obtain ⟨i1, i2⟩ := indexByte_at 10 s.data.toList n hno
  rcases h.2 with e | ⟨e, h10⟩
  · exact .inl ⟨e, i1 (by rw [e]; simp)⟩
  · exact .inr ⟨e, i2 ((data_sb s n e).2 h10)⟩
/-- The rest of a text from a line's beginning on: its line feed comes at the line's end. -/
theorem fst10_line {s : ByteArray} {g t k v : Nat} (hgt : g ≤ t) (htl : t ≤ s.size) (hg : lf (sb s) g = (k, g)) (ht : lf (sb s) t = (k, g)) (he : Eol (sb s) t k v) : Fst10 (s.extract g s.size) (t - g) := by
  have hsz : (s.extract g s.size).size = s.size - g := by rw [ByteArray.size_extract]; omega
  have hab : ∀ j, g + j < s.size → ab (sb (s.extract g s.size)) j = ab (sb s) (g + j) := by
    intro j hj
    rw [sb_extract, ab_take (by omega)]
    unfold ab
    rw [List.getElem?_drop]
  refine ⟨fun j hj => ?_, ?_⟩
  · rw [hab j (by omega)]
    exact lf_free (sb s) t (g + j) (by rw [ht]; simp) (by omega)
  · rw [hsz]
    rcases he.2 with e | e
    · left; rw [sb_len] at e; omega
    · by_cases h : t = s.size
      · left; omega
      · right
        refine ⟨by omega, ?_⟩
        rw [hab _ (by omega), show g + (t - g) = t by omega]; exact e
theorem extract_line (s : ByteArray) {g t : Nat} (hgt : g ≤ t) (htl : t ≤ s.size) : (s.extract g s.size).extract 0 (t - g) = s.extract g t := by
  rw [ByteArray.extract_extract]
  congr 1 <;> omega

end Go.Proofs.Ytfhpllcdlejfjaa

/- Contracts of the library's functions that the program calls: Count, LastIndexByte and Cut at the byte 10, walked through their own text. Conditions: texts of at most 100000 bytes. -/
namespace Go.Proofs.Ytfhpllcdlejfjaa
open Go.RowKit Go.Shelf
set_option linter.unusedVariables false

set_option maxRecDepth 100000 in
set_option maxHeartbeats 1000000 in
theorem count_nl (s : ByteArray) (w : World) :
    Calls Try.prog 54 #[.string s, .string ⟨#[10]⟩] w fun e w' => e = .returned (.int .i64 (Lib.countByte s.data.toList 10 : Int)) ∧ w = w' := by
  go_enter Try.func54, Try.ntmps54
  go_wp2
  rw [run_callFunc_extern Try.func71 (by kernel_rfl) (by kernel_rfl) (by kernel_rfl) (e := Extern.BytealgCount.count) (by kernel_rfl), Lib.run_countString]
  simp only [Result.andThen]
  rw [Oper.upon_value]
  go_wp2
  go_ret
  exact ⟨rfl, rfl⟩

set_option maxRecDepth 100000 in
set_option maxHeartbeats 4000000 in
theorem last_string (s : ByteArray) (c : Int) (hs : s.size ≤ 100000) (w : World) :
    Calls Try.prog 69 #[.string s, .int .u8 c] w fun e w' => e = .returned (.int .i64 (Lib.lastIndexByte s c)) ∧ w = w' := by
  go_enter Try.func69, Try.ntmps69
  go_wp2
  go_loop [5] (fun vi => ∃ k : Nat, k ≤ s.size ∧ vi = .int .i64 ((k : Int) - 1) ∧ Hid (Lib.lastIndexByte s c = Lib.lastIdx s c k)) (fun vi => ((RowKit.intOf vi) + 1).toNat)
  case atStart => exact ⟨s.size, Nat.le_refl _, by first | rfl | go_num | (congr 1; omega), rfl⟩
  case round =>
    obtain ⟨k, hk, rfl, hh⟩ := hrel
    by_cases k0 : k = 0
    · subst k0
      have g0 : ¬ ((0 : Nat) : Int) - 1 ≥ 0 := by omega
      go_wp2
      go_ret
      rw [hh.out]
      exact ⟨rfl, rfl⟩
    · have hlt : k - 1 < s.size := by omega
      have e2 : (k : Int) - 1 = ((k - 1 : Nat) : Int) := by omega
      have hbang : ((s.data[k - 1]!).toNat : Int) = ((s[k - 1]'hlt).toNat : Int) := by rw [getElem!_pos s.data (k - 1) (by simpa using hlt)]; rfl
      by_cases hc : ((s[k - 1]'hlt).toNat : Int) = c
      · have e1 : Lib.lastIdx s c k = ((k - 1 : Nat) : Int) := by
          have := Lib.lastIdx_hit s c (k - 1) (hbang.trans hc)
          rwa [show k - 1 + 1 = k by omega] at this
        have hq : (((s[k - 1]'hlt).toNat : Int) == c) = true := by simp; omega
        have HE := Lib.hid e1
        clear e1 hc hbang
        rw [e2]
        go_wp2
        go_ret
        rw [hh.out, HE.out]
        exact ⟨rfl, rfl⟩
      · have e1 : Lib.lastIdx s c k = Lib.lastIdx s c (k - 1) := by
          have := Lib.lastIdx_miss s c (k - 1) (by rw [hbang]; exact hc)
          rwa [show k - 1 + 1 = k by omega] at this
        have hq : (((s[k - 1]'hlt).toNat : Int) == c) = false := by simp; omega
        have HE := Lib.hid (hh.out.trans e1)
        clear e1 hc hbang
        rw [e2]
        go_wp2
        refine ⟨⟨k - 1, by omega, by congr 1, HE⟩, ?_⟩
        simp [RowKit.intOf] <;> omega
set_option maxRecDepth 100000 in
theorem last_any (s : ByteArray) (c : Int) (hs : s.size ≤ 100000) (w : World) :
    Calls Try.prog 53 #[.string s, .int .u8 c] w fun e w' => e = .returned (.int .i64 (Lib.lastIndexByte s c)) ∧ w = w' := by
  go_enter Try.func53, Try.ntmps53
  go_wp2_with fail
  refine (last_string s c hs _).mono ?_
  rintro e w' ⟨rfl, rfl⟩
  go_wp2
  go_ret
  exact ⟨rfl, rfl⟩

set_option maxRecDepth 100000 in
set_option maxHeartbeats 1000000 in
theorem index_byte (s : ByteArray) (c : UInt8) (w : World) :
    Calls Try.prog 87 #[.string s, .int .u8 (c.toNat : Int)] w fun e w' => e = .returned (.int .i64 (Lib.indexByte s.data.toList c)) ∧ w = w' := by
  go_enter Try.func87, Try.ntmps87
  go_wp2
  rw [run_callFunc_extern Try.func92 (by kernel_rfl) (by kernel_rfl) (by kernel_rfl) (e := Extern.BytealgIndexByte.indexByte) (by kernel_rfl), Lib.run_indexByteString]
  simp only [Result.andThen]
  rw [Oper.upon_value]
  go_wp2
  go_ret
  refine ⟨?_, rfl⟩
  simp
set_option maxRecDepth 100000 in
set_option maxHeartbeats 2000000 in
theorem index_one (s : ByteArray) (c : UInt8) (w : World) :
    Calls Try.prog 82 #[.string s, .string ⟨#[c]⟩] w fun e w' => e = .returned (.int .i64 (Lib.indexByte s.data.toList c)) ∧ w = w' := by
  go_enter Try.func82, Try.ntmps82
  go_wp2_with (go_at_call 87; refine (index_byte _ _ _).mono ?_; rintro e w' ⟨rfl, rfl⟩)
  · have h : ([c] == s.toList) = true := by assumption
    go_ret
    refine ⟨?_, rfl⟩
    have e : s.data.toList = [c] := by rw [← Lib.toList_data]; exact (beq_iff_eq.1 h).symm
    rw [e]
    simp [Lib.indexByte]
  · go_ret
    exact ⟨rfl, rfl⟩

/-- Cut at the byte 10: the text before the first one. -/
def CutPost (s : ByteArray) (n : Nat) (w : World) (e : Ending) (w' : World) : Prop :=
  ∃ (t : ByteArray) (b : Bool), e = .returned (.tuple #[.string (s.extract 0 n), .string t, .bool b]) ∧ Below w.heap.size w w'
set_option maxRecDepth 100000 in
set_option maxHeartbeats 2000000 in
theorem cut_lite (s : ByteArray) (n : Nat) (w : World) (hs : s.size ≤ 100000) (h : Fst10 s n) :
    Calls Try.prog 91 #[.string s, .string ⟨#[10]⟩] w (CutPost s n w) := by
  rcases fst10_index h with ⟨h1, h2⟩ | ⟨h1, h2⟩
  · have cI := fun W => index_one s 10 W
    rw [h2] at cI
    have CI := Lib.hid cI
    have he : s.extract 0 n = s := by rw [h1]; exact ByteArray.extract_zero_size
    have HE := Lib.hid he
    clear h1 h2 cI he h
    go_enter Try.func91, Try.ntmps91
    go_wp2_with fail
    refine (CI.out _).mono ?_
    rintro e w' ⟨rfl, rfl⟩
    go_wp2
    go_ret3
    exact ⟨⟨#[]⟩, false, by rw [HE.out]; rfl, Below.refl _ _⟩
  · have cI := fun W => index_one s 10 W
    rw [h2] at cI
    have CI := Lib.hid cI
    have g0 : (0 : Int) ≤ (n : Int) := by omega
    have g1 : (n : Int) ≤ (s.size : Int) := by omega
    have g2 : (n : Int) + 1 ≤ (s.size : Int) := by omega
    have g3 : (0 : Int) ≤ (n : Int) + 1 := by omega
    have hwr : IntKind.i64.wrap ((n : Int) + 1) = (n : Int) + 1 := by simp [IntKind.wrap, IntKind.signed, IntKind.bits]; omega
    have htn : ((n : Int) + 1).toNat = n + 1 := by omega
    clear h2 cI h
    go_enter Try.func91, Try.ntmps91
    go_wp2_with fail
    refine (CI.out _).mono ?_
    rintro e w' ⟨rfl, rfl⟩
    go_wp2_with fail
    go_quiet (fail)
    go_wp2
    go_ret3
    exact ⟨_, _, rfl, below_drewN (Below.refl _ _) _⟩
set_option maxRecDepth 100000 in
theorem cut_any (s : ByteArray) (n : Nat) (w : World) (hs : s.size ≤ 100000) (h : Fst10 s n) :
    Calls Try.prog 84 #[.string s, .string ⟨#[10]⟩] w (CutPost s n w) := by
  go_enter Try.func84, Try.ntmps84
  go_wp2_with fail
  refine (cut_lite s n _ hs h).mono ?_
  rintro e w' ⟨t, b, rfl, hb⟩
  go_wp2
  go_ret3
  exact ⟨_, _, rfl, hb⟩

end Go.Proofs.Ytfhpllcdlejfjaa

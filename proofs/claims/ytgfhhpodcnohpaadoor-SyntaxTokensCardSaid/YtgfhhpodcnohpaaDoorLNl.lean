/- Tokens: the line ahead: strings.Cut at the byte 10, walked through the library's own text. Conditions: texts of at most 100000 bytes. -/
import Derived.Test.YtgfhhpodcnohpaaDoorLKw
import Derived.Lib.Bytealg
namespace Go.Proofs.YtgfhhpodcnohpaaDoor
open Go.RowKit Go.Shelf
set_option linter.unusedVariables false

theorem lindex_at (c : UInt8) : ∀ (l : List UInt8) (n : Nat), (∀ j, j < n → l[j]? ≠ some c) → (n = l.length → Lib.indexByte l c = -1) ∧ (l[n]? = some c → Lib.indexByte l c = n)
  | [], n, h => ⟨fun _ => rfl, fun h => by simp at h⟩
  | b :: l, 0, h => ⟨fun h => by simp at h, fun h => by simp at h; simp [Lib.indexByte, h]⟩
  | b :: l, n + 1, h => by
    have h0 : b ≠ c := by have := h 0 (by omega); simpa using this
    obtain ⟨i1, i2⟩ := lindex_at c l n (fun j hj => by have := h (j + 1) (by omega); simpa using this)
    have hb : (b == c) = false := by simp [h0]
    refine ⟨fun hn => ?_, fun hn => ?_⟩
    · have := i1 (by simpa using hn)
      simp [Lib.indexByte, hb, this]
    · have := i2 (by simpa using hn)
      have hne : ((n : Int) == -1) = false := by simp
      rw [Lib.indexByte, this, hb, hne]
      simp
theorem sbData (s : ByteArray) (i : Nat) : (sb s)[i]? = (s.data.toList[i]?).map fun c => (c.toNat : Int) := by unfold sb; rw [List.getElem?_map]
/-- Where the library finds a byte. -/
theorem lindex_run (s : ByteArray) (c : UInt8) (p : Int → Bool) (hp : ∀ x : Int, p x = false ↔ x = (c.toNat : Int)) :
    (run p (sb s) = s.size ∧ Lib.indexByte s.data.toList c = -1) ∨ (run p (sb s) < s.size ∧ Lib.indexByte s.data.toList c = (run p (sb s) : Int)) := by
  have hlen : s.data.toList.length = s.size := by simp
  have hle := run_le p (sb s)
  rw [sb_len] at hle
  have hno : ∀ j, j < run p (sb s) → s.data.toList[j]? ≠ some c := by
    intro j hj e
    obtain ⟨d, h1, h2⟩ := run_isin p (sb s) j hj
    rw [sbData, e] at h1
    cases h1
    rw [(hp _).2 rfl] at h2
    cases h2
  obtain ⟨i1, i2⟩ := lindex_at c s.data.toList _ hno
  rcases Nat.lt_or_ge (run p (sb s)) s.size with h | h
  · right
    refine ⟨h, i2 ?_⟩
    have h1 : s.data.toList[run p (sb s)]? = some (s.data.toList[run p (sb s)]'(by omega)) := List.getElem?_eq_getElem _
    rw [h1]
    have h2 : (sb s)[run p (sb s)]? = some ((s.data.toList[run p (sb s)]'(by omega)).toNat : Int) := by rw [sbData, h1]; rfl
    have h3 := (hp _).1 (run_out p (sb s) _ h2)
    rw [UInt8.toNat_inj.1 (by omega : (s.data.toList[run p (sb s)]'(by omega)).toNat = c.toNat)]
  · left
    have : run p (sb s) = s.size := by omega
    exact ⟨this, i1 (by omega)⟩
theorem noNl_10 (x : Int) : noNl x = false ↔ x = ((10 : UInt8).toNat : Int) := by
  rw [show ((10 : UInt8).toNat : Int) = 10 from rfl]
  simp [noNl]

set_option maxRecDepth 100000 in
set_option maxHeartbeats 1000000 in
theorem lindex_byte (s : ByteArray) (c : UInt8) (w : World) :
    Calls Tryd.prog 140 #[.string s, .int .u8 (c.toNat : Int)] w fun e w' => e = .returned (.int .i64 (Lib.indexByte s.data.toList c)) ∧ w = w' := by
  go_enter Tryd.func140, Tryd.ntmps140
  go_wp2
  rw [run_callFunc_extern Tryd.func148 (by kernel_rfl) (by kernel_rfl) (by kernel_rfl) (e := Extern.BytealgIndexByte.indexByte) (by kernel_rfl), Lib.run_indexByteString]
  simp only [Result.andThen]
  rw [Oper.upon_value]
  go_wp2
  go_ret
  refine ⟨?_, rfl⟩
  simp
set_option maxRecDepth 100000 in
set_option maxHeartbeats 2000000 in
theorem lindex_one (s : ByteArray) (c : UInt8) (w : World) :
    Calls Tryd.prog 114 #[.string s, .string ⟨#[c]⟩] w fun e w' => e = .returned (.int .i64 (Lib.indexByte s.data.toList c)) ∧ w = w' := by
  go_enter Tryd.func114, Tryd.ntmps114
  go_wp2_with (go_at_call 140; refine (lindex_byte _ _ _).mono ?_; rintro e w' ⟨rfl, rfl⟩)
  · have h : ([c] == s.toList) = true := by assumption
    go_ret
    refine ⟨?_, rfl⟩
    have e : s.data.toList = [c] := by rw [← Lib.toList_data]; exact (beq_iff_eq.1 h).symm
    rw [e]
    simp [Lib.indexByte]
  · go_ret
    exact ⟨rfl, rfl⟩

/-- Cut at the byte 10: the text before the first one. -/
def LCut (s : ByteArray) (n : Nat) (w : World) (e : Ending) (w' : World) : Prop :=
  ∃ (t : ByteArray) (b : Bool), e = .returned (.tuple #[.string (s.extract 0 n), .string t, .bool b]) ∧ Below w.heap.size w w'
set_option maxRecDepth 100000 in
set_option maxHeartbeats 2000000 in
theorem lcut_lite (s : ByteArray) (n : Nat) (w : World) (hs : s.size ≤ 100000) (h : run noNl (sb s) = n) :
    Calls Tryd.prog 90 #[.string s, .string ⟨#[10]⟩] w (LCut s n w) := by
  have h0 := lindex_run s 10 noNl noNl_10
  rw [h] at h0
  rcases h0 with ⟨h1, h2⟩ | ⟨h1, h2⟩
  · have cI := fun W => lindex_one s 10 W
    rw [h2] at cI
    have CI := Lib.hid cI
    have he : s.extract 0 n = s := by rw [h1]; exact ByteArray.extract_zero_size
    have HE := Lib.hid he
    clear h1 h2 cI he h
    go_enter Tryd.func90, Tryd.ntmps90
    go_wp2_with fail
    refine (CI.out _).mono ?_
    rintro e w' ⟨rfl, rfl⟩
    go_wp2
    go_ret3
    exact ⟨⟨#[]⟩, false, by rw [HE.out]; rfl, Below.refl _ _⟩
  · have cI := fun W => lindex_one s 10 W
    rw [h2] at cI
    have CI := Lib.hid cI
    have g0 : (0 : Int) ≤ (n : Int) := by omega
    have g1 : (n : Int) ≤ (s.size : Int) := by omega
    have g2 : (n : Int) + 1 ≤ (s.size : Int) := by omega
    have g3 : (0 : Int) ≤ (n : Int) + 1 := by omega
    have hwr : IntKind.i64.wrap ((n : Int) + 1) = (n : Int) + 1 := by simp [IntKind.wrap, IntKind.signed, IntKind.bits]; omega
    have htn : ((n : Int) + 1).toNat = n + 1 := by omega
    clear h2 cI h
    go_enter Tryd.func90, Tryd.ntmps90
    go_wp2_with fail
    refine (CI.out _).mono ?_
    rintro e w' ⟨rfl, rfl⟩
    go_wp2_with fail
    go_quiet (fail)
    go_wp2
    go_ret3
    exact ⟨_, _, rfl, below_drewN (Below.refl _ _) _⟩
set_option maxRecDepth 100000 in
theorem lcut_any (s : ByteArray) (n : Nat) (w : World) (hs : s.size ≤ 100000) (h : run noNl (sb s) = n) :
    Calls Tryd.prog 61 #[.string s, .string ⟨#[10]⟩] w (LCut s n w) := by
  go_enter Tryd.func61, Tryd.ntmps61
  go_wp2_with fail
  refine (lcut_lite s n _ hs h).mono ?_
  rintro e w' ⟨t, b, rfl, hb⟩
  go_wp2
  go_ret3
  exact ⟨_, _, rfl, hb⟩

set_option maxRecDepth 100000 in
theorem line_any (s : ByteArray) (w : World) (hs : s.size ≤ 100000) :
    Calls Tryd.prog 122 #[.string s] w fun e w' => e = .returned (.int .i64 (run noNl (sb s) : Int)) ∧ Below w.heap.size w w' := by
  obtain ⟨n, hn⟩ : ∃ n, run noNl (sb s) = n := ⟨_, rfl⟩
  have hle := run_le noNl (sb s)
  rw [sb_len, hn] at hle
  have HN := Lib.hid hn
  rw [hn]
  have hz : (s.extract 0 n).size = n := by rw [ByteArray.size_extract]; omega
  obtain ⟨t, ht⟩ : ∃ t, s.extract 0 n = t := ⟨_, rfl⟩
  rw [ht] at hz
  have HT := Lib.hid ht
  clear hn ht
  go_enter Tryd.func122, Tryd.ntmps122
  go_wp2_with fail
  refine (lcut_any s n _ hs HN.out).mono ?_
  rintro e w' ⟨u, b, rfl, hb⟩
  rw [HT.out]
  go_wp2
  go_ret
  exact ⟨rfl, hb⟩

end Go.Proofs.YtgfhhpodcnohpaaDoor

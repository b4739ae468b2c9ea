/- Contracts of the library's functions that the program calls: Count, LastIndexByte and Cut at the byte 10, walked through their own text. Conditions: texts of at most 100000 bytes. -/
import Derived.Test.YthjedecfpedjbaaPNl
import Derived.Deep.RegionHeld3
namespace Go.Proofs.Ythjedecfpedjbaa
open Go.RowKit Go.Shelf
set_option linter.unusedVariables false

set_option maxRecDepth 100000 in
set_option maxHeartbeats 1000000 in
theorem count_nl (s : ByteArray) (w : World) :
    Calls Try.prog 43 #[.string s, .string ⟨#[10]⟩] w fun e w' => e = .returned (.int .i64 (Lib.countByte s.data.toList 10 : Int)) ∧ w = w' := by
  go_enter Try.func43, Try.ntmps43
  go_wp2
  rw [run_callFunc_extern Try.func61 (by kernel_rfl) (by kernel_rfl) (by kernel_rfl) (e := Extern.BytealgCount.count) (by kernel_rfl), Lib.run_countString]
  simp only [Result.andThen]
  rw [Oper.upon_value]
  go_wp2
  go_ret
  exact ⟨rfl, rfl⟩

set_option maxRecDepth 100000 in
set_option maxHeartbeats 4000000 in
theorem last_string (s : ByteArray) (c : Int) (hs : s.size ≤ 100000) (w : World) :
    Calls Try.prog 59 #[.string s, .int .u8 c] w fun e w' => e = .returned (.int .i64 (Lib.lastIndexByte s c)) ∧ w = w' := by
  go_enter Try.func59, Try.ntmps59
  go_wp2
  go_loop [5] (fun vi => ∃ k : Nat, k ≤ s.size ∧ vi = .int .i64 ((k : Int) - 1) ∧ Hid (Lib.lastIndexByte s c = Lib.lastIdx s c k)) (fun vi => ((RowKit.intOf vi) + 1).toNat)
  case atStart => exact ⟨s.size, Nat.le_refl _, by first | rfl | go_num | (congr 1; omega), rfl⟩
  case round =>
    obtain ⟨k, hk, rfl, hh⟩ := hrel
    by_cases k0 : k = 0
    · subst k0
      have g0 : ¬ ((0 : Nat) : Int) - 1 ≥ 0 := by omega
      go_wp2
      go_ret
      rw [hh.out]
      exact ⟨rfl, rfl⟩
    · have hlt : k - 1 < s.size := by omega
      have e2 : (k : Int) - 1 = ((k - 1 : Nat) : Int) := by omega
      have hbang : ((s.data[k - 1]!).toNat : Int) = ((s[k - 1]'hlt).toNat : Int) := by rw [getElem!_pos s.data (k - 1) (by simpa using hlt)]; rfl
      by_cases hc : ((s[k - 1]'hlt).toNat : Int) = c
      · have e1 : Lib.lastIdx s c k = ((k - 1 : Nat) : Int) := by
          have := Lib.lastIdx_hit s c (k - 1) (hbang.trans hc)
          rwa [show k - 1 + 1 = k by omega] at this
        have hq : (((s[k - 1]'hlt).toNat : Int) == c) = true := by simp; omega
        have HE := Lib.hid e1
        clear e1 hc hbang
        rw [e2]
        go_wp2
        go_ret
        rw [hh.out, HE.out]
        exact ⟨rfl, rfl⟩
      · have e1 : Lib.lastIdx s c k = Lib.lastIdx s c (k - 1) := by
          have := Lib.lastIdx_miss s c (k - 1) (by rw [hbang]; exact hc)
          rwa [show k - 1 + 1 = k by omega] at this
        have hq : (((s[k - 1]'hlt).toNat : Int) == c) = false := by simp; omega
        have HE := Lib.hid (hh.out.trans e1)
        clear e1 hc hbang
        rw [e2]
        go_wp2
        refine ⟨⟨k - 1, by omega, by congr 1, HE⟩, ?_⟩
        simp [RowKit.intOf] <;> omega
set_option maxRecDepth 100000 in
theorem last_any (s : ByteArray) (c : Int) (hs : s.size ≤ 100000) (w : World) :
    Calls Try.prog 42 #[.string s, .int .u8 c] w fun e w' => e = .returned (.int .i64 (Lib.lastIndexByte s c)) ∧ w = w' := by
  go_enter Try.func42, Try.ntmps42
  go_wp2_with fail
  refine (last_string s c hs _).mono ?_
  rintro e w' ⟨rfl, rfl⟩
  go_wp2
  go_ret
  exact ⟨rfl, rfl⟩

set_option maxRecDepth 100000 in
set_option maxHeartbeats 1000000 in
theorem index_byte (s : ByteArray) (c : UInt8) (w : World) :
    Calls Try.prog 73 #[.string s, .int .u8 (c.toNat : Int)] w fun e w' => e = .returned (.int .i64 (Lib.indexByte s.data.toList c)) ∧ w = w' := by
  go_enter Try.func73, Try.ntmps73
  go_wp2
  rw [run_callFunc_extern Try.func77 (by kernel_rfl) (by kernel_rfl) (by kernel_rfl) (e := Extern.BytealgIndexByte.indexByte) (by kernel_rfl), Lib.run_indexByteString]
  simp only [Result.andThen]
  rw [Oper.upon_value]
  go_wp2
  go_ret
  refine ⟨?_, rfl⟩
  simp
set_option maxRecDepth 100000 in
set_option maxHeartbeats 2000000 in
theorem index_one (s : ByteArray) (c : UInt8) (w : World) :
    Calls Try.prog 71 #[.string s, .string ⟨#[c]⟩] w fun e w' => e = .returned (.int .i64 (Lib.indexByte s.data.toList c)) ∧ w = w' := by
  go_enter Try.func71, Try.ntmps71
  go_wp2_with (go_at_call 73; refine (index_byte _ _ _).mono ?_; rintro e w' ⟨rfl, rfl⟩)
  · have h : ([c] == s.toList) = true := by assumption
    go_ret
    refine ⟨?_, rfl⟩
    have e : s.data.toList = [c] := by rw [← Lib.toList_data]; exact (beq_iff_eq.1 h).symm
    rw [e]
    simp [Lib.indexByte]
  · go_ret
    exact ⟨rfl, rfl⟩

/-- Cut at the byte 10: the text before the first one. -/
def CutPost (s : ByteArray) (n : Nat) (w : World) (e : Ending) (w' : World) : Prop :=
  ∃ (t : ByteArray) (b : Bool), e = .returned (.tuple #[.string (s.extract 0 n), .string t, .bool b]) ∧ Below w.heap.size w w'
set_option maxRecDepth 100000 in
set_option maxHeartbeats 2000000 in
theorem cut_lite (s : ByteArray) (n : Nat) (w : World) (hs : s.size ≤ 100000) (h : Fst10 s n) :
    Calls Try.prog 58 #[.string s, .string ⟨#[10]⟩] w (CutPost s n w) := by
  rcases fst10_index h with ⟨h1, h2⟩ | ⟨h1, h2⟩
  · have cI := fun W => index_one s 10 W
    rw [h2] at cI
    have CI := Lib.hid cI
    have he : s.extract 0 n = s := by rw [h1]; exact ByteArray.extract_zero_size
    have HE := Lib.hid he
    clear h1 h2 cI he h
    go_enter Try.func58, Try.ntmps58
    go_wp2_with fail
    refine (CI.out _).mono ?_
    rintro e w' ⟨rfl, rfl⟩
    go_wp2
    go_ret3
    exact ⟨⟨#[]⟩, false, by rw [HE.out]; rfl, Below.refl _ _⟩
  · have cI := fun W => index_one s 10 W
    rw [h2] at cI
    have CI := Lib.hid cI
    have g0 : (0 : Int) ≤ (n : Int) := by omega
    have g1 : (n : Int) ≤ (s.size : Int) := by omega
    have g2 : (n : Int) + 1 ≤ (s.size : Int) := by omega
    have g3 : (0 : Int) ≤ (n : Int) + 1 := by omega
    have hwr : IntKind.i64.wrap ((n : Int) + 1) = (n : Int) + 1 := by simp [IntKind.wrap, IntKind.signed, IntKind.bits]; omega
    have htn : ((n : Int) + 1).toNat = n + 1 := by omega
    clear h2 cI h
    go_enter Try.func58, Try.ntmps58
    go_wp2_with fail
    refine (CI.out _).mono ?_
    rintro e w' ⟨rfl, rfl⟩
    go_wp2_with fail
    go_quiet (fail)
    go_wp2
    go_ret3
    exact ⟨_, _, rfl, below_drewN (Below.refl _ _) _⟩
set_option maxRecDepth 100000 in
theorem cut_any (s : ByteArray) (n : Nat) (w : World) (hs : s.size ≤ 100000) (h : Fst10 s n) :
    Calls Try.prog 39 #[.string s, .string ⟨#[10]⟩] w (CutPost s n w) := by
  go_enter Try.func39, Try.ntmps39
  go_wp2_with fail
  refine (cut_lite s n _ hs h).mono ?_
  rintro e w' ⟨t, b, rfl, hb⟩
  go_wp2
  go_ret3
  exact ⟨_, _, rfl, hb⟩

end Go.Proofs.Ythjedecfpedjbaa

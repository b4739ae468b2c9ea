/- Boundaries of characters in whole texts, and positions that a common beginning decides; Boundary, and edits at boundaries. Conditions: texts of at most 1000000 bytes. -/
import Derived.Test.YtfhpllcdlejfjaaEGn
import Derived.Test.YtfhpllcdlejfjaaEDf
import Derived.Test.YtfhpllcdlejfjaaPJoin
import Derived.Test.YtfhpllcdlejfjaaPOrd
namespace Go.Proofs.Ytfhpllcdlejfjaa
open Go.RowKit Go.Shelf
set_option linter.unusedVariables false

theorem whl_drop {Z : List Int} {i u : Nat} (h : Bord Z i u) (w : Whl Z) : Whl (Z.drop i) := by
  induction h with
  | zero Z => simpa using w
  | @step Z i u hz _ ih =>
    cases w with
    | nil => exact absurd rfl hz
    | cons _ _ hr => rw [← List.drop_drop]; exact ih hr
theorem whl_take {Z : List Int} {i u : Nat} (h : Bord Z i u) (w : Whl Z) : Whl (Z.take i) := by
  induction h with
  | zero Z => rw [List.take_zero]; exact Whl.nil
  | @step Z i u hz _ ih =>
    cases w with
    | nil => exact absurd rfl hz
    | cons _ hw hr =>
      have hp := chr_pos Z
      have hne : Z.take ((chr Z).1 + i) ≠ [] := take_ne hz (by omega)
      have hc : chr (Z.take ((chr Z).1 + i)) = chr Z := chr_take (by omega)
      refine Whl.cons hne ?_ ?_
      · rw [hc]
        have e : ab (Z.take ((chr Z).1 + i)) 0 = ab Z 0 := by unfold ab; rw [List.getElem?_take, if_pos (by omega)]
        rw [e]; exact hw
      · rw [hc, List.drop_take, Nat.add_sub_cancel_left]; exact ih hr
/-- Offset m is not within a character, by its looks. -/
def Bd (Z : List Int) (m : Nat) : Prop := m = 0 ∨ Z.length ≤ m ∨ ¬ (128 ≤ ab Z m ∧ ab Z m < 192)
theorem chr_cont {Z : List Int} (j : Nat) (h1 : 1 ≤ j) (hj : j < (chr Z).1) : 128 ≤ ab Z j ∧ ab Z j < 192 := by
  have key : ∀ i, bt Z i 128 191 = true → 128 ≤ ab Z i ∧ ab Z i < 192 := fun i h => by have := bt_true h; omega
  rcases chr_ways Z with h0 | ⟨h0, _, a1⟩ | ⟨h0, _, a1, a2⟩ | ⟨h0, _, a1, a2, a3⟩ <;> rw [h0] at hj <;> simp only at hj
  · omega
  · obtain rfl : j = 1 := by omega
    exact key _ a1
  · have : j = 1 ∨ j = 2 := by omega
    rcases this with rfl | rfl
    · exact key _ a1
    · exact key _ a2
  · have : j = 1 ∨ j = 2 ∨ j = 3 := by omega
    rcases this with rfl | rfl | rfl
    · exact key _ a1
    · exact key _ a2
    · exact key _ a3
theorem bord_of_bd {Z : List Int} (w : Whl Z) : ∀ {m : Nat}, m ≤ Z.length → Bd Z m → ∃ U, Bord Z m U := by
  induction w with
  | nil => intro m hm _; obtain rfl : m = 0 := by simpa using hm
           exact ⟨0, Bord.zero _⟩
  | @cons Z hz hw hr ih =>
    intro m hm hb
    have hp := chr_pos Z
    by_cases h0 : m = 0
    · subst h0; exact ⟨0, Bord.zero _⟩
    by_cases hlt : m < (chr Z).1
    · have hl := chr_le hz
      have hc := chr_cont (Z := Z) m (by omega) hlt
      rcases hb with h | h | h
      · exact absurd h h0
      · omega
      · exact absurd hc h
    · obtain ⟨i, rfl⟩ : ∃ i, m = (chr Z).1 + i := ⟨m - (chr Z).1, by omega⟩
      have hl := chr_le hz
      obtain ⟨U, hU⟩ := ih (m := i) (by rw [List.length_drop]; omega) (by
        rcases hb with h | h | h
        · omega
        · exact .inr (.inl (by rw [List.length_drop]; omega))
        · refine .inr (.inr ?_)
          have e : ab (Z.drop (chr Z).1) i = ab Z ((chr Z).1 + i) := by unfold ab; rw [List.getElem?_drop]
          rw [e]; exact h)
      exact ⟨_, Bord.step hz hU⟩
/-- A position is decided by what stands before it, in whole texts. -/
theorem pos_prefix {A B1 B2 : List Int} {l u : Nat} (w : Whl (A ++ B1)) (h : Pos (A ++ B1) A.length l u) : Pos (A ++ B2) A.length l u := by
  obtain ⟨⟨U, hU⟩, hl, hb⟩ := h
  have hA : Bord A A.length U := by
    have := hU.of_take (Nat.le_refl _)
    rwa [List.take_left] at this
  have wA : Whl A := by
    have := whl_take hU w
    rwa [List.take_left] at this
  rw [lf_left A B1 _ (Nat.le_refl _)] at hl hb
  have hle := (lf_le A A.length).1
  refine ⟨⟨U, hA.append wA⟩, by rw [lf_left A B2 _ (Nat.le_refl _)]; exact hl, ?_⟩
  rw [lf_left A B2 _ (Nat.le_refl _)]
  rw [List.drop_append_of_le_length hle] at hb ⊢
  have hb2 := hb.of_take (m := (A.drop (lf A A.length).2).length) (by rw [List.length_drop]; omega)
  rw [List.take_left] at hb2
  obtain ⟨V, hV⟩ := lf_bord (Z := A) (i := A.length) (Nat.le_refl _)
  exact hb2.append (whl_drop hV wA)

/-- The last boundary up to an offset. -/
def bdy (Z : List Int) : Nat → Nat
  | 0 => 0
  | k + 1 => if k + 1 < Z.length ∧ 128 ≤ ab Z (k + 1) ∧ ab Z (k + 1) < 192 then bdy Z k else k + 1
theorem bdy_le (Z : List Int) : ∀ k, bdy Z k ≤ k := by
  intro k
  induction k with
  | zero => exact Nat.le_refl _
  | succ k ih => simp only [bdy]; split <;> omega
theorem bdy_ok (Z : List Int) : ∀ k, Bd Z (bdy Z k) := by
  intro k
  induction k with
  | zero => exact .inl rfl
  | succ k ih =>
    simp only [bdy]
    split
    · exact ih
    · rename_i h
      by_cases hl : k + 1 < Z.length
      · exact .inr (.inr (fun x => h ⟨hl, x⟩))
      · exact .inr (.inl (by omega))
theorem bdy_ge {Z : List Int} {m : Nat} (hm : Bd Z m) : ∀ {k}, m ≤ k → m ≤ bdy Z k := by
  intro k
  induction k with
  | zero => intro h; simp only [bdy]; exact h
  | succ k ih =>
    intro h
    simp only [bdy]
    split
    · rename_i hc
      by_cases e : m = k + 1
      · subst e
        rcases hm with h1 | h1 | h1
        · omega
        · omega
        · exact absurd hc.2 h1
      · exact ih (by omega)
    · exact h

set_option maxRecDepth 100000 in
set_option maxHeartbeats 2000000 in
theorem boundary_any (s : ByteArray) (k0 : Nat) (w : World) (hs : s.size ≤ 1000000) (hk0 : k0 ≤ s.size) :
    Calls Try.prog 62 #[.string s, .int .i64 (k0 : Int)] w fun e w' => e = .returned (.int .i64 ((bdy (sb s) k0 : Nat) : Int)) ∧ w' = w := by
  obtain ⟨R, hR⟩ : ∃ R, bdy (sb s) k0 = R := ⟨_, rfl⟩
  rw [hR]
  have H0 : Hid (bdy (sb s) k0 = R) := hR
  clear hR
  go_enter Try.func62, Try.ntmps62
  go_wp2_with fail
  go_loopw [1] (fun q wr => ∃ (k : Nat), k ≤ s.size ∧ q = .int .i64 (k : Int) ∧ Hid (bdy (sb s) k = R) ∧ wr = w) (fun q _ => (intOf q).toNat)
  case atStart => exact ⟨k0, hk0, rfl, H0, rfl⟩
  case round =>
    obtain ⟨k, hk, rfl, HI, rfl⟩ := hrel
    have stop : bdy (sb s) k = k → Hid (k = R) := fun h => Lib.hid (by rw [← HI.out, h])
    by_cases h0 : k = 0
    · subst h0
      have HK := stop rfl
      clear stop
      go_wp2
      go_ret
      exact ⟨by rw [← HK.out]; rfl, rfl⟩
    · have f0 : (0 : Int) < (k : Int) := by omega
      obtain ⟨j, hj⟩ : ∃ j, k = j + 1 := ⟨k - 1, by omega⟩
      by_cases h1 : k < s.size
      · have f1 : (k : Int) < (s.size : Int) := by omega
        have hab : ab (sb s) k = (((s[k]'h1).toNat : Nat) : Int) := by unfold ab; rw [sb_get s k h1]; rfl
        obtain ⟨c, hc⟩ : ∃ c : Nat, (s[k]'h1).toNat = c := ⟨_, rfl⟩
        rw [hc] at hab
        by_cases h2 : 128 ≤ c ∧ c < 192
        · have f2 : (128 : Int) ≤ (c : Int) := by omega
          have f3 : (c : Int) < 192 := by omega
          have HI2 : Hid (bdy (sb s) j = R) := Lib.hid (by
            have := HI.out
            subst hj
            simp only [bdy] at this
            rwa [if_pos ⟨by rw [sb_len]; exact h1, by rw [hab]; omega, by rw [hab]; omega⟩] at this)
          have hkj : (k : Int) - 1 = (j : Int) := by omega
          clear hj hab stop
          go_wp2
          go_roundw
          case rel => exact ⟨j, by omega, rfl, HI2, by trivial⟩
          case measure => simp [intOf]; omega
        · have HK := stop (by
            subst hj
            simp only [bdy]
            rw [if_neg (fun h => h2 (by rw [hab] at h; omega))])
          clear hj hab stop
          by_cases h3 : 128 ≤ c
          · have f2 : (128 : Int) ≤ (c : Int) := by omega
            have f3 : ¬ (c : Int) < 192 := by omega
            go_wp2
            go_ret
            exact ⟨by rw [← HK.out]; rfl, rfl⟩
          · have f2 : ¬ (128 : Int) ≤ (c : Int) := by omega
            go_wp2
            go_ret
            exact ⟨by rw [← HK.out]; rfl, rfl⟩
      · have f1 : ¬ (k : Int) < (s.size : Int) := by omega
        have HK := stop (by
          subst hj
          simp only [bdy]
          rw [if_neg (fun h => by have := h.1; rw [sb_len] at this; exact h1 this)])
        clear hj stop
        go_wp2
        go_ret
        exact ⟨by rw [← HK.out]; rfl, rfl⟩

end Go.Proofs.Ytfhpllcdlejfjaa

/- Tokens: the program's predicates on bytes, and how many bytes with one a text begins with. It has no conditions. -/
import Derived.Test.YtgfhhpodcnohpaaDoorLMa
namespace Go.Proofs.YtgfhhpodcnohpaaDoor
open Go.RowKit Go.Shelf
set_option linter.unusedVariables false

theorem sbAt (s : ByteArray) (i : Nat) (h : i < s.size) : (sb s)[i]? = some ((s[i]'h).toNat : Int) := by
  unfold sb
  rw [List.getElem?_map, show s.data.toList[i]? = some (s[i]'h) by rw [Array.getElem?_toList]; exact Array.getElem?_eq_getElem h]
  rfl
theorem isspace_any (c : Int) (w : World) : Calls Tryd.prog 120 #[.int .u8 c] w fun e w' => e = .returned (.bool (isSp c)) ∧ w' = w := by
  by_cases h1 : c = 9
  · subst h1
    go_enter Tryd.func120, Tryd.ntmps120
    go_wp2
    go_ret
    exact ⟨rfl, rfl⟩
  · by_cases h2 : c = 10
    · subst h2
      go_enter Tryd.func120, Tryd.ntmps120
      go_wp2
      go_ret
      exact ⟨rfl, rfl⟩
    · by_cases h3 : c = 13
      · subst h3
        go_enter Tryd.func120, Tryd.ntmps120
        go_wp2
        go_ret
        exact ⟨rfl, rfl⟩
      · by_cases h4 : c = 32
        · subst h4
          go_enter Tryd.func120, Tryd.ntmps120
          go_wp2
          go_ret
          exact ⟨rfl, rfl⟩
        · have g1 : (c == 9) = false := by simpa using h1
          have g2 : (c == 10) = false := by simpa using h2
          have g3 : (c == 13) = false := by simpa using h3
          have g4 : (c == 32) = false := by simpa using h4
          have e : isSp c = false := by simp [isSp, g1, g2, g3, g4]
          rw [e]
          clear e h1 h2 h3 h4
          go_enter Tryd.func120, Tryd.ntmps120
          go_wp2
          go_ret
          exact ⟨rfl, rfl⟩
theorem issmall_any (c : Int) (w : World) : Calls Tryd.prog 123 #[.int .u8 c] w fun e w' => e = .returned (.bool (isLo c)) ∧ w' = w := by
  by_cases h1 : (97 : Int) ≤ c
  · by_cases h2 : c ≤ 122
    · have e : isLo c = true := by simp [isLo, h1, h2]
      rw [e]
      clear e
      go_enter Tryd.func123, Tryd.ntmps123
      go_wp2
      go_ret
      exact ⟨rfl, rfl⟩
    · have e : isLo c = false := by simp [isLo, h1, h2]
      rw [e]
      clear e
      go_enter Tryd.func123, Tryd.ntmps123
      go_wp2
      go_ret
      exact ⟨rfl, rfl⟩
  · have e : isLo c = false := by simp [isLo, h1]
    rw [e]
    clear e
    go_enter Tryd.func123, Tryd.ntmps123
    go_wp2
    go_ret
    exact ⟨rfl, rfl⟩
theorem iscapital_any (c : Int) (w : World) : Calls Tryd.prog 125 #[.int .u8 c] w fun e w' => e = .returned (.bool (isUp c)) ∧ w' = w := by
  by_cases h1 : (65 : Int) ≤ c
  · by_cases h2 : c ≤ 90
    · have e : isUp c = true := by simp [isUp, h1, h2]
      rw [e]
      clear e
      go_enter Tryd.func125, Tryd.ntmps125
      go_wp2
      go_ret
      exact ⟨rfl, rfl⟩
    · have e : isUp c = false := by simp [isUp, h1, h2]
      rw [e]
      clear e
      go_enter Tryd.func125, Tryd.ntmps125
      go_wp2
      go_ret
      exact ⟨rfl, rfl⟩
  · have e : isUp c = false := by simp [isUp, h1]
    rw [e]
    clear e
    go_enter Tryd.func125, Tryd.ntmps125
    go_wp2
    go_ret
    exact ⟨rfl, rfl⟩
theorem isdigit_any (c : Int) (w : World) : Calls Tryd.prog 127 #[.int .u8 c] w fun e w' => e = .returned (.bool (isDi c)) ∧ w' = w := by
  by_cases h1 : (48 : Int) ≤ c
  · by_cases h2 : c ≤ 57
    · have e : isDi c = true := by simp [isDi, h1, h2]
      rw [e]
      clear e
      go_enter Tryd.func127, Tryd.ntmps127
      go_wp2
      go_ret
      exact ⟨rfl, rfl⟩
    · have e : isDi c = false := by simp [isDi, h1, h2]
      rw [e]
      clear e
      go_enter Tryd.func127, Tryd.ntmps127
      go_wp2
      go_ret
      exact ⟨rfl, rfl⟩
  · have e : isDi c = false := by simp [isDi, h1]
    rw [e]
    clear e
    go_enter Tryd.func127, Tryd.ntmps127
    go_wp2
    go_ret
    exact ⟨rfl, rfl⟩
theorem contlower_any (c : Int) (w : World) : Calls Tryd.prog 124 #[.int .u8 c] w fun e w' => e = .returned (.bool (coLo c)) ∧ w' = w := by
  have e1 : coLo c = (isLo c || isDi c || c == 95) := rfl
  rw [e1]
  clear e1
  obtain ⟨b1, hb1⟩ : ∃ b, isLo c = b := ⟨_, rfl⟩
  obtain ⟨b2, hb2⟩ : ∃ b, isDi c = b := ⟨_, rfl⟩
  obtain ⟨b3, hb3⟩ : ∃ b, (c == 95) = b := ⟨_, rfl⟩
  have k1 := fun w => issmall_any c w
  have k2 := fun w => isdigit_any c w
  rw [hb1] at k1
  rw [hb2] at k2
  rw [hb1, hb2, hb3]
  have K1 := Lib.hid k1
  have K2 := Lib.hid k2
  clear k1 k2 hb1 hb2
  cases b1 <;> cases b2 <;> cases b3 <;>
  · go_enter Tryd.func124, Tryd.ntmps124
    go_wp2_with (first
      | (go_at_call 123; refine (K1.out _).mono ?_; rintro e w' ⟨rfl, rfl⟩)
      | (go_at_call 127; refine (K2.out _).mono ?_; rintro e w' ⟨rfl, rfl⟩))
    go_ret
    exact ⟨rfl, rfl⟩
theorem contupper_any (c : Int) (w : World) : Calls Tryd.prog 126 #[.int .u8 c] w fun e w' => e = .returned (.bool (coUp c)) ∧ w' = w := by
  have e1 : coUp c = (isLo c || isUp c || isDi c) := rfl
  rw [e1]
  clear e1
  obtain ⟨b1, hb1⟩ : ∃ b, isLo c = b := ⟨_, rfl⟩
  obtain ⟨b2, hb2⟩ : ∃ b, isUp c = b := ⟨_, rfl⟩
  obtain ⟨b3, hb3⟩ : ∃ b, isDi c = b := ⟨_, rfl⟩
  have k1 := fun w => issmall_any c w
  have k2 := fun w => iscapital_any c w
  have k3 := fun w => isdigit_any c w
  rw [hb1] at k1
  rw [hb2] at k2
  rw [hb3] at k3
  rw [hb1, hb2, hb3]
  have K1 := Lib.hid k1
  have K2 := Lib.hid k2
  have K3 := Lib.hid k3
  clear k1 k2 k3 hb1 hb2 hb3
  cases b1 <;> cases b2 <;> cases b3 <;>
  · go_enter Tryd.func126, Tryd.ntmps126
    go_wp2_with (first
      | (go_at_call 123; refine (K1.out _).mono ?_; rintro e w' ⟨rfl, rfl⟩)
      | (go_at_call 125; refine (K2.out _).mono ?_; rintro e w' ⟨rfl, rfl⟩)
      | (go_at_call 127; refine (K3.out _).mono ?_; rintro e w' ⟨rfl, rfl⟩))
    go_ret
    exact ⟨rfl, rfl⟩

/-- A function of the program that tells a property of bytes, and does nothing else. -/
structure Tells (f : FuncId) (p : Int → Bool) : Prop where
  ent : ∀ args w, (callFunc f args).run Tryd.prog w = .ok (.enter f args) w
  ok : ∀ c w, Calls Tryd.prog f #[.int .u8 c] w fun e w' => e = .returned (.bool (p c)) ∧ w' = w
set_option maxRecDepth 100000 in
set_option maxHeartbeats 1000000 in
theorem count_any (f : FuncId) (p : Int → Bool) (F : Tells f p) (s : ByteArray) (hs : s.size ≤ 9223372036854775807) (w : World) :
    Calls Tryd.prog 121 #[.string s, .func (.func f) #[] #[]] w fun e w' => e = .returned (.int .i64 (run p (sb s) : Int)) ∧ w' = w := by
  have he := F.ent
  have K := Lib.hid F.ok
  have HR : Hid (∀ n : Nat, (∀ i, i < n → ∃ c, (sb s)[i]? = some c ∧ p c = true) → (n = s.size ∨ ∃ c, (sb s)[n]? = some c ∧ p c = false) → run p (sb s) = n) := Lib.hid fun n h1 h2 => run_is p (sb s) n h1 (by rw [sb_len]; exact h2)
  obtain ⟨R, hR⟩ : ∃ R, run p (sb s) = R := ⟨_, rfl⟩
  rw [hR] at HR ⊢
  clear F hR
  go_enter Tryd.func121, Tryd.ntmps121
  go_wp2
  go_loop [8] (fun vi => ∃ k : Nat, k ≤ s.size ∧ vi = .int .i64 (k : Int) ∧ Hid (∀ i, i < k → ∃ c, (sb s)[i]? = some c ∧ p c = true)) (fun vi => s.size - (RowKit.intOf vi).toNat)
  case atStart => exact ⟨0, Nat.zero_le _, rfl, Lib.hid fun i hi => absurd hi (by omega)⟩
  case round =>
    obtain ⟨k, hk, rfl, hh⟩ := hrel
    by_cases k0 : k = s.size
    · have g0 : ¬ (k : Int) < (s.size : Int) := by omega
      have e1 := HR.out k hh.out (.inl k0)
      have HE := Lib.hid e1
      clear e1
      subst k0
      go_wp2
      go_ret
      rw [HE.out]
      exact ⟨rfl, rfl⟩
    · have hlt : k < s.size := by omega
      have hltz : (k : Int) < (s.size : Int) := by omega
      obtain ⟨c, hc⟩ : ∃ c : Int, ((s[k]'hlt).toNat : Int) = c := ⟨_, rfl⟩
      have hget := sbAt s k hlt
      rw [hc] at hget
      by_cases hp : p c = true
      · have kc := fun w => K.out c w
        rw [hp] at kc
        have KC := Lib.hid kc
        have HN : Hid (∀ i, i < k + 1 → ∃ c, (sb s)[i]? = some c ∧ p c = true) := Lib.hid fun i hi => by
          by_cases e : i = k
          · subst e; exact ⟨c, hget, hp⟩
          · exact hh.out i (by omega)
        clear kc hp hget
        go_wp2_with (refine Calls.mono (KC.out _) ?_; rintro e w' ⟨rfl, rfl⟩)
        refine ⟨⟨k + 1, by omega, by congr 1, HN⟩, ?_⟩
        simp only [RowKit.intOf, Int.toNat_natCast]
        omega
      · have hp2 : p c = false := by simpa using hp
        have kc := fun w => K.out c w
        rw [hp2] at kc
        have KC := Lib.hid kc
        have e1 := HR.out k hh.out (.inr ⟨c, hget, hp2⟩)
        have HE := Lib.hid e1
        clear kc hp hget hp2 e1
        go_wp2_with (refine Calls.mono (KC.out _) ?_; rintro e w' ⟨rfl, rfl⟩)
        go_ret
        rw [HE.out]
        exact ⟨rfl, rfl⟩

theorem tells_sp : Tells 120 isSp := ⟨fun args w => enters_of Tryd.func120 (by kernel_rfl) rfl args w, isspace_any⟩
theorem tells_di : Tells 127 isDi := ⟨fun args w => enters_of Tryd.func127 (by kernel_rfl) rfl args w, isdigit_any⟩
theorem tells_cl : Tells 124 coLo := ⟨fun args w => enters_of Tryd.func124 (by kernel_rfl) rfl args w, contlower_any⟩
theorem tells_cu : Tells 126 coUp := ⟨fun args w => enters_of Tryd.func126 (by kernel_rfl) rfl args w, contupper_any⟩

end Go.Proofs.YtgfhhpodcnohpaaDoor

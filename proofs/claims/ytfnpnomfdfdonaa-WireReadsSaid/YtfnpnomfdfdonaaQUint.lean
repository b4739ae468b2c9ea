/- The contract of the reference's Uint. Conditions: at most 100000 bytes are left. -/
import Derived.Test.YtfnpnomfdfdonaaQRd
namespace Go.Proofs.Ytfnpnomfdfdonaa
open Go.RowKit Go.Shelf
set_option linter.unusedVariables false

theorem qstep_eq (k n U : Nat) (c : Int) (hk : k ≤ 9) (hU : 128 ^ k = U) (hn : n < U) (hc0 : 0 ≤ c) (hc1 : c ≤ 255) (h9 : k = 9 → c ≤ 1) : IntKind.u64.wrap ((n : Int) + IntKind.u64.wrap (c % 128 * (U : Int))) = ((n + (c.toNat % 128) * U : Nat) : Int) := by
  obtain ⟨m, rfl⟩ : ∃ m : Nat, c = (m : Int) := ⟨c.toNat, by omega⟩
  simp only [Int.toNat_natCast]
  have hsum : n + m % 128 * U < 18446744073709551616 := by
    subst hU
    rcases Nat.lt_or_ge k 9 with h | h
    · have hp : (128 : Nat) ^ k ≤ 128 ^ 8 := Nat.pow_le_pow_right (by decide) (by omega)
      have h8 : (128 : Nat) ^ 8 = 72057594037927936 := by decide
      have h1 : m % 128 * 128 ^ k ≤ 127 * 128 ^ k := Nat.mul_le_mul_right _ (by omega)
      omega
    · obtain rfl : k = 9 := by omega
      have := h9 rfl
      rw [pow9] at hn ⊢
      omega
  have e : (m : Int) % 128 * (U : Int) = ((m % 128 * U : Nat) : Int) := by push_cast; rfl
  rw [e, wrap_u64, wrap_u64]
  omega
theorem qunit_eq (k U : Nat) (hk : k < 9) (hU : 128 ^ k = U) : IntKind.u64.wrap ((U : Int) * 128) = ((128 ^ (k + 1) : Nat) : Int) := by
  subst hU
  have hp : (128 : Nat) ^ k ≤ 128 ^ 8 := Nat.pow_le_pow_right (by decide) (by omega)
  have h8 : (128 : Nat) ^ 8 = 72057594037927936 := by decide
  rw [wrap_u64, Nat.pow_succ]
  omega

set_option maxRecDepth 100000 in
set_option maxHeartbeats 2000000 in
theorem quint_any (base p : Nat) (st : Rs) (w : World) (h : Rq w base p st) :
    Calls Try.prog 49 #[.pointer (some ⟨p, 0, none⟩)] w (QPost base p (.int .u64 ((rdU st).1 : Int)) (rdU st).2 w) := by
  cases st with
  | bad x =>
    obtain ⟨hc1, hx⟩ := h.bad_err
    have HQ := Lib.hid h
    have hq : (x == 0) = false := by simp; omega
    clear h
    go_enter Try.func49, Try.ntmps49
    go_wp2
    go_loopw [3, 4, 5] (fun t q i wr => wr = w) (fun _ _ _ _ => 0)
    case atStart => rfl
    case round =>
      obtain rfl := hrel
      go_wp2
      go_ret
      exact ⟨rfl, HQ.out, Only.refl _ _⟩
  | ok zs =>
    rw [← contU_0]
    obtain ⟨R, hR⟩ : ∃ R, contU 0 0 (.ok zs) = R := ⟨_, rfl⟩
    rw [hR]
    obtain ⟨a, cap, hc0, hf0, hle, hmx, _, hat, hcut, _⟩ := h.cut
    obtain ⟨hc1, hf1, herr⟩ := h.ok_err
    obtain ⟨hbyt, hlen⟩ := h.byt
    obtain ⟨L, hL⟩ : ∃ L, zs.length = L := ⟨_, rfl⟩
    rw [hL] at hc0 hle hlen hat hcut
    have HL := Lib.hid hL; have HR0 := Lib.hid hR; have HAT := Lib.hid hat; have HCUT := Lib.hid hcut; have HERR := Lib.hid herr; have HBYT := Lib.hid hbyt; have HQ := Lib.hid h
    clear hL hR hat hcut herr hbyt h
    go_enter Try.func49, Try.ntmps49
    go_wp2
    go_loopw [3, 4, 5] (fun t q i wr => ∃ (k n : Nat), k ≤ 9 ∧ n < 128 ^ k ∧ t = .int .u64 (n : Int) ∧ q = .int .u64 ((128 ^ k : Nat) : Int) ∧ i = .int .i64 (k : Int) ∧ k ≤ L ∧ Hid (contU k n (.ok (zs.drop k)) = R) ∧ wr = w) (fun _ _ i _ => 9 - (intOf i).toNat)
    case atStart => exact ⟨0, 0, by omega, by decide, rfl, rfl, rfl, by omega, by rw [List.drop_zero]; exact HR0, rfl⟩
    case round =>
      obtain ⟨k, n, hk, hn, rfl, rfl, rfl, hkL, HC, rfl⟩ := hrel
      obtain ⟨U, hU⟩ : ∃ U, 128 ^ k = U := ⟨_, rfl⟩
      rw [hU] at hn ⊢
      have HU := Lib.hid hU
      clear hU
      by_cases hlt : k < L
      · obtain ⟨b, off, rfl, hb, hck⟩ := HAT.out k hlt
        have hdr : zs.drop k = (zs[k]?.getD 0) :: zs.drop (k + 1) := by
          rw [List.drop_eq_getElem_cons (by rw [HL.out]; exact hlt)]; simp [show k < zs.length by rw [HL.out]; exact hlt]
        have hbc : 0 ≤ zs[k]?.getD 0 ∧ zs[k]?.getD 0 ≤ 255 := by
          have : k < zs.length := by rw [HL.out]; exact hlt
          simp [this]; exact HBYT.out _ (List.getElem_mem _)
        have hres := HC.out
        rw [hdr] at hres
        generalize zs[k]?.getD 0 = c at hck hbc hres
        obtain ⟨hb0, hb1⟩ := hbc
        clear hdr
        by_cases hbad : (k = 9 ∧ 1 < c) ∨ (0 < k ∧ c = 0)
        · rw [contU_err hbad] at hres
          have HRES := Lib.hid hres
          have hways : ((k : Int) == 9) = true ∧ 1 < c ∨ ((k : Int) == 9) = true ∧ 0 < k ∧ c = 0 ∨ ((k : Int) == 9) = false ∧ 0 < k ∧ c = 0 := by
            simp; omega
          clear hbad hres
          rcases hways with ⟨h9, h1⟩ | ⟨h9, h1, rfl⟩ | ⟨h9, h1, rfl⟩
          all_goals
            go_wp2
            go_ret
            rw [← HRES.out]
            exact ⟨rfl, HERR.out 2 (.inl rfl)⟩
        · by_cases h128 : c < 128
          · rw [contU_end hbad h128] at hres
            have HRES := Lib.hid hres
            have hways : ((k : Int) == 9) = true ∧ 0 < k ∧ ¬ 1 < c ∧ (c == 0) = false ∨ ((k : Int) == 9) = false ∧ ¬ 0 < k ∨ ((k : Int) == 9) = false ∧ 0 < k ∧ (c == 0) = false := by
              simp; omega
            have hst := qstep_eq k n U c hk HU.out hn hb0 hb1 (fun h => by omega)
            rw [show c.toNat % 128 = c.toNat by omega, ← HU.out] at hst
            have HST := Lib.hid hst
            clear hbad hres hst
            by_cases hcap : cap = k + 1
            · subst hcap
              have hc := HCUT.out (k + 1) (by omega) (some ⟨b, off, none⟩) 0 (by omega) (.inr ⟨b, off, off, rfl, rfl, .inr (by omega)⟩)
              rw [show L - (k + 1) = 0 by omega] at hc
              have HC2 := Lib.hid hc
              clear hc
              rcases hways with ⟨h9, h1, h2, h3⟩ | ⟨h9, h1⟩ | ⟨h9, h1, h2⟩
              all_goals
                go_wp2
                go_ret
                rw [← HRES.out]
                refine ⟨ret_u64w ?_, HC2.out⟩
                rw [← HU.out]
                exact HST.out
            · have HC2 := Lib.hid (HCUT.out (k + 1) (by omega) (some ⟨b, off + (k + 1), none⟩) (cap - (k + 1)) rfl (.inr ⟨b, off, _, rfl, rfl, .inl rfl⟩))
              rcases hways with ⟨h9, h1, h2, h3⟩ | ⟨h9, h1⟩ | ⟨h9, h1, h2⟩
              all_goals
                go_wp2
                go_ret
                rw [← HRES.out]
                refine ⟨ret_u64w ?_, HC2.out⟩
                rw [← HU.out]
                exact HST.out
          · rw [contU_more hbad h128] at hres
            have HRES := Lib.hid hres
            have hways : ((k : Int) == 9) = false ∧ ¬ 0 < k ∨ ((k : Int) == 9) = false ∧ 0 < k ∧ (c == 0) = false := by
              simp; omega
            have h89 : ¬ k = 9 := fun e => hbad (.inl ⟨e, by omega⟩)
            have hst := qstep_eq k n U c hk HU.out hn hb0 hb1 (fun h => by omega)
            rw [show c.toNat % 128 = c.toNat - 128 by omega] at hst
            have hnn : n + (c.toNat - 128) * 128 ^ k < 128 ^ (k + 1) := by
              have h1 : (c.toNat - 128) * 128 ^ k ≤ 127 * 128 ^ k := Nat.mul_le_mul_right _ (by omega)
              have := HU.out
              rw [Nat.pow_succ]; omega
            have hun := qunit_eq k U (by omega) HU.out
            have HST := Lib.hid hst
            have HUN := Lib.hid hun
            have HNN := Lib.hid hnn
            clear hbad hres hst hun hnn
            rcases hways with ⟨h9, h1⟩ | ⟨h9, h1, h2⟩
            all_goals
              go_wp2
              go_roundw
              case rel => exact ⟨k + 1, _, by omega, HNN.out, by rw [HU.out]; exact congrArg (Value.int .u64) HST.out, congrArg (Value.int .u64) HUN.out, by go_num, by omega, HRES, trivial⟩
              case measure => simp [intOf]; omega
      · have hres := HC.out
        rw [List.drop_eq_nil_of_le (by rw [HL.out]; omega)] at hres
        have HRES := Lib.hid hres
        clear hres
        go_wp2
        go_ret
        rw [← HRES.out]
        exact ⟨rfl, HERR.out 3 (.inr rfl)⟩

end Go.Proofs.Ytfnpnomfdfdonaa

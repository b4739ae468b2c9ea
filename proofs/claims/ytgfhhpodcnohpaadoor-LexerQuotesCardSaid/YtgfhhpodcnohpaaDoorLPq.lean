/- Tokens: texts of whole characters, as the reference and the library see them; the reference's contents, Quote, Unquote, and the program's Unquote. Conditions: texts of at most 100000 bytes; the tables lie in memory. -/
import Derived.Test.YtgfhhpodcnohpaaDoorLPo
import Derived.Test.YtgfhhpodcnohpaaDoorLRf
import Derived.Test.YtgfhhpodcnohpaaDoorLRg
import Derived.Test.YtgfhhpodcnohpaaDoorLMc
import Derived.Test.YtgfhhpodcnohpaaDoorPChar
import Derived.Test.YtgfhhpodcnohpaaDoorPDec
import Derived.Lib.ValidLaws
namespace Go.Proofs.YtgfhhpodcnohpaaDoor
open Go.RowKit Go.Shelf
set_option linter.unusedVariables false

theorem decode_one (s : ByteArray) (h : (Utf8.decode s 0).2 = 1) : (Utf8.decode s 0).1 = 65533 ↔ 128 ≤ (s.get! 0).toNat := by
  have l0 := (s.get! (0 + 0)).toNat_lt
  have e : Utf8.runeError = 65533 := rfl
  revert h
  simp only [Utf8.decode]
  split
  · rename_i c; intro _
    have c' : (s.get! 0).toNat < 128 := c
    simp only
    constructor
    · intro h; have : (s.get! 0).toNat = 65533 := h; omega
    · intro h; omega
  · rename_i c
    have c' : ¬ (s.get! 0).toNat < 128 := c
    have hT : 128 ≤ (s.get! 0).toNat := by omega
    split
    · split
      · intro h; simp at h
      · intro _; simp only [e, true_iff]; exact hT
    · split
      · split
        · intro h; simp at h
        · intro _; simp only [e, true_iff]; exact hT
      · split
        · split
          · intro h; simp at h
          · intro _; simp only [e, true_iff]; exact hT
        · intro _; simp only [e, true_iff]; exact hT

/-- A text of whole characters. -/
def prp (Z : List Int) : Bool := if h : Z = [] then true else if (chr Z).1 = 1 ∧ 128 ≤ ab Z 0 then false else prp (Z.drop (chr Z).1)
  termination_by Z.length
  decreasing_by have := (chr_pos Z).1; have := List.length_pos_iff.2 h; rw [List.length_drop]; omega
theorem prp_nil : prp [] = true := by rw [prp, dif_pos rfl]
theorem prp_cons {Z : List Int} (h : Z ≠ []) : prp Z = if (chr Z).1 = 1 ∧ 128 ≤ ab Z 0 then false else prp (Z.drop (chr Z).1) := by rw [prp, dif_neg h]
theorem prp_valid : ∀ (N : Nat) (l : List UInt8), l.length ≤ N → prp (l.map fun c => (c.toNat : Int)) = Lib.validD l := by
  intro N
  induction N with
  | zero =>
    intro l h
    have : l = [] := List.eq_nil_of_length_eq_zero (by omega)
    subst this
    exact prp_nil
  | succ N ih =>
    intro l h
    by_cases h0 : l = []
    · subst h0; exact prp_nil
    · obtain ⟨s, hs⟩ : ∃ s : ByteArray, (⟨l.toArray⟩ : ByteArray) = s := ⟨_, rfl⟩
      have hsb : sb s = l.map fun c => (c.toNat : Int) := by rw [← hs]; unfold sb; simp
      have hsz : s.size = l.length := by rw [← hs]; show l.toArray.size = _; simp
      have hlp := List.length_pos_iff.2 h0
      have hd : Lib.decodeL l = Utf8.decode s 0 := by rw [← hs]; rfl
      obtain ⟨d1, _, _, _⟩ := decode_chr s 0 (by omega)
      rw [List.drop_zero] at d1
      have hne : (l.map fun c => (c.toNat : Int)) ≠ [] := by simpa using h0
      rw [prp_cons hne, Lib.validD_step l h0, hd, d1, hsb]
      have hp := chr_pos (l.map fun c => (c.toNat : Int))
      have hb := sb_at s 0 (by omega)
      rw [hsb] at hb
      have hcond : ((chr (l.map fun c => (c.toNat : Int))).1 = 1 ∧ 128 ≤ ab (l.map fun c => (c.toNat : Int)) 0) ↔ ((Utf8.decode s 0).1 = 65533 ∧ (chr (l.map fun c => (c.toNat : Int))).1 = 1) := by
        rw [hb]
        constructor
        · rintro ⟨h1, h2⟩
          exact ⟨(decode_one s (by rw [d1, hsb]; exact h1)).2 (by omega), h1⟩
        · rintro ⟨h1, h2⟩
          have := (decode_one s (by rw [d1, hsb]; exact h2)).1 h1
          exact ⟨h2, by omega⟩
      have i1 := ih (l.drop (chr (l.map fun c => (c.toNat : Int))).1) (by rw [List.length_drop]; omega)
      rw [List.map_drop] at i1
      exact if_alike hcond i1
theorem prp_vU (s : ByteArray) : prp (sb s) = vU s := prp_valid _ s.data.toList (Nat.le_refl _)

set_option maxRecDepth 100000 in
set_option maxHeartbeats 2000000 in
theorem rproper_any (s : ByteArray) (hs : s.size ≤ 100000) (w : World) :
    Calls Tryd.prog 83 #[.string s] w fun e w' => e = .returned (.bool (vU s)) ∧ w' = w := by
  rw [← prp_vU]
  obtain ⟨R, hR⟩ : ∃ R, prp (sb s) = R := ⟨_, rfl⟩
  rw [hR]
  have HR : Hid (prp ((sb s).drop 0) = R) := Lib.hid (by rw [List.drop_zero]; exact hR)
  clear hR
  go_enter Tryd.func83, Tryd.ntmps83
  go_wp2
  go_loop [3] (fun v3 => ∃ k : Nat, k ≤ s.size ∧ v3 = .int .i64 (k : Int) ∧ Hid (prp ((sb s).drop k) = R)) (fun v3 => s.size - (RowKit.intOf v3).toNat)
  case atStart => exact ⟨0, Nat.zero_le _, rfl, HR⟩
  case round =>
    obtain ⟨k, hk, rfl, HP⟩ := hrel
    by_cases hlt : k < s.size
    · have hltz : (k : Int) < (s.size : Int) := by omega
      have hne : (sb s).drop k ≠ [] := fun e => by
        have := congrArg List.length e
        rw [List.length_drop, sb_len, List.length_nil] at this
        omega
      have hpc := prp_cons hne
      have hab : ab ((sb s).drop k) 0 = ((s[k]'hlt).toNat : Int) := by
        rw [← sb_get s k hlt]
        unfold ab
        rw [List.getElem?_drop]
        rfl
      have hp := chr_pos ((sb s).drop k)
      have hle := chr_le hne
      rw [List.length_drop, sb_len] at hle
      obtain ⟨⟨n, u⟩, hnu⟩ : ∃ x, chr ((sb s).drop k) = x := ⟨_, rfl⟩
      have C0 := Lib.hid (fun W => char_any s k W hs hlt n u hnu)
      rw [hnu, HP.out, hab] at hpc
      rw [hnu] at hp hle
      simp only at hpc hp hle
      obtain ⟨c, hc⟩ : ∃ c : Int, ((s[k]'hlt).toNat : Int) = c := ⟨_, rfl⟩
      rw [hc] at hpc
      rw [List.drop_drop] at hpc
      clear hne hnu hab HR
      by_cases h1 : n = 1
      · subst h1
        by_cases h2 : 128 ≤ c
        · rw [if_pos ⟨rfl, h2⟩] at hpc
          have HF := Lib.hid hpc
          clear hpc
          go_wp2_with fail
          refine (C0.out _).mono ?_
          rintro e w1 ⟨rfl, rfl⟩
          go_wp2
          go_ret
          exact ⟨by rw [HF.out]; rfl, rfl⟩
        · rw [if_neg (fun h => h2 h.2)] at hpc
          have HP2 : Hid (prp ((sb s).drop (k + 1)) = R) := Lib.hid hpc.symm
          clear hpc
          go_wp2_with fail
          refine (C0.out _).mono ?_
          rintro e w1 ⟨rfl, rfl⟩
          go_wp2
          refine ⟨⟨k + 1, by omega, by go_num, HP2⟩, ?_⟩
          simp only [RowKit.intOf, Int.toNat_natCast]
          omega
      · rw [if_neg (fun h => h1 h.1)] at hpc
        have HP2 : Hid (prp ((sb s).drop (k + n)) = R) := Lib.hid hpc.symm
        have hn1 : ((n : Int) == 1) = false := by rw [beq_eq_false_iff_ne]; omega
        have hnz : ¬ (n : Int) = 1 := by omega
        clear hpc h1
        go_wp2_with fail
        refine (C0.out _).mono ?_
        rintro e w1 ⟨rfl, rfl⟩
        go_wp2
        refine ⟨⟨k + n, by omega, by go_num, HP2⟩, ?_⟩
        simp only [RowKit.intOf, Int.toNat_natCast]
        omega
    · obtain rfl : k = s.size := by omega
      have hltz : ¬ (s.size : Int) < (s.size : Int) := by omega
      have h1 := HP.out
      rw [List.drop_eq_nil_of_le (by rw [sb_len]; exact Nat.le_refl _), prp_nil] at h1
      have HF := Lib.hid h1
      clear h1
      go_wp2
      go_ret
      exact ⟨by rw [← HF.out]; rfl, rfl⟩

end Go.Proofs.YtgfhhpodcnohpaaDoor

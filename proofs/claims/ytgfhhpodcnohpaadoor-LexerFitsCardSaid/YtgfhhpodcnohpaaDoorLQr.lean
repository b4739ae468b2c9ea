/- LQr, with the texts that only it needs in front of it: LPq. It has no conditions. -/
import Derived.Test.YtgfhhpodcnohpaaDoorLPo
import Derived.Test.YtgfhhpodcnohpaaDoorLRf
import Derived.Test.YtgfhhpodcnohpaaDoorLRg
import Derived.Test.YtgfhhpodcnohpaaDoorLMc
import Derived.Test.YtgfhhpodcnohpaaDoorPChar
import Derived.Test.YtgfhhpodcnohpaaDoorPDec
import Derived.Lib.ValidLaws

/- Tokens: texts of whole characters, as the reference and the library see them; the reference's contents, Quote, Unquote, and the program's Unquote. Conditions: texts of at most 100000 bytes; the tables lie in memory. -/
namespace Go.Proofs.YtgfhhpodcnohpaaDoor
open Go.RowKit Go.Shelf
set_option linter.unusedVariables false

theorem decode_one (s : ByteArray) (h : (Utf8.decode s 0).2 = 1) : (Utf8.decode s 0).1 = 65533 ↔ 128 ≤ (s.get! 0).toNat := by
  have l0 := (s.get! (0 + 0)).toNat_lt
  have e : Utf8.runeError = 65533 := rfl
  revert h
  simp only [Utf8.decode]
  split
  · rename_i c; intro _
    have c' : (s.get! 0).toNat < 128 := c
    simp only
    constructor
    · intro h; have : (s.get! 0).toNat = 65533 := h; omega
    · intro h; omega
  · rename_i c
    have c' : ¬ (s.get! 0).toNat < 128 := c
    have hT : 128 ≤ (s.get! 0).toNat := by omega
    split
    · split
      · intro h; simp at h
      · intro _; simp only [e, true_iff]; exact hT
    · split
      · split
        · intro h; simp at h
        · intro _; simp only [e, true_iff]; exact hT
      · split
        · split
          · intro h; simp at h
          · intro _; simp only [e, true_iff]; exact hT
        · intro _; simp only [e, true_iff]; exact hT

/-- A text of whole characters. -/
def prp (Z : List Int) : Bool := if h : Z = [] then true else if (chr Z).1 = 1 ∧ 128 ≤ ab Z 0 then false else prp (Z.drop (chr Z).1)
  termination_by Z.length
  decreasing_by have := (chr_pos Z).1; have := List.length_pos_iff.2 h; rw [List.length_drop]; omega
theorem prp_nil : prp [] = true := by rw [prp, dif_pos rfl]
theorem prp_cons {Z : List Int} (h : Z ≠ []) : prp Z = if (chr Z).1 = 1 ∧ 128 ≤ ab Z 0 then false else prp (Z.drop (chr Z).1) := by rw [prp, dif_neg h]
theorem prp_valid : ∀ (N : Nat) (l : List UInt8), l.length ≤ N → prp (l.map fun c => (c.toNat : Int)) = Lib.validD l := by
  intro N
  induction N with
  | zero =>
    intro l h
    have : l = [] := List.eq_nil_of_length_eq_zero (by omega)
    subst this
    exact prp_nil
  | succ N ih =>
    intro l h
    by_cases h0 : l = []
    · subst h0; exact prp_nil
    · obtain ⟨s, hs⟩ : ∃ s : ByteArray, (⟨l.toArray⟩ : ByteArray) = s := ⟨_, rfl⟩
      have hsb : sb s = l.map fun c => (c.toNat : Int) := by rw [← hs]; unfold sb; simp
      have hsz : s.size = l.length := by rw [← hs]; show l.toArray.size = _; simp
      have hlp := List.length_pos_iff.2 h0
      have hd : Lib.decodeL l = Utf8.decode s 0 := by rw [← hs]; rfl
      obtain ⟨d1, _, _, _⟩ := decode_chr s 0 (by omega)
      rw [List.drop_zero] at d1
      have hne : (l.map fun c => (c.toNat : Int)) ≠ [] := by simpa using h0
      rw [prp_cons hne, Lib.validD_step l h0, hd, d1, hsb]
      have hp := chr_pos (l.map fun c => (c.toNat : Int))
      have hb := sb_at s 0 (by omega)
      rw [hsb] at hb
      have hcond : ((chr (l.map fun c => (c.toNat : Int))).1 = 1 ∧ 128 ≤ ab (l.map fun c => (c.toNat : Int)) 0) ↔ ((Utf8.decode s 0).1 = 65533 ∧ (chr (l.map fun c => (c.toNat : Int))).1 = 1) := by
        rw [hb]
        constructor
        · rintro ⟨h1, h2⟩
          exact ⟨(decode_one s (by rw [d1, hsb]; exact h1)).2 (by omega), h1⟩
        · rintro ⟨h1, h2⟩
          have := (decode_one s (by rw [d1, hsb]; exact h2)).1 h1
          exact ⟨h2, by omega⟩
      have i1 := ih (l.drop (chr (l.map fun c => (c.toNat : Int))).1) (by rw [List.length_drop]; omega)
      rw [List.map_drop] at i1
      exact if_alike hcond i1
theorem prp_vU (s : ByteArray) : prp (sb s) = vU s := prp_valid _ s.data.toList (Nat.le_refl _)

set_option maxRecDepth 100000 in
set_option maxHeartbeats 2000000 in
theorem rproper_any (s : ByteArray) (hs : s.size ≤ 100000) (w : World) :
    Calls Tryd.prog 83 #[.string s] w fun e w' => e = .returned (.bool (vU s)) ∧ w' = w := by
  rw [← prp_vU]
  obtain ⟨R, hR⟩ : ∃ R, prp (sb s) = R := ⟨_, rfl⟩
  rw [hR]
  have HR : Hid (prp ((sb s).drop 0) = R) := Lib.hid (by rw [List.drop_zero]; exact hR)
  clear hR
  go_enter Tryd.func83, Tryd.ntmps83
  go_wp2
  go_loop [3] (fun v3 => ∃ k : Nat, k ≤ s.size ∧ v3 = .int .i64 (k : Int) ∧ Hid (prp ((sb s).drop k) = R)) (fun v3 => s.size - (RowKit.intOf v3).toNat)
  case atStart => exact ⟨0, Nat.zero_le _, rfl, HR⟩
  case round =>
    obtain ⟨k, hk, rfl, HP⟩ := hrel
    by_cases hlt : k < s.size
    · have hltz : (k : Int) < (s.size : Int) := by omega
      have hne : (sb s).drop k ≠ [] := fun e => by
        have := congrArg List.length e
        rw [List.length_drop, sb_len, List.length_nil] at this
        omega
      have hpc := prp_cons hne
      have hab : ab ((sb s).drop k) 0 = ((s[k]'hlt).toNat : Int) := by
        rw [← sb_get s k hlt]
        unfold ab
        rw [List.getElem?_drop]
        rfl
      have hp := chr_pos ((sb s).drop k)
      have hle := chr_le hne
      rw [List.length_drop, sb_len] at hle
      obtain ⟨⟨n, u⟩, hnu⟩ : ∃ x, chr ((sb s).drop k) = x := ⟨_, rfl⟩
      have C0 := Lib.hid (fun W => char_any s k W hs hlt n u hnu)
      rw [hnu, HP.out, hab] at hpc
      rw [hnu] at hp hle
      simp only at hpc hp hle
      obtain ⟨c, hc⟩ : ∃ c : Int, ((s[k]'hlt).toNat : Int) = c := ⟨_, rfl⟩
      rw [hc] at hpc
      rw [List.drop_drop] at hpc
      clear hne hnu hab HR
      by_cases h1 : n = 1
      · subst h1
        by_cases h2 : 128 ≤ c
        · rw [if_pos ⟨rfl, h2⟩] at hpc
          have HF := Lib.hid hpc
          clear hpc
          go_wp2_with fail
          refine (C0.out _).mono ?_
          rintro e w1 ⟨rfl, rfl⟩
          go_wp2
          go_ret
          exact ⟨by rw [HF.out]; rfl, rfl⟩
        · rw [if_neg (fun h => h2 h.2)] at hpc
          have HP2 : Hid (prp ((sb s).drop (k + 1)) = R) := Lib.hid hpc.symm
          clear hpc
          go_wp2_with fail
          refine (C0.out _).mono ?_
          rintro e w1 ⟨rfl, rfl⟩
          go_wp2
          refine ⟨⟨k + 1, by omega, by go_num, HP2⟩, ?_⟩
          simp only [RowKit.intOf, Int.toNat_natCast]
          omega
      · rw [if_neg (fun h => h1 h.1)] at hpc
        have HP2 : Hid (prp ((sb s).drop (k + n)) = R) := Lib.hid hpc.symm
        have hn1 : ((n : Int) == 1) = false := by rw [beq_eq_false_iff_ne]; omega
        have hnz : ¬ (n : Int) = 1 := by omega
        clear hpc h1
        go_wp2_with fail
        refine (C0.out _).mono ?_
        rintro e w1 ⟨rfl, rfl⟩
        go_wp2
        refine ⟨⟨k + n, by omega, by go_num, HP2⟩, ?_⟩
        simp only [RowKit.intOf, Int.toNat_natCast]
        omega
    · obtain rfl : k = s.size := by omega
      have hltz : ¬ (s.size : Int) < (s.size : Int) := by omega
      have h1 := HP.out
      rw [List.drop_eq_nil_of_le (by rw [sb_len]; exact Nat.le_refl _), prp_nil] at h1
      have HF := Lib.hid h1
      clear h1
      go_wp2
      go_ret
      exact ⟨by rw [← HF.out]; rfl, rfl⟩

end Go.Proofs.YtgfhhpodcnohpaaDoor

/- Tokens: the reference's contents, Quote and Unquote; the program's Unquote. Conditions: texts of at most 100000 bytes; the tables lie in memory. -/
namespace Go.Proofs.YtgfhhpodcnohpaaDoor
open Go.RowKit Go.Shelf
set_option linter.unusedVariables false

set_option maxRecDepth 100000 in
set_option maxHeartbeats 2000000 in
theorem rcontents_any (s : ByteArray) (hs : s.size ≤ 100000) (w : World) :
    Calls Tryd.prog 51 #[.string s] w fun e w' => e = .returned (.int .i64 (posV s)) ∧ w' = w := by
  have c0 := rproper_any s hs w
  have hq1 : ∀ k c, (∀ i, i < k → ∃ c, (sb s)[i]? = some c ∧ noQt c = true) → (sb s)[k]? = some c → noQt c = false → qn s = true := fun k c h1 h2 h3 => by
    have h4 := (List.getElem?_eq_some_iff.1 h2).1
    rw [sb_len] at h4
    unfold qn
    rw [run_is noQt (sb s) k h1 (.inr ⟨c, h2, h3⟩)]
    exact decide_eq_true h4
  have hq0 : (∀ i, i < s.size → ∃ c, (sb s)[i]? = some c ∧ noQt c = true) → qn s = false := fun h1 => by
    unfold qn
    rw [run_is noQt (sb s) s.size h1 (.inl (sb_len s).symm)]
    exact decide_eq_false (by omega)
  have hp : posV s = if qn s = true ∨ vU s = false then 1 else if 64 < s.size then 4 else 0 := rfl
  obtain ⟨R, hR⟩ : ∃ R, posV s = R := ⟨_, rfl⟩
  obtain ⟨v, hv⟩ : ∃ v, vU s = v := ⟨_, rfl⟩
  rw [hv] at c0 hp
  rw [hR] at hp ⊢
  have C0 := Lib.hid c0
  have HQ1 := Lib.hid hq1
  have HQ0 := Lib.hid hq0
  have HP := Lib.hid hp
  clear c0 hq1 hq0 hp hR hv
  cases v
  · have HR : Hid (R = 1) := Lib.hid (by rw [HP.out, if_pos (.inr rfl)])
    go_enter Tryd.func51, Tryd.ntmps51
    go_wp2_with fail
    refine C0.out.mono ?_
    rintro e w1 ⟨rfl, rfl⟩
    go_wp2
    go_ret
    exact ⟨by rw [HR.out]; rfl, rfl⟩
  · go_enter Tryd.func51, Tryd.ntmps51
    go_wp2_with fail
    refine C0.out.mono ?_
    rintro e w1 ⟨rfl, rfl⟩
    go_wp2
    go_loop [4] (fun vi => ∃ k : Nat, k ≤ s.size ∧ vi = .int .i64 (k : Int) ∧ Hid (∀ i, i < k → ∃ c, (sb s)[i]? = some c ∧ noQt c = true)) (fun vi => s.size - (RowKit.intOf vi).toNat)
    case atStart => exact ⟨0, Nat.zero_le _, rfl, Lib.hid fun i h => absurd h (by omega)⟩
    case round =>
      obtain ⟨k, hk, rfl, hh⟩ := hrel
      by_cases k0 : k = s.size
      · have hq := HQ0.out (by rw [← k0]; exact hh.out)
        have hp := HP.out
        rw [hq, if_neg (by simp)] at hp
        have g0 : ¬ (k : Int) < (s.size : Int) := by omega
        by_cases h64 : 64 < s.size
        · rw [if_pos h64] at hp
          have HF := Lib.hid hp
          have g1 : (64 : Int) < (s.size : Int) := by omega
          clear k0 hp hq
          go_wp2
          go_ret
          exact ⟨by rw [HF.out]; rfl, rfl⟩
        · rw [if_neg h64] at hp
          have HF := Lib.hid hp
          have g1 : ¬ (64 : Int) < (s.size : Int) := by omega
          clear k0 hp hq
          go_wp2
          go_ret
          exact ⟨by rw [HF.out]; rfl, rfl⟩
      · have hlt : k < s.size := by omega
        have hltz : (k : Int) < (s.size : Int) := by omega
        obtain ⟨c, hc⟩ : ∃ c : Int, ((s[k]'hlt).toNat : Int) = c := ⟨_, rfl⟩
        have hget := sbAt s k hlt
        rw [hc] at hget
        by_cases h34 : c = 34
        · have hq := HQ1.out k c hh.out hget (by rw [h34]; decide)
          have hp := HP.out
          rw [if_pos (.inl hq)] at hp
          have HF := Lib.hid hp
          have hb : (c == 34) = true := by simp [h34]
          clear h34 hget hq hp
          go_wp2
          go_ret
          exact ⟨by rw [HF.out]; rfl, rfl⟩
        · have hb : (c == 34) = false := by simp [h34]
          by_cases h10 : c = 10
          · have hq := HQ1.out k c hh.out hget (by rw [h10]; decide)
            have hp := HP.out
            rw [if_pos (.inl hq)] at hp
            have HF := Lib.hid hp
            have hb2 : (c == 10) = true := by simp [h10]
            clear h34 h10 hget hq hp
            go_wp2
            go_ret
            exact ⟨by rw [HF.out]; rfl, rfl⟩
          · have hb2 : (c == 10) = false := by simp [h10]
            have HN : Hid (∀ i, i < k + 1 → ∃ c, (sb s)[i]? = some c ∧ noQt c = true) := Lib.hid fun i h2 => by
              by_cases e : i = k
              · subst e; exact ⟨c, hget, by unfold noQt; simp [h34, h10]⟩
              · exact hh.out i (by omega)
            clear h34 h10 hget
            go_wp2
            refine ⟨⟨k + 1, by omega, by go_num, HN⟩, ?_⟩
            simp only [RowKit.intOf, Int.toNat_natCast]
            omega

set_option maxRecDepth 100000 in
theorem rquote_any (s : ByteArray) (hs : s.size ≤ 100000) (w : World) :
    Calls Tryd.prog 26 #[.string s] w fun e w' => e = .returned (.tuple #[.string (quoV s).1, .int .i64 (quoV s).2]) ∧ w' = w := by
  have c0 := rcontents_any s hs w
  unfold quoV
  obtain ⟨q, hq⟩ : ∃ q, posV s = q := ⟨_, rfl⟩
  rw [hq] at c0 ⊢
  have C0 := Lib.hid c0
  clear c0 hq
  by_cases h : q = 0
  · subst h
    rw [if_pos rfl]
    have hsz : (⟨#[34]⟩ : ByteArray).size + s.size ≤ 9223372036854775807 := by show 1 + s.size ≤ _; omega
    have hsz2 : ((⟨#[34]⟩ : ByteArray) ++ s).size + (⟨#[34]⟩ : ByteArray).size ≤ 9223372036854775807 := by rw [ByteArray.size_append]; show 1 + s.size + 1 ≤ _; omega
    go_enter Tryd.func26, Tryd.ntmps26
    go_wp2_with fail
    refine C0.out.mono ?_
    rintro e w1 ⟨rfl, rfl⟩
    go_wp2
    go_ret2
    exact ⟨rfl, rfl⟩
  · rw [if_neg h]
    have hqb : (q != 0) = true := by simpa using h
    go_enter Tryd.func26, Tryd.ntmps26
    go_wp2_with fail
    refine C0.out.mono ?_
    rintro e w1 ⟨rfl, rfl⟩
    go_wp2
    go_ret2
    exact ⟨rfl, rfl⟩

theorem five_two {l : List Int} (h0 : l ≠ []) (h : (fst_ l).1 = 5) : 2 ≤ (fst_ l).2 := by
  cases l with
  | nil => exact absurd rfl h0
  | cons c r =>
    unfold fst_ at h ⊢
    by_cases hp : 0 < (prop (c :: r)).2
    · rw [if_pos hp] at h ⊢
      rw [prop] at h hp ⊢
      repeat' split at h
      all_goals first | (simp at h; done) | skip
      rename_i h1 h2 h3 h4 h5 h6
      rw [if_neg h1, if_neg h2, if_neg h3, if_neg h4, if_neg h5, if_pos h6] at hp ⊢
      have := (stLen_pos hp).2
      simp only
      omega
    · rw [if_neg hp] at h; simp at h
/-- What Unquote hands back. -/
def unqV (s : ByteArray) : ByteArray × Int := if onlyV (sb s) = (5, true) then (if posV (s.extract 1 (s.size - 1)) = 0 then (s.extract 1 (s.size - 1), 0) else (⟨#[]⟩, posV (s.extract 1 (s.size - 1)))) else (⟨#[]⟩, 2)
theorem unq_size {s : ByteArray} (h : onlyV (sb s) = (5, true)) : 2 ≤ s.size := by
  unfold onlyV at h
  by_cases h0 : sb s = []
  · rw [if_pos h0] at h; simp at h
  · rw [if_neg h0] at h
    simp only [Prod.mk.injEq, decide_eq_true_eq] at h
    have := five_two h0 h.1
    rw [h.2, sb_len] at this
    exact this
set_option maxRecDepth 100000 in
theorem istoken_any (s : ByteArray) (k : Int) (hs : s.size ≤ 100000) (w : World) (hT : LexT w) :
    Calls Tryd.prog 46 #[.string s, .int .i64 k] w fun e w' => e = .returned (.bool (decide (onlyV (sb s) = (k, true)))) ∧ Below w.heap.size w w' := by
  have c0 := only_any s hs w hT
  obtain ⟨⟨kd, ok⟩, hkd⟩ : ∃ y, onlyV (sb s) = y := ⟨_, rfl⟩
  rw [hkd] at c0 ⊢
  have C0 := Lib.hid c0
  clear c0 hkd
  cases ok
  · have HF : Hid (decide (((kd, false) : Int × Bool) = (k, true)) = false) := Lib.hid (by simp)
    rw [HF.out]
    go_enter Tryd.func46, Tryd.ntmps46
    go_wp2_with fail
    refine C0.out.mono ?_
    rintro e w1 ⟨rfl, hb⟩
    have HB := Lib.hid hb
    clear hb
    go_wp2
    go_ret
    exact ⟨rfl, HB.out⟩
  · obtain ⟨r, hr⟩ : ∃ r, decide (((kd, true) : Int × Bool) = (k, true)) = r := ⟨_, rfl⟩
    have he : (kd == k) = r := by
      rw [← hr]
      by_cases e : kd = k
      · subst e; simp
      · have h1 : (kd == k) = false := beq_eq_false_iff_ne.2 e
        rw [h1]
        simp [e]
    rw [hr]
    have HE := Lib.hid he
    clear hr he
    go_enter Tryd.func46, Tryd.ntmps46
    go_wp2_with fail
    refine C0.out.mono ?_
    rintro e w1 ⟨rfl, hb⟩
    have HB := Lib.hid hb
    clear hb
    go_wp2
    go_ret
    exact ⟨by rw [← HE.out]; rfl, HB.out⟩
theorem pcontents_any (s : ByteArray) (hs : s.size ≤ 100000) (h2 : 2 ≤ s.size) (w : World) :
    Calls Tryd.prog 49 #[.string s] w fun e w' => e = .returned (.string (s.extract 1 (s.size - 1))) ∧ w' = w := by
  obtain ⟨n, hn⟩ : ∃ n, s.size - 1 = n := ⟨_, rfl⟩
  have e1 : (s.size : Int) - 1 = (n : Int) := by omega
  have e2 : (1 : Int) ≤ (n : Int) := by omega
  have e3 : (n : Int) ≤ (s.size : Int) := by omega
  rw [hn]
  clear hn
  go_enter Tryd.func49, Tryd.ntmps49
  go_wp2
  go_ret
  exact ⟨rfl, rfl⟩

set_option maxRecDepth 100000 in
theorem unquote_any (s : ByteArray) (hs : s.size ≤ 100000) (w : World) (hT : LexW w) :
    Calls Tryd.prog 27 #[.string s] w fun e w' => e = .returned (.tuple #[.string (unqV s).1, .int .i64 (unqV s).2]) ∧ Below w.heap.size w w' := by
  have c0 := istoken_any s 5 hs w hT.t
  unfold unqV
  by_cases h : onlyV (sb s) = (5, true)
  · rw [if_pos h]
    rw [decide_eq_true h] at c0
    have h2 := unq_size h
    have C1 := Lib.hid (fun W => pcontents_any s hs h2 W)
    obtain ⟨u, hu⟩ : ∃ u, s.extract 1 (s.size - 1) = u := ⟨_, rfl⟩
    have huz : u.size ≤ 100000 := by rw [← hu, ByteArray.size_extract]; omega
    rw [hu] at C1 ⊢
    have c2 := fun W h => possible_any u huz W h
    obtain ⟨q, hq⟩ : ∃ q, posV u = q := ⟨_, rfl⟩
    rw [hq] at c2 ⊢
    have C0 := Lib.hid c0
    have C2 := Lib.hid c2
    have HT := Lib.hid hT
    clear c0 c2 hT h hu hq
    by_cases hq0 : q = 0
    · subst hq0
      rw [if_pos rfl]
      go_enter Tryd.func27, Tryd.ntmps27
      go_wp2_with fail
      refine C0.out.mono ?_
      rintro e w1 ⟨rfl, hb⟩
      have HB := Lib.hid hb
      have HT1 := Lib.hid (HT.out.below hb)
      clear hb
      go_wp2_with fail
      refine (C1.out _).mono ?_
      rintro e w2 ⟨rfl, rfl⟩
      go_wp2_with fail
      refine (C2.out _ HT1.out).mono ?_
      rintro e w3 ⟨rfl, hb⟩
      have HB3 := Lib.hid (HB.out.trans (hb.mono HB.out.size))
      clear hb
      go_wp2
      go_ret2
      exact ⟨rfl, HB3.out⟩
    · rw [if_neg hq0]
      have hqb : (q != 0) = true := by simpa using hq0
      go_enter Tryd.func27, Tryd.ntmps27
      go_wp2_with fail
      refine C0.out.mono ?_
      rintro e w1 ⟨rfl, hb⟩
      have HB := Lib.hid hb
      have HT1 := Lib.hid (HT.out.below hb)
      clear hb
      go_wp2_with fail
      refine (C1.out _).mono ?_
      rintro e w2 ⟨rfl, rfl⟩
      go_wp2_with fail
      refine (C2.out _ HT1.out).mono ?_
      rintro e w3 ⟨rfl, hb⟩
      have HB3 := Lib.hid (HB.out.trans (hb.mono HB.out.size))
      clear hb
      go_wp2
      go_ret2
      exact ⟨rfl, HB3.out⟩
  · rw [if_neg h]
    rw [decide_eq_false h] at c0
    have C0 := Lib.hid c0
    clear c0 h
    go_enter Tryd.func27, Tryd.ntmps27
    go_wp2_with fail
    refine C0.out.mono ?_
    rintro e w1 ⟨rfl, hb⟩
    have HB := Lib.hid hb
    clear hb
    go_wp2
    go_ret2
    exact ⟨rfl, HB.out⟩

/-- The only token, as the list of the tokens shows it. -/
theorem only_lex (l : List Int) (k : Int) : (lex l 0).length = 1 ∧ (tg (lex l 0) 0).1 = k ↔ onlyV l = (k, true) := by
  unfold onlyV
  by_cases h0 : l = []
  · subst h0
    rw [lex_nil]
    simp
  · rw [if_neg h0, lex_step h0]
    have hp := fst_pos h0
    have e : (tg (((fst_ l).1, l.take (fst_ l).2, 0) :: lex (l.drop (fst_ l).2) (0 + (fst_ l).2)) 0).1 = (fst_ l).1 := rfl
    rw [e]
    by_cases h1 : (fst_ l).2 = l.length
    · rw [h1, List.drop_length, lex_nil]
      simp
    · have hne : l.drop (fst_ l).2 ≠ [] := fun e => by
        have := congrArg List.length e
        rw [List.length_drop, List.length_nil] at this
        omega
      rw [lex_step hne]
      simp [h1]
set_option maxRecDepth 100000 in
set_option maxHeartbeats 2000000 in
theorem runquote_any (s : ByteArray) (hs : s.size ≤ 100000) (w : World) :
    Calls Tryd.prog 28 #[.string s] w fun e w' => e = .returned (.tuple #[.string (unqV s).1, .int .i64 (unqV s).2]) ∧ Below w.heap.size w w' := by
  have c0 := rtoks_any s hs w
  have hol := only_lex (sb s) 5
  obtain ⟨L, hL⟩ : ∃ L, lex (sb s) 0 = L := ⟨_, rfl⟩
  rw [hL] at c0 hol
  unfold NewTs at c0
  unfold unqV
  have C0 := Lib.hid c0
  clear c0 hL
  by_cases h : onlyV (sb s) = (5, true)
  · rw [if_pos h]
    obtain ⟨hl1, hk5⟩ := hol.2 h
    have h2 := unq_size h
    obtain ⟨n, hn⟩ : ∃ n, s.size - 1 = n := ⟨_, rfl⟩
    have e1 : (s.size : Int) - 1 = (n : Int) := by omega
    have e2 : (1 : Int) ≤ (n : Int) := by omega
    have e3 : (n : Int) ≤ (s.size : Int) := by omega
    rw [hn]
    obtain ⟨u, hu⟩ : ∃ u, s.extract 1 n = u := ⟨_, rfl⟩
    have huz : u.size ≤ 100000 := by rw [← hu, ByteArray.size_extract]; omega
    have c2 := fun W => rcontents_any u huz W
    rw [hu]
    obtain ⟨q, hq⟩ : ∃ q, posV u = q := ⟨_, rfl⟩
    rw [hq] at c2 ⊢
    have C2 := Lib.hid c2
    clear c2 h hn hq hol
    by_cases hq0 : q = 0
    · subst hq0
      rw [if_pos rfl]
      go_enter Tryd.func28, Tryd.ntmps28
      go_wp2_with fail
      refine C0.out.mono ?_
      rintro e w1 ⟨u1, rfl, hown, hb⟩
      rw [hl1] at hown
      obtain ⟨a1, cp1, rfl, hcl⟩ := trow hown hl1
      obtain ⟨g1, rfl, hg1, hcell⟩ := hcl (by omega)
      have d0 := (hcell w1 rfl 0 (by omega)).1
      rw [hk5] at d0
      have d0' : w1.cell? ⟨g1, 0, none⟩ = some (.int .i64 5) := by simpa using d0
      have HB := Lib.hid hb
      clear hown hb hcl hcell d0
      go_wp2_with fail
      refine (C2.out _).mono ?_
      rintro e w2 ⟨rfl, rfl⟩
      go_wp2
      go_ret2
      exact ⟨rfl, HB.out⟩
    · rw [if_neg hq0]
      have hqb : (q != 0) = true := by simpa using hq0
      go_enter Tryd.func28, Tryd.ntmps28
      go_wp2_with fail
      refine C0.out.mono ?_
      rintro e w1 ⟨u1, rfl, hown, hb⟩
      rw [hl1] at hown
      obtain ⟨a1, cp1, rfl, hcl⟩ := trow hown hl1
      obtain ⟨g1, rfl, hg1, hcell⟩ := hcl (by omega)
      have d0 := (hcell w1 rfl 0 (by omega)).1
      rw [hk5] at d0
      have d0' : w1.cell? ⟨g1, 0, none⟩ = some (.int .i64 5) := by simpa using d0
      have HB := Lib.hid hb
      clear hown hb hcl hcell d0
      go_wp2_with fail
      refine (C2.out _).mono ?_
      rintro e w2 ⟨rfl, rfl⟩
      go_wp2
      go_ret2
      exact ⟨rfl, HB.out⟩
  · rw [if_neg h]
    obtain ⟨nl, hnl⟩ : ∃ n, L.length = n := ⟨_, rfl⟩
    by_cases h1 : nl = 1
    · have hk5 : ¬ (tg L 0).1 = 5 := fun e => h (hol.1 ⟨by omega, e⟩)
      obtain ⟨kd, hkd⟩ : ∃ k, (tg L 0).1 = k := ⟨_, rfl⟩
      rw [hkd] at hk5
      have hkb : (kd != 5) = true := by simpa using hk5
      have hl1 : L.length = 1 := by omega
      clear h hol hk5 hnl h1
      go_enter Tryd.func28, Tryd.ntmps28
      go_wp2_with fail
      refine C0.out.mono ?_
      rintro e w1 ⟨u1, rfl, hown, hb⟩
      rw [hl1] at hown
      obtain ⟨a1, cp1, rfl, hcl⟩ := trow hown hl1
      obtain ⟨g1, rfl, hg1, hcell⟩ := hcl (by omega)
      have d0 := (hcell w1 rfl 0 (by omega)).1
      rw [hkd] at d0
      have d0' : w1.cell? ⟨g1, 0, none⟩ = some (.int .i64 kd) := by simpa using d0
      have HB := Lib.hid hb
      clear hown hb hcl hcell d0
      go_wp2
      go_ret2
      exact ⟨rfl, HB.out⟩
    · have hb1 : ((nl : Int) != 1) = true := by rw [bne_iff_ne]; omega
      have HNL := Lib.hid hnl
      clear h hol hnl
      go_enter Tryd.func28, Tryd.ntmps28
      go_wp2_with fail
      refine C0.out.mono ?_
      rintro e w1 ⟨u1, rfl, hown, hb⟩
      rw [HNL.out] at hown
      obtain ⟨a1, cp1, rfl⟩ := own_slice hown
      have HB := Lib.hid hb
      clear hown hb
      go_wp2
      go_ret2
      exact ⟨rfl, HB.out⟩

/-- A literal's contents in quotes are read again. -/
theorem unq_quo {z : ByteArray} (h : posV z = 0) : unqV ((⟨#[34]⟩ : ByteArray) ++ z ++ ⟨#[34]⟩) = (z, 0) := by
  have hq : qn z = false := by
    unfold posV at h
    by_cases e : qn z = true ∨ vU z = false
    · rw [if_pos e] at h; simp at h
    · exact (Bool.not_eq_true _).mp fun h2 => e (.inl h2)
  unfold qn at hq
  have hq2 : run noQt (sb z) = z.size := by
    have h1 := of_decide_eq_false hq
    have h2 := run_le noQt (sb z)
    rw [sb_len] at h2
    omega
  have hsb : sb ((⟨#[34]⟩ : ByteArray) ++ z ++ ⟨#[34]⟩) = 34 :: (sb z ++ [34]) := by
    rw [sb_append, sb_append]
    rfl
  have hsz : ((⟨#[34]⟩ : ByteArray) ++ z ++ ⟨#[34]⟩).size = z.size + 2 := by
    rw [ByteArray.size_append, ByteArray.size_append]
    show 1 + z.size + 1 = _
    omega
  have hrun : run noQt (sb z ++ [34]) = z.size := by
    refine run_is noQt _ _ (fun i hi => ?_) (.inr ⟨34, ?_, by decide⟩)
    · obtain ⟨c, hc, hp⟩ := run_isin noQt (sb z) i (by omega)
      exact ⟨c, by rw [List.getElem?_append_left (by rw [sb_len]; exact hi)]; exact hc, hp⟩
    · rw [List.getElem?_append_right (by rw [sb_len]; exact Nat.le_refl _), sb_len, Nat.sub_self]
      rfl
  have hst : stLen (34 :: (sb z ++ [34])) = z.size + 2 := by
    have := stLen_of (l := 34 :: (sb z ++ [34])) (by
      rw [List.tail_cons, hrun, List.getElem?_append_right (by rw [sb_len]; exact Nat.le_refl _), sb_len, Nat.sub_self]
      rfl)
    rw [this, List.tail_cons, hrun]
  have hpr : prop (34 :: (sb z ++ [34])) = (5, z.size + 2) := by
    rw [prop, if_neg (by decide), if_neg (by decide), if_neg (by decide), if_neg (by decide), if_neg (by decide), if_pos rfl, hst]
  have hf : fst_ (34 :: (sb z ++ [34])) = (5, z.size + 2) := by
    unfold fst_
    rw [hpr, if_pos (by simp)]
  have hon : onlyV (sb ((⟨#[34]⟩ : ByteArray) ++ z ++ ⟨#[34]⟩)) = (5, true) := by
    rw [hsb]
    unfold onlyV
    rw [if_neg (by simp), hf]
    simp [sb_len]
  have hin : ((⟨#[34]⟩ : ByteArray) ++ z ++ ⟨#[34]⟩).extract 1 (((⟨#[34]⟩ : ByteArray) ++ z ++ ⟨#[34]⟩).size - 1) = z := by
    apply sbInj
    rw [sbExt, hsb, hsz, show z.size + 2 - 1 = z.size + 1 by omega, List.take_succ_cons, List.drop_succ_cons, List.drop_zero, List.take_append_of_le_length (by rw [sb_len]; exact Nat.le_refl _), ← sb_len, List.take_length]
  unfold unqV
  rw [if_pos hon, hin, if_pos h]

end Go.Proofs.YtgfhhpodcnohpaaDoor

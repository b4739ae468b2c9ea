/- Tokens: the library's IndexAny of a quote and a line feed, at any text. Conditions: texts of at most 100000 bytes. -/
import Derived.Test.YtgfhhpodcnohpaaDoorLIr
import Derived.Laws.RangeAny
import Derived.Test.YtgfhhpodcnohpaaDoorLSh
import Derived.Lib.OthersKept
namespace Go.Proofs.YtgfhhpodcnohpaaDoor
open Go.RowKit Go.Shelf Go.Lib
set_option linter.unusedVariables false

theorem get_at (s : ByteArray) (i : Nat) (h : i < s.size) : s.get! i = s[i]'h := by
  simp [ByteArray.get!, getElem!_pos, h]
  rfl
theorem dec_hi (s : ByteArray) (i : Nat) (hi : i < s.size) (h : 128 ≤ (s.get! i).toNat) :
    128 ≤ (Utf8.decode s i).1 ∧ Utf8.valid ((Utf8.decode s i).1 : Int) = true ∧ 1 ≤ (Utf8.decode s i).2 ∧ i + (Utf8.decode s i).2 ≤ s.size ∧ ∀ j, 1 ≤ j → j < (Utf8.decode s i).2 → 128 ≤ (s.get! (i + j)).toNat := by
  have l0 := (s.get! (i + 0)).toNat_lt
  have l1 := (s.get! (i + 1)).toNat_lt
  have l2 := (s.get! (i + 2)).toNat_lt
  have l3 := (s.get! (i + 3)).toNat_lt
  have h0 : 128 ≤ (s.get! (i + 0)).toNat := h
  have err : 128 ≤ Utf8.runeError ∧ Utf8.valid (Utf8.runeError : Int) = true := by decide
  have q : ∀ j, 1 ≤ j → j < 1 → 128 ≤ (s.get! (i + j)).toNat := fun j h1 h2 => by omega
  simp only [Utf8.decode]
  rw [if_neg (by omega)]
  split
  · rename_i c1
    simp only [Bool.and_eq_true, decide_eq_true_eq, beq_iff_eq] at c1
    split
    · refine ⟨by assumption, ?_, by simp, by omega, fun j j1 j2 => ?_⟩
      · rw [validRune_eq]; unfold validRune; rw [decide_eq_true_eq]; simp only; omega
      · simp only at j2
        have : j = 1 := by omega
        subst this; omega
    · exact ⟨err.1, err.2, by simp, by simp; omega, q⟩
  · split
    · rename_i c1
      simp only [Bool.and_eq_true, decide_eq_true_eq, beq_iff_eq] at c1
      split
      · rename_i c2
        simp only [Bool.and_eq_true, decide_eq_true_eq] at c2
        refine ⟨by simp only; omega, c2.2, by simp, by simp only; omega, fun j j1 j2 => ?_⟩
        simp only at j2
        have : j = 1 ∨ j = 2 := by omega
        rcases this with rfl | rfl <;> omega
      · exact ⟨err.1, err.2, by simp, by simp; omega, q⟩
    · split
      · rename_i c1
        simp only [Bool.and_eq_true, decide_eq_true_eq, beq_iff_eq] at c1
        split
        · rename_i c2
          simp only [Bool.and_eq_true, decide_eq_true_eq] at c2
          refine ⟨by simp only; omega, c2.2, by simp, by simp only; omega, fun j j1 j2 => ?_⟩
          simp only at j2
          have : j = 1 ∨ j = 2 ∨ j = 3 := by omega
          rcases this with rfl | rfl | rfl <;> omega
        · exact ⟨err.1, err.2, by simp, by simp; omega, q⟩
      · exact ⟨err.1, err.2, by simp, by simp; omega, q⟩

/-- Where the first quote or line feed is, as the library says it. -/
def iaV (s : ByteArray) : Int := if run noQt (sb s) < s.size then (run noQt (sb s) : Int) else -1
theorem noQt_iff (x : UInt8) : ([34, 10] : List UInt8).contains x = true ↔ noQt (x.toNat : Int) = false := by
  unfold noQt
  rw [List.contains_cons, List.contains_cons, List.contains_nil]
  have e1 : (x == 34) = true ↔ (x.toNat : Int) = 34 := by
    rw [beq_iff_eq]
    constructor
    · rintro rfl; rfl
    · intro h; exact UInt8.toNat_inj.1 (by have : (34 : UInt8).toNat = 34 := rfl
                                           omega)
  have e2 : (x == 10) = true ↔ (x.toNat : Int) = 10 := by
    rw [beq_iff_eq]
    constructor
    · rintro rfl; rfl
    · intro h; exact UInt8.toNat_inj.1 (by have : (10 : UInt8).toNat = 10 := rfl
                                           omega)
  rw [Bool.or_eq_true, Bool.or_eq_true, e1, e2]
  simp
  omega
theorem indexAny_ia (s : ByteArray) : Lib.indexAny s.data.toList [34, 10] = iaV s := by
  have hlen : s.data.toList.length = s.size := by simp
  have hno : Lib.NoAny s.data.toList [34, 10] (run noQt (sb s)) := by
    intro j y hj hy
    obtain ⟨d, h1, h2⟩ := run_isin noQt (sb s) j hj
    rw [sbData, hy] at h1
    cases h1
    cases hc : ([34, 10] : List UInt8).contains y with
    | false => rfl
    | true => rw [(noQt_iff y).1 hc] at h2; cases h2
  unfold iaV
  have hle := run_le noQt (sb s)
  rw [sb_len] at hle
  by_cases h : run noQt (sb s) < s.size
  · rw [if_pos h]
    have h1 : s.data.toList[run noQt (sb s)]? = some (s.data.toList[run noQt (sb s)]'(by omega)) := List.getElem?_eq_getElem _
    refine Lib.indexAny_hit hno h1 ?_
    apply (noQt_iff _).2
    apply run_out noQt (sb s)
    rw [sbData, h1]
    rfl
  · rw [if_neg h]
    refine Lib.indexAny_none ?_
    rw [hlen]
    rwa [show run noQt (sb s) = s.size by omega] at hno
theorem shouldset_any (n : Int) (w : World) : Calls Tryd.prog 135 #[.int .i64 n] w fun e w' => e = .returned (.bool (decide (8 < n))) ∧ w' = w := by
  go_enter Tryd.func135, Tryd.ntmps135
  go_wp2
  go_ret
  exact ⟨rfl, rfl⟩
theorem irune_any (r : Nat) (hv : Utf8.valid (r : Int) = true) (w : World) :
    Calls Tryd.prog 134 #[.string ⟨#[34, 10]⟩, .int .i32 (r : Int)] w fun e w' => ∃ z : Int, e = .returned (.int .i64 z) ∧ (0 ≤ z ↔ r = 34 ∨ r = 10) ∧ Below w.heap.size w w' := by
  by_cases h : r < 128
  · refine (irune_small (r : Int) (by omega) (by omega) w).mono ?_
    rintro e w' ⟨rfl, rfl⟩
    refine ⟨_, rfl, ?_, Below.refl _ _⟩
    split
    · omega
    · split <;> omega
  · by_cases h2 : (r : Int) = 65533
    · rw [h2]
      refine (irune_err w).mono ?_
      rintro e w' ⟨rfl, hb⟩
      exact ⟨_, rfl, by omega, hb⟩
    · refine (irune_big (r : Int) (by omega) hv h2 w).mono ?_
      rintro e w' ⟨rfl, hb⟩
      exact ⟨_, rfl, by omega, hb⟩

/-- The iterator of a range over s stands in block k at offset pos; what lay lies as it lay. -/
def LIt (s : ByteArray) (k pos : Nat) (w wr : World) : Prop := wr.heap[k]? = some (.stringIter s pos) ∧ Below k w wr
theorem LIt.next {s : ByteArray} {k pos pos' : Nat} {w wr : World} (h : LIt s k pos w wr) : LIt s k pos' w (wr.iterAt k s pos') := ⟨iterAt_heap wr k s pos pos' h.1, below_iterAt h.2 (Nat.le_refl _) _ _⟩
theorem LIt.on {s : ByteArray} {k pos : Nat} {w wr w' : World} (h : LIt s k pos w wr) (hb : Below wr.heap.size wr w') : LIt s k pos w w' := by
  have hk : k < wr.heap.size := (Array.getElem?_eq_some_iff.1 h.1).1
  exact ⟨(hb.block k hk).trans h.1, h.2.trans (hb.mono (by omega))⟩
theorem LIt.pos {s : ByteArray} {k pos : Nat} {w wr : World} (h : LIt s k pos w wr) : wr.iterPos k = pos := by unfold World.iterPos; rw [h.1]
/-- The next character of a text, for a search of a quote or a line feed. -/
theorem dec_q (s : ByteArray) (i : Nat) (hi : i < s.size) (hno : ∀ j, j < i → ∃ c, (sb s)[j]? = some c ∧ noQt c = true) :
    ∃ r b : Nat, Utf8.decode s i = (r, b) ∧ Utf8.valid (r : Int) = true ∧ 1 ≤ b ∧ i + b ≤ s.size ∧ ((r = 34 ∨ r = 10) → iaV s = (i : Int)) ∧ (¬ (r = 34 ∨ r = 10) → ∀ j, j < i + b → ∃ c, (sb s)[j]? = some c ∧ noQt c = true) := by
  have hat := sbAt s i hi
  by_cases h : (s[i]'hi).toNat < 128
  · refine ⟨(s[i]'hi).toNat, 1, decode_ascii s i hi h, ?_, Nat.le_refl _, by omega, fun hq => ?_, fun hq j hj => ?_⟩
    · rw [validRune_eq]; unfold validRune; rw [decide_eq_true_eq]; omega
    · have : run noQt (sb s) = i := run_is noQt (sb s) i hno (.inr ⟨_, hat, by unfold noQt; simp; omega⟩)
      unfold iaV
      rw [this, if_pos hi]
    · by_cases e : j = i
      · subst e
        exact ⟨_, hat, by unfold noQt; simp; omega⟩
      · exact hno j (by omega)
  · have hg : s.get! i = s[i]'hi := get_at s i hi
    obtain ⟨d1, d2, d3, d4, d5⟩ := dec_hi s i hi (by rw [hg]; omega)
    obtain ⟨⟨r, b⟩, hd⟩ : ∃ x, Utf8.decode s i = x := ⟨_, rfl⟩
    rw [hd] at d1 d2 d3 d4 d5
    simp only at d1 d2 d3 d4 d5
    refine ⟨r, b, hd, d2, d3, d4, fun hq => by omega, fun hq j hj => ?_⟩
    by_cases e : j < i
    · exact hno j e
    · have hjs : j < s.size := by omega
      refine ⟨_, sbAt s j hjs, ?_⟩
      by_cases e2 : j = i
      · subst e2
        unfold noQt; simp; omega
      · have h5 := d5 (j - i) (by omega) (by omega)
        rw [show i + (j - i) = j by omega, get_at s j hjs] at h5
        unfold noQt; simp; omega

set_option maxRecDepth 100000 in
set_option maxHeartbeats 2000000 in
theorem ia_short (s : ByteArray) (hs : s.size ≤ 8) (w : World) :
    Calls Tryd.prog 111 #[.string s, .string ⟨#[34, 10]⟩] w fun e w' => e = .returned (.int .i64 (iaV s)) ∧ Below w.heap.size w w' := by
  have h8z : decide ((8 : Int) < (s.size : Int)) = false := decide_eq_false (by omega)
  obtain ⟨K, hK⟩ : ∃ K, w.heap.size = K := ⟨_, rfl⟩
  have h0 : Hid (LIt s K 0 w (w.iter s 0)) := by rw [← hK]; exact ⟨World.iter_heap w s 0, (Below.refl _ _).alloc (Nat.le_refl _) _⟩
  obtain ⟨R, hR⟩ : ∃ R, iaV s = R := ⟨_, rfl⟩
  rw [hR]
  have HR := Lib.hid hR
  have HK := Lib.hid hK
  clear hR hK
  go_enter Tryd.func111, Tryd.ntmps111
  go_wp2_with (go_at_call 135; refine (shouldset_any _ _).mono ?_; rintro e w' ⟨rfl, hw⟩; rw [hw, h8z])
  rw [HK.out]
  go_loopw [9] (fun _ wr => ∃ i : Nat, i ≤ s.size ∧ Hid (LIt s K i w wr) ∧ Hid (∀ j, j < i → ∃ c, (sb s)[j]? = some c ∧ noQt c = true)) (fun _ wr => s.size - wr.iterPos K)
  case atStart => exact ⟨0, Nat.zero_le _, h0, Lib.hid fun j hj => absurd hj (by omega)⟩
  case round =>
    obtain ⟨i, hi, HI, HN⟩ := hrel
    have hpo := HI.out.pos
    by_cases hlt : i < s.size
    · have hnx := fun ty => run_next_any_at (P := Tryd.prog) wr K s i ty HI.out.1 hlt
      obtain ⟨r, b, hdd, hv, hb1, hb2, hq, hnq⟩ := dec_q s i hlt HN.out
      rw [hdd] at hnx
      simp only at hnx
      have CW := Lib.hid (fun W => irune_any r hv W)
      have HQ := Lib.hid hq
      have HNQ := Lib.hid hnq
      clear hdd hv hq hnq
      go_wp2_with fail
      refine (CW.out _).mono ?_
      rintro e w' ⟨z, rfl, hz, hb⟩
      have H2 := Lib.hid ((HI.out.next (pos' := i + b)).on hb)
      have hp2 := H2.out.pos
      have HZ := Lib.hid hz
      clear hb hz
      by_cases h0z : 0 ≤ z
      · have HE : Hid (R = (i : Int)) := Lib.hid (by rw [← HR.out]; exact HQ.out (HZ.out.1 h0z))
        go_wp2
        go_ret
        exact ⟨by rw [HE.out]; rfl, by rw [HK.out]; exact H2.out.2⟩
      · have HF := Lib.hid (HNQ.out (fun e => h0z (HZ.out.2 e)))
        go_wp2
        go_roundw
        case rel => exact ⟨i + b, by omega, H2, HF⟩
        case measure => rw [hp2, hpo]; omega
    · have hnx := fun ty => run_next_end_at (P := Tryd.prog) wr K s i ty HI.out.1 hlt
      have HE : Hid (R = -1) := Lib.hid (by
        rw [← HR.out]
        have : run noQt (sb s) = s.size := run_is noQt (sb s) s.size (fun j hj => HN.out j (by omega)) (.inl (sb_len s).symm)
        unfold iaV
        rw [this, if_neg (by omega)])
      go_wp2
      go_ret
      exact ⟨by rw [HE.out]; rfl, by rw [HK.out]; exact HI.out.2⟩

theorem info155 : (Tryd.prog.info? 155).map (fun i => (i.zero, i.size)) = some (some (.agg (Array.replicate 256 (.bool false))), 256) := by kernel_rfl
theorem ia_any (s : ByteArray) (hs : s.size ≤ 100000) (w : World) :
    Calls Tryd.prog 111 #[.string s, .string ⟨#[34, 10]⟩] w fun e w' => e = .returned (.int .i64 (iaV s)) ∧ Below w.heap.size w w' := by
  by_cases h : s.size ≤ 8
  · exact ia_short s h w
  · have hz := zero_of_info (P := Tryd.prog) info155
    have c := Any.strings_IndexAny_long Hs.iaA hz.1 hz.2 s ⟨#[34, 10]⟩ w (Nat.le_refl 2) (by omega) (by omega) (by decide) (fun j b hb => by
      have hb2 : ([34, 10] : List UInt8)[j]? = some b := hb
      have : b ∈ ([34, 10] : List UInt8) := List.mem_of_getElem? hb2
      simp only [List.mem_cons, List.not_mem_nil, or_false] at this
      rcases this with rfl | rfl <;> decide)
    refine Calls.mono c ?_
    rintro e w' ⟨rfl, rfl⟩
    refine ⟨?_, ((Below.refl _ _).alloc (Nat.le_refl _) _).alloc (by simp) _⟩
    rw [← indexAny_ia]

set_option maxRecDepth 100000 in
set_option maxHeartbeats 1000000 in
theorem strlen_any (s : ByteArray) (hs : s.size ≤ 100000) (h0 : 0 < s.size) (w : World) :
    Calls Tryd.prog 128 #[.string s] w fun e w' => e = .returned (.int .i64 (stLen (sb s) : Int)) ∧ Below w.heap.size w w' := by
  obtain ⟨t, ht⟩ : ∃ t, s.extract 1 s.size = t := ⟨_, rfl⟩
  have htz : t.size = s.size - 1 := by rw [← ht, ByteArray.size_extract]; omega
  have htl : sb t = (sb s).tail := by
    rw [← ht, sbExt, ← sb_len, List.take_length, List.drop_one]
  have c0 := fun W => ia_any t (by omega) W
  obtain ⟨R, hR⟩ : ∃ R : Nat, stLen (sb s) = R := ⟨_, rfl⟩
  rw [hR]
  have hun : stLen (sb s) = if (sb t)[run noQt (sb t)]? = some 34 then run noQt (sb t) + 2 else 0 := by unfold stLen; rw [htl]
  have hle := run_le noQt (sb t)
  rw [sb_len] at hle
  obtain ⟨n, hn⟩ : ∃ n, run noQt (sb t) = n := ⟨_, rfl⟩
  have hia : iaV t = if n < t.size then (n : Int) else -1 := by unfold iaV; rw [hn]
  rw [hn] at hun hle
  by_cases h1 : n < t.size
  · rw [if_pos h1] at hia
    rw [hia] at c0
    have CI := Lib.hid c0
    have h3 : 1 + n < s.size := by omega
    have hgt : (sb t)[n]? = some ((s[1 + n]'h3).toNat : Int) := by
      rw [htl, List.getElem?_tail, show n + 1 = 1 + n by omega]
      exact sbAt s (1 + n) h3
    have hout : noQt ((s[1 + n]'h3).toNat : Int) = false := by
      apply run_out noQt (sb t)
      rw [hn]
      exact hgt
    obtain ⟨x, hx⟩ : ∃ x : Nat, (s[1 + n]'h3).toNat = x := ⟨_, rfl⟩
    rw [hx] at hgt hout
    have h4 : ¬ (n : Int) < 0 := by omega
    have h5 : (1 : Int) + (n : Int) < (s.size : Int) := by omega
    have h6 : (0 : Int) ≤ 1 + (n : Int) := by omega
    have h7 : ((1 : Int) + (n : Int)).toNat = 1 + n := by omega
    by_cases hq : x = 34
    · have HE : Hid ((R : Int) = (n : Int) + 2) := Lib.hid (by
        rw [← hR, hun, hgt, hq, if_pos (by rfl)]
        omega)
      have hb : ((x : Int) == 10) = false := beq_eq_false_iff_ne.2 (by omega)
      clear hun hR hgt hout hia hn htl c0 hq
      go_enter Tryd.func128, Tryd.ntmps128
      go_wp2_with fail
      refine (CI.out _).mono ?_
      rintro e w' ⟨rfl, hb⟩
      have HB := Lib.hid hb
      clear hb
      go_wp2
      go_ret
      exact ⟨by rw [HE.out]; rfl, HB.out⟩
    · have h10 : x = 10 := by
        unfold noQt at hout
        simp at hout
        omega
      have HE : Hid ((R : Int) = 0) := Lib.hid (by
        rw [← hR, hun, hgt, if_neg (by rw [Option.some.injEq]; omega)]
        rfl)
      have hb : ((x : Int) == 10) = true := beq_iff_eq.2 (by omega)
      clear hun hR hgt hout hia hn htl c0 hq h10
      go_enter Tryd.func128, Tryd.ntmps128
      go_wp2_with fail
      refine (CI.out _).mono ?_
      rintro e w' ⟨rfl, hb⟩
      have HB := Lib.hid hb
      clear hb
      go_wp2
      go_ret
      exact ⟨by rw [HE.out]; rfl, HB.out⟩
  · rw [if_neg h1] at hia
    rw [hia] at c0
    have CI := Lib.hid c0
    have HE : Hid ((R : Int) = 0) := Lib.hid (by
      rw [← hR, hun, if_neg (by rw [List.getElem?_eq_none (by rw [sb_len]; omega)]; simp)]
      rfl)
    clear hun hR hia hn htl c0
    go_enter Tryd.func128, Tryd.ntmps128
    go_wp2_with fail
    refine (CI.out _).mono ?_
    rintro e w' ⟨rfl, hb⟩
    have HB := Lib.hid hb
    clear hb
    go_wp2
    go_ret
    exact ⟨by rw [HE.out]; rfl, HB.out⟩

end Go.Proofs.YtgfhhpodcnohpaaDoor

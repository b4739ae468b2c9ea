/- Tokens: the only token of a text; the contents of a literal; Quote. Conditions: texts of at most 100000 bytes; the tables lie in memory. -/
import Derived.Test.YtgfhhpodcnohpaaDoorLFi
import Derived.Test.YtgfhhpodcnohpaaDoorLIa
import Derived.Test.YtgfhhpodcnohpaaDoorLVs
namespace Go.Proofs.YtgfhhpodcnohpaaDoor
open Go.RowKit Go.Shelf
set_option linter.unusedVariables false

/-- The lexer's two tables and the two of the library's decoder lie in memory. -/
structure LexW (w : World) : Prop where
  t : LexT w
  u : Lib.Utf8Tabs 1 2 w
theorem LexW.below {w w' : World} (h : LexW w) (hb : Below w.heap.size w w') : LexW w' := ⟨h.t.below hb, Utf8Tabs_below h.u hb⟩

/-- The text consists of whole characters. -/
def vU (s : ByteArray) : Bool := Lib.validD s.data.toList
theorem valid_any (s : ByteArray) (hs : s.size ≤ 100000) (w : World) (hT : LexW w) :
    Calls Tryd.prog 82 #[.string s] w fun e w' => e = .returned (.bool (vU s)) ∧ Below w.heap.size w w' :=
  Any.utf8_ValidString Hs.vsA s w (by omega) hT.u

/-- A quote or a line feed is among the bytes. -/
def qn (s : ByteArray) : Bool := decide (run noQt (sb s) < s.size)
set_option maxRecDepth 100000 in
theorem contains_any (s : ByteArray) (hs : s.size ≤ 100000) (w : World) :
    Calls Tryd.prog 81 #[.string s, .string ⟨#[34, 10]⟩] w fun e w' => e = .returned (.bool (qn s)) ∧ Below w.heap.size w w' := by
  have c0 := ia_any s hs w
  unfold iaV at c0
  unfold qn
  obtain ⟨n, hn⟩ : ∃ n, run noQt (sb s) = n := ⟨_, rfl⟩
  rw [hn] at c0 ⊢
  by_cases h : n < s.size
  · rw [if_pos h] at c0
    rw [decide_eq_true h]
    have h0 : (0 : Int) ≤ (n : Int) := by omega
    have C0 := Lib.hid c0
    clear c0 hn
    go_enter Tryd.func81, Tryd.ntmps81
    go_wp2_with fail
    refine C0.out.mono ?_
    rintro e w' ⟨rfl, hb⟩
    have HB := Lib.hid hb
    clear hb
    go_wp2
    go_ret
    exact ⟨rfl, HB.out⟩
  · rw [if_neg h] at c0
    rw [decide_eq_false h]
    have C0 := Lib.hid c0
    clear c0 hn
    go_enter Tryd.func81, Tryd.ntmps81
    go_wp2_with fail
    refine C0.out.mono ?_
    rintro e w' ⟨rfl, hb⟩
    have HB := Lib.hid hb
    clear hb
    go_wp2
    go_ret
    exact ⟨rfl, HB.out⟩

/-- The error of the contents of a literal. -/
def posV (s : ByteArray) : Int := if qn s = true ∨ vU s = false then 1 else if 64 < s.size then 4 else 0
set_option maxRecDepth 100000 in
theorem possible_any (s : ByteArray) (hs : s.size ≤ 100000) (w : World) (hT : LexW w) :
    Calls Tryd.prog 48 #[.string s] w fun e w' => e = .returned (.int .i64 (posV s)) ∧ Below w.heap.size w w' := by
  have c0 := contains_any s hs w
  have d0 := fun W h => valid_any s hs W h
  unfold posV
  obtain ⟨q, hq⟩ : ∃ q, qn s = q := ⟨_, rfl⟩
  obtain ⟨v, hv⟩ : ∃ v, vU s = v := ⟨_, rfl⟩
  rw [hq] at c0 ⊢
  rw [hv] at d0 ⊢
  have C0 := Lib.hid c0
  have D0 := Lib.hid d0
  have HT := Lib.hid hT
  clear c0 d0 hT hq hv
  cases q
  · cases v
    · rw [if_pos (.inr rfl)]
      go_enter Tryd.func48, Tryd.ntmps48
      go_wp2_with fail
      refine C0.out.mono ?_
      rintro e w1 ⟨rfl, hb⟩
      have HB := Lib.hid hb
      have HT1 := Lib.hid (HT.out.below hb)
      clear hb
      go_wp2_with fail
      refine (D0.out _ HT1.out).mono ?_
      rintro e w2 ⟨rfl, hb⟩
      have HB2 := Lib.hid (HB.out.trans (hb.mono HB.out.size))
      clear hb
      go_wp2
      go_ret
      exact ⟨rfl, HB2.out⟩
    · rw [if_neg (by simp)]
      by_cases h : 64 < s.size
      · rw [if_pos h]
        have hz : (64 : Int) < (s.size : Int) := by omega
        go_enter Tryd.func48, Tryd.ntmps48
        go_wp2_with fail
        refine C0.out.mono ?_
        rintro e w1 ⟨rfl, hb⟩
        have HB := Lib.hid hb
        have HT1 := Lib.hid (HT.out.below hb)
        clear hb
        go_wp2_with fail
        refine (D0.out _ HT1.out).mono ?_
        rintro e w2 ⟨rfl, hb⟩
        have HB2 := Lib.hid (HB.out.trans (hb.mono HB.out.size))
        clear hb
        go_wp2
        go_ret
        exact ⟨rfl, HB2.out⟩
      · rw [if_neg h]
        have hz : ¬ (64 : Int) < (s.size : Int) := by omega
        go_enter Tryd.func48, Tryd.ntmps48
        go_wp2_with fail
        refine C0.out.mono ?_
        rintro e w1 ⟨rfl, hb⟩
        have HB := Lib.hid hb
        have HT1 := Lib.hid (HT.out.below hb)
        clear hb
        go_wp2_with fail
        refine (D0.out _ HT1.out).mono ?_
        rintro e w2 ⟨rfl, hb⟩
        have HB2 := Lib.hid (HB.out.trans (hb.mono HB.out.size))
        clear hb
        go_wp2
        go_ret
        exact ⟨rfl, HB2.out⟩
  · rw [if_pos (.inl rfl)]
    go_enter Tryd.func48, Tryd.ntmps48
    go_wp2_with fail
    refine C0.out.mono ?_
    rintro e w1 ⟨rfl, hb⟩
    have HB := Lib.hid hb
    clear hb
    go_wp2
    go_ret
    exact ⟨rfl, HB.out⟩

/-- What Quote hands back. -/
def quoV (s : ByteArray) : ByteArray × Int := if posV s = 0 then ((⟨#[34]⟩ : ByteArray) ++ s ++ ⟨#[34]⟩, 0) else (⟨#[]⟩, posV s)
set_option maxRecDepth 100000 in
theorem quote_any (s : ByteArray) (hs : s.size ≤ 100000) (w : World) (hT : LexW w) :
    Calls Tryd.prog 25 #[.string s] w fun e w' => e = .returned (.tuple #[.string (quoV s).1, .int .i64 (quoV s).2]) ∧ Below w.heap.size w w' := by
  have c0 := possible_any s hs w hT
  unfold quoV
  obtain ⟨q, hq⟩ : ∃ q, posV s = q := ⟨_, rfl⟩
  rw [hq] at c0 ⊢
  have C0 := Lib.hid c0
  clear c0 hq
  by_cases h : q = 0
  · subst h
    rw [if_pos rfl]
    have hsz : (⟨#[34]⟩ : ByteArray).size + s.size ≤ 9223372036854775807 := by show 1 + s.size ≤ _; omega
    have hsz2 : ((⟨#[34]⟩ : ByteArray) ++ s).size + (⟨#[34]⟩ : ByteArray).size ≤ 9223372036854775807 := by rw [ByteArray.size_append]; show 1 + s.size + 1 ≤ _; omega
    go_enter Tryd.func25, Tryd.ntmps25
    go_wp2_with fail
    refine C0.out.mono ?_
    rintro e w1 ⟨rfl, hb⟩
    have HB := Lib.hid hb
    clear hb
    go_wp2
    go_ret2
    exact ⟨rfl, HB.out⟩
  · rw [if_neg h]
    have hqb : (q != 0) = true := by simpa using h
    go_enter Tryd.func25, Tryd.ntmps25
    go_wp2_with fail
    refine C0.out.mono ?_
    rintro e w1 ⟨rfl, hb⟩
    have HB := Lib.hid hb
    clear hb
    go_wp2
    go_ret2
    exact ⟨rfl, HB.out⟩

/-- The kind of the only token of a text, and whether there is just one. -/
def onlyV (l : List Int) : Int × Bool := if l = [] then (0, false) else ((fst_ l).1, decide ((fst_ l).2 = l.length))
set_option maxRecDepth 100000 in
theorem only_any (s : ByteArray) (hs : s.size ≤ 100000) (w : World) (hT : LexT w) :
    Calls Tryd.prog 53 #[.string s] w fun e w' => e = .returned (.tuple #[.int .i64 (onlyV (sb s)).1, .bool (onlyV (sb s)).2]) ∧ Below w.heap.size w w' := by
  unfold onlyV
  by_cases h : s = ⟨#[]⟩
  · subst h
    rw [if_pos (show sb (⟨#[]⟩ : ByteArray) = [] from rfl)]
    go_enter Tryd.func53, Tryd.ntmps53
    go_wp2
    go_ret2
    exact ⟨rfl, Below.refl _ _⟩
  · have h0 : 0 < s.size := by
      rcases Nat.eq_zero_or_pos s.size with h1 | h1
      · exact absurd (ByteArray.ext (Array.eq_empty_of_size_eq_zero h1)) h
      · exact h1
    have hne : sb s ≠ [] := fun e => by
      have := congrArg List.length e
      rw [sb_len, List.length_nil] at this
      omega
    rw [if_neg hne]
    have c0 := first_any s hs h0 w hT
    unfold FstP at c0
    obtain ⟨⟨k, n⟩, hk⟩ : ∃ x, fst_ (sb s) = x := ⟨_, rfl⟩
    rw [hk] at c0 ⊢
    simp only at c0 ⊢
    rw [sb_len]
    have hb0 : s.toList.isEmpty = false := by
      rw [Lib.toList_data, List.isEmpty_eq_false_iff]
      intro e
      have := congrArg List.length e
      rw [List.length_nil] at this
      have h2 : s.data.toList.length = s.size := rfl
      omega
    have hd : ((n : Int) == (s.size : Int)) = decide (n = s.size) := by
      by_cases e : n = s.size
      · rw [decide_eq_true e, e, beq_self_eq_true]
      · rw [decide_eq_false e, beq_eq_false_iff_ne]; omega
    have C0 := Lib.hid c0
    have HD := Lib.hid hd
    clear c0 hk hd h hne
    go_enter Tryd.func53, Tryd.ntmps53
    go_wp2_with fail
    refine C0.out.mono ?_
    rintro e w1 ⟨rfl, hb⟩
    have HB := Lib.hid hb
    clear hb
    go_wp2
    go_ret2
    rw [HD.out]
    exact ⟨rfl, HB.out⟩

end Go.Proofs.YtgfhhpodcnohpaaDoor

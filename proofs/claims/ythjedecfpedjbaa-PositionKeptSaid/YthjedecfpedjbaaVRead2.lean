/- Contracts of the Reader's Raw, Ints and Text. Conditions: at most 100000 bytes are left. -/
import Derived.Test.YthjedecfpedjbaaVList
import Derived.Test.YthjedecfpedjbaaStr
namespace Go.Proofs.Ythjedecfpedjbaa
open Go.RowKit Go.Shelf
set_option linter.unusedVariables false

theorem rraw_any (base p : Nat) (st : Rs) (w : World) (h : Rd w base p st) :
    Calls Try.prog 51 #[.pointer (some ⟨p, 0, none⟩)] w (LPost .u8 5 base p (rdRaw st).1 (rdRaw st).2 w) := by
  have c1 := rlist_byte base p st w h
  have C1 : Hid (Calls Try.prog 65 #[.pointer (some ⟨p, 0, none⟩), .func (.func 66) #[.pointer (some ⟨p, 0, none⟩)] #[]] w (LPost .u8 5 base p (rdRaw st).1 (rdRaw st).2 w)) := c1
  clear c1 h
  obtain ⟨Z, hZ⟩ : ∃ Z, rdRaw st = Z := ⟨_, rfl⟩
  rw [hZ] at C1 ⊢
  clear hZ
  go_enter Try.func51, Try.ntmps51
  go_wp2_with fail
  refine C1.out.mono ?_
  rintro e w1 ⟨v, rfl, h1⟩
  have H1 := Lib.hid h1
  clear h1
  go_wp2
  go_ret
  exact ⟨_, rfl, H1.out⟩

theorem Rs.left_byt {w : World} {base p n : Nat} {r : List Int} {st : Rs} (h : Rd w base p st) (hr : rdU st = (n, .ok r)) : Byt r ∧ r.length ≤ 100000 := by
  cases st with
  | bad x => simp [rdU] at hr
  | ok zs =>
    obtain ⟨hz, hl⟩ := h.byt
    obtain ⟨h1, _⟩ := rdU_read hz hr
    rw [h1] at hz hl
    refine ⟨fun c hc => hz c (by simp [hc]), ?_⟩
    rw [List.length_append] at hl; omega
theorem rdRaw_byt {w : World} {base p : Nat} {st : Rs} (h : Rd w base p st) : Byt (rdRaw st).1 ∧ (rdRaw st).1.length ≤ 100000 := by
  rw [rdRaw_eq]
  unfold rdN
  obtain ⟨⟨n, s⟩, hR⟩ : ∃ R, rdU st = R := ⟨_, rfl⟩
  rw [hR]
  cases s with
  | bad x => exact ⟨by intro c hc; simp at hc, by simp⟩
  | ok r =>
    obtain ⟨h1, h2⟩ := Rs.left_byt h hR
    by_cases hl : r.length < n
    · simp only [if_pos hl]; exact ⟨by intro c hc; simp at hc, by simp⟩
    · simp only [if_neg hl]; exact ⟨h1.take n, by rw [List.length_take]; omega⟩

/-- Text hands back the string of the bytes that Raw hands back. -/
theorem rdtext_any (base p : Nat) (st : Rs) (w : World) (h : Rd w base p st) :
    Calls Try.prog 33 #[.pointer (some ⟨p, 0, none⟩)] w (RPost base p (.string (bs (rdRaw st).1)) (rdRaw st).2 w) := by
  have c1 := rraw_any base p st w h
  have hb := (rdRaw_byt h).1
  obtain ⟨Z, hZ⟩ : ∃ Z, rdRaw st = Z := ⟨_, rfl⟩
  rw [hZ] at c1 hb ⊢
  have C1 := Lib.hid c1
  have HB := Lib.hid hb
  clear c1 h hZ hb
  go_enter Try.func33, Try.ntmps33
  go_wp2_with fail
  refine C1.out.mono ?_
  rintro e w1 ⟨v, rfl, hown, h1⟩
  obtain ⟨_, a, cap, rfl, hs⟩ := sli_of_own hown
  have hcv := conv_str w1 a cap Z.1 HB.out hs
  have H1 := Lib.hid h1
  clear h1 hown hs
  go_wp2
  go_ret
  exact ⟨rfl, H1.out⟩

end Go.Proofs.Ythjedecfpedjbaa

/- Tokens: the tokens of a text one after the other, each a token on its own. It has no conditions. -/
import Derived.Test.YtgfhhpodcnohpaaDoorLMb
import Derived.Test.YtgfhhpodcnohpaaDoorLTk
namespace Go.Proofs.YtgfhhpodcnohpaaDoor
set_option linter.unusedVariables false

theorem sb_append (s t : ByteArray) : sb (s ++ t) = sb s ++ sb t := by unfold sb; simp
theorem ext_join (z : ByteArray) (p n : Nat) : z.extract 0 p ++ z.extract p (p + n) = z.extract 0 (p + n) := by
  apply sbInj
  rw [sb_append, sbExt, sbExt, sbExt, List.drop_zero, List.drop_zero]
  have h1 : (sb z).take p = ((sb z).take (p + n)).take p := by rw [List.take_take, Nat.min_eq_left (Nat.le_add_right p n)]
  rw [h1, List.take_append_drop]
theorem ext_all (z : ByteArray) : z.extract 0 z.size = z := by
  apply sbInj
  rw [sbExt, List.drop_zero, ← sb_len, List.take_length]
/-- A token stands at its place, is a token on its own, and the next one follows. -/
theorem lex_at {z : ByteArray} {p k : Nat} {L : List Tk} (h : lex ((sb z).drop p) p = L.drop k) (hk : k < L.length) :
    ∃ (kd : Int) (n : Nat), 0 < n ∧ p + n ≤ z.size ∧ (z.extract p (p + n)).size = n ∧ tg L k = (kd, sb (z.extract p (p + n)), p) ∧ lex ((sb z).drop (p + n)) (p + n) = L.drop (k + 1) ∧ fst_ (sb (z.extract p (p + n))) = (kd, n) ∧ lex (sb (z.extract p (p + n))) 0 = [(kd, sb (z.extract p (p + n)), 0)] ∧ ends kd (sb (z.extract p (p + n))) ((sb z).drop (p + n)) := by
  have hne : (sb z).drop p ≠ [] := by
    intro e
    rw [e, lex_nil] at h
    have := congrArg List.length h
    rw [List.length_nil, List.length_drop] at this
    omega
  have hst := lex_step hne p
  have hfp := fst_pos hne
  have hsp := t_split hne
  rw [List.length_drop, sb_len] at hfp
  obtain ⟨⟨kd, n⟩, hkn⟩ : ∃ x, fst_ ((sb z).drop p) = x := ⟨_, rfl⟩
  rw [hkn] at hst hfp hsp
  simp only at hst hfp hsp
  rw [h] at hst
  obtain ⟨_, htg, hdr⟩ := tg_drop hst
  have hx : sb (z.extract p (p + n)) = ((sb z).drop p).take n := by
    rw [sbExt, List.drop_take, show p + n - p = n by omega]
  have hxl : (((sb z).drop p).take n).length = n := by rw [List.length_take, List.length_drop, sb_len]; omega
  have hxn : ((sb z).drop p).take n ≠ [] := fun e => by rw [e] at hxl; simp at hxl; omega
  rw [List.drop_drop] at hdr hsp
  refine ⟨kd, n, hfp.1, by omega, by rw [ByteArray.size_extract]; omega, by rw [hx]; exact htg, hdr.symm, by rw [hx]; exact hsp.1, ?_, by rw [hx]; exact hsp.2⟩
  have h1 := hsp.1
  rw [hx]
  generalize List.take n (List.drop p (sb z)) = U at h1 hxl hxn ⊢
  rw [lex_step hxn, h1]
  simp only
  rw [List.drop_eq_nil_of_le (by omega), lex_nil, List.take_of_length_le (by omega)]
theorem lex_end {z : ByteArray} {p k : Nat} {L : List Tk} (h : lex ((sb z).drop p) p = L.drop k) (hk : L.length ≤ k) (hp : p ≤ z.size) : p = z.size := by
  rcases Nat.lt_or_ge p z.size with h1 | h1
  · have hne : (sb z).drop p ≠ [] := by
      intro e
      have := congrArg List.length e
      rw [List.length_drop, sb_len, List.length_nil] at this
      omega
    rw [lex_step hne, List.drop_eq_nil_of_le hk] at h
    cases h
  · omega

end Go.Proofs.YtgfhhpodcnohpaaDoor

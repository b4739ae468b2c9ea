/- The mathematics of lines: where they begin and end, and what Offset should return. It has no conditions. -/
import Derived.Test.YtfhpllcdlejfjaaPAt
namespace Go.Proofs.Ytfhpllcdlejfjaa
open Go.RowKit
set_option linter.unusedVariables false

theorem lf_start (Z : List Int) (i : Nat) : lf Z (lf Z i).2 = lf Z i := by
  induction i with
  | zero => rfl
  | succ i ih =>
    by_cases h : ab Z i = 10
    · rw [lf_nl h]; exact lf_nl h
    · rw [lf_no h]; exact ih
theorem lf_mono (Z : List Int) (i n : Nat) : (lf Z i).1 ≤ (lf Z (i + n)).1 := by
  induction n with
  | zero => exact Nat.le_refl _
  | succ n ih =>
    rw [← Nat.add_assoc]
    by_cases h : ab Z (i + n) = 10
    · rw [lf_nl h]; simp only; omega
    · rw [lf_no h]; exact ih
theorem lf_line {Z : List Int} {i : Nat} (n : Nat) (h : (lf Z (i + n)).1 = (lf Z i).1) : lf Z (i + n) = lf Z i := by
  induction n with
  | zero => rfl
  | succ n ih =>
    rw [← Nat.add_assoc] at h ⊢
    by_cases h10 : ab Z (i + n) = 10
    · rw [lf_nl h10] at h; have := lf_mono Z i n; simp only at h; omega
    · rw [lf_no h10] at h ⊢; exact ih h
/-- A line feed is a character of its own. -/
theorem nl_bord {Z : List Int} {j : Nat} (hj : j < Z.length) (h10 : ab Z j = 10) : ∃ U, Bord Z j U := by
  have key : ∀ n i U, j - i = n → i ≤ j → Bord Z i U → ∃ U, Bord Z j U := by
    intro n
    induction n using Nat.strongRecOn with
    | _ n ih =>
      intro i U hn hij hb
      by_cases e : i = j
      · subst e; exact ⟨U, hb⟩
      · have hne : Z.drop i ≠ [] := by intro e; have := congrArg List.length e; rw [List.length_drop] at this; simp at this; omega
        have hp := chr_pos (Z.drop i)
        by_cases hc : i + (chr (Z.drop i)).1 ≤ j
        · exact ih (j - (i + (chr (Z.drop i)).1)) (by omega) _ _ rfl hc (hb.snoc hne)
        · exfalso
          have := chr_high (Z := Z.drop i) (by omega) (j - i) (by omega)
          have e2 : ab (Z.drop i) (j - i) = ab Z j := by unfold ab; rw [List.getElem?_drop]; congr 2; omega
          rw [e2] at this; omega
  exact key _ 0 0 rfl (Nat.zero_le _) (Bord.zero _)
/-- The end of line l, at offset E behind v units. -/
def Eol (Z : List Int) (E l v : Nat) : Prop := Pos Z E l v ∧ (E = Z.length ∨ ab Z E = 10)
theorem Pos.lt {Z : List Int} {i l u : Nat} (h : Pos Z i l u) : i ≤ Z.length := by obtain ⟨⟨U, hU⟩, _⟩ := h; exact hU.le
theorem Pos.same {Z : List Int} {i j l u v : Nat} (h : Pos Z i l u) (k : Pos Z j l v) : lf Z i = lf Z j := by
  rcases Nat.le_total i j with hij | hij
  · obtain ⟨n, rfl⟩ : ∃ n, j = i + n := ⟨j - i, by omega⟩
    exact (lf_line n (by rw [← k.2.1, ← h.2.1])).symm
  · obtain ⟨n, rfl⟩ : ∃ n, i = j + n := ⟨i - j, by omega⟩
    exact lf_line n (by rw [← k.2.1, ← h.2.1])
theorem Pos.inj {Z : List Int} {i j l u : Nat} (h : Pos Z i l u) (k : Pos Z j l u) : i = j := by
  have e := h.same k
  have h1 := h.2.2
  have k1 := k.2.2
  have hi := (lf_le Z i).1
  have hj := (lf_le Z j).1
  rw [e] at h1 hi
  have := h1.inj k1
  omega
theorem Pos.mono {Z : List Int} {i j l u v : Nat} (h : Pos Z i l u) (k : Pos Z j l v) (hij : i ≤ j) : u ≤ v := by
  have e := h.same k
  have h1 := h.2.2
  have k1 := k.2.2
  have hi := (lf_le Z i).1
  rw [e] at h1 hi
  obtain ⟨w, _, hw⟩ := h1.diff k1 (by omega)
  omega
/-- Every line that has a position ends. -/
theorem Pos.eol {Z : List Int} {i l u : Nat} (h : Pos Z i l u) : ∃ E v, Eol Z E l v ∧ i ≤ E ∧ u ≤ v := by
  have key : ∀ n i u, Z.length - i = n → Pos Z i l u → ∃ E v, Eol Z E l v ∧ i ≤ E := by
    intro n
    induction n using Nat.strongRecOn with
    | _ n ih =>
      intro i u hn hp
      by_cases e : i = Z.length
      · exact ⟨i, u, ⟨hp, .inl e⟩, Nat.le_refl _⟩
      · have hlt : i < Z.length := by have := hp.lt; omega
        by_cases h10 : ab Z i = 10
        · exact ⟨i, u, ⟨hp, .inr h10⟩, Nat.le_refl _⟩
        · have hs := hp.step hlt
          rw [if_neg h10, if_neg h10] at hs
          have hp2 := chr_pos (Z.drop i)
          obtain ⟨E, v, h1, h2⟩ := ih (Z.length - (i + (chr (Z.drop i)).1)) (by omega) _ _ rfl hs
          exact ⟨E, v, h1, by omega⟩
  obtain ⟨E, v, h1, h2⟩ := key _ i u rfl h
  exact ⟨E, v, h1, h2, h.mono h1.1 h2⟩
/-- There is one end of a line. -/
theorem Eol.det {Z : List Int} {E l v E' v' : Nat} (h : Eol Z E l v) (k : Eol Z E' l v') : E = E' ∧ v = v' := by
  have key : ∀ {E v E' v'}, Eol Z E l v → Eol Z E' l v' → E ≤ E' → E = E' := by
    intro E v E' v' h k hle
    rcases h.2 with h1 | h1
    · have := k.1.lt; omega
    · by_cases e : E = E'
      · exact e
      · exfalso
        obtain ⟨n, rfl⟩ : ∃ n, E' = E + 1 + n := ⟨E' - E - 1, by omega⟩
        have m := lf_mono Z (E + 1) n
        rw [lf_nl h1] at m
        have h2 := h.1.2.1
        have k2 := k.1.2.1
        simp only at m; omega
  have e : E = E' := by
    rcases Nat.le_total E E' with hle | hle
    · exact key h k hle
    · exact (key k h hle).symm
  subst e
  exact ⟨rfl, (h.1.det k.1).2⟩

/-- What Offset returns for line l and unit u: an offset and an error. -/
def OffSpec (Z : List Int) (l u : Int) (o : Nat) (e : Int) : Prop :=
  (e = 0 ∧ ∃ l' u' : Nat, l = l' ∧ u = u' ∧ Pos Z o l' u') ∨
  (e = 1 ∧ o = 0 ∧ ∃ l' u' E v : Nat, l = l' ∧ u = u' ∧ Eol Z E l' v ∧ u' ≤ v ∧ ¬ ∃ o, Pos Z o l' u') ∨
  (e = 5 ∧ o = 0 ∧ ¬ ∃ l' u' E v : Nat, l = l' ∧ u = u' ∧ Eol Z E l' v ∧ u' ≤ v)
theorem OffSpec.det {Z : List Int} {l u : Int} {o o' : Nat} {e e' : Int} (h : OffSpec Z l u o e) (k : OffSpec Z l u o' e') : o = o' ∧ e = e' := by
  have h05 : ∀ {o l' u'}, l = (l' : Nat) → u = (u' : Nat) → Pos Z o l' u' → ∃ l' u' E v : Nat, l = l' ∧ u = u' ∧ Eol Z E l' v ∧ u' ≤ v := by
    intro o l' u' h1 h2 hp
    obtain ⟨E, v, h3, _, h4⟩ := hp.eol
    exact ⟨l', u', E, v, h1, h2, h3, h4⟩
  rcases h with ⟨rfl, a, b, ha, hb, h⟩ | ⟨rfl, rfl, a, b, E, v, ha, hb, h1, h2, h⟩ | ⟨rfl, rfl, h⟩ <;> rcases k with ⟨rfl, c, d, hc, hd, k⟩ | ⟨rfl, rfl, c, d, E', v', hc, hd, k1, k2, k⟩ | ⟨rfl, rfl, k⟩
  · obtain rfl : a = c := by omega
    obtain rfl : b = d := by omega
    exact ⟨h.inj k, rfl⟩
  · obtain rfl : a = c := by omega
    obtain rfl : b = d := by omega
    exact absurd ⟨_, h⟩ k
  · exact absurd (h05 ha hb h) k
  · obtain rfl : a = c := by omega
    obtain rfl : b = d := by omega
    exact absurd ⟨_, k⟩ h
  · exact ⟨rfl, rfl⟩
  · exact absurd ⟨a, b, E, v, ha, hb, h1, h2⟩ k
  · exact absurd (h05 hc hd k) h
  · exact absurd ⟨c, d, E', v', hc, hd, k1, k2⟩ h
  · exact ⟨rfl, rfl⟩

/-- Line k of the lines that begin at f and at the offsets that are still to come. -/
theorem lines_at (Z : List Int) : ∀ (n i l f : Nat), Z.length - i = n → i ≤ Z.length → lf Z i = (l, f) → ∀ k, k < ((f : Int) :: lnsF i (Z.drop i)).length →
    ∃ g : Nat, ((f : Int) :: lnsF i (Z.drop i))[k]?.getD 0 = (g : Int) ∧ lf Z g = (l + k, g) ∧ g ≤ Z.length ∧
      (k + 1 < ((f : Int) :: lnsF i (Z.drop i)).length → ∃ h : Nat, ((f : Int) :: lnsF i (Z.drop i))[k + 1]?.getD 0 = ((h + 1 : Nat) : Int) ∧ g ≤ h ∧ h < Z.length ∧ ab Z h = 10 ∧ lf Z h = (l + k, g)) ∧
      (k + 1 = ((f : Int) :: lnsF i (Z.drop i)).length → lf Z Z.length = (l + k, g)) := by
  intro n
  induction n with
  | zero =>
    intro i l f hn hi hlf k hk
    obtain rfl : i = Z.length := by omega
    rw [List.drop_length] at hk ⊢
    simp [lnsF] at hk
    subst hk
    have h1 := lf_start Z Z.length
    have h2 := (lf_le Z Z.length).1
    rw [hlf] at h1 h2
    exact ⟨f, rfl, h1, h2, fun h => by simp [lnsF] at h, fun _ => hlf⟩
  | succ n ih =>
    intro i l f hn hi hlf k hk
    have hd := drop_ab (Z := Z) (i := i) (by omega)
    by_cases h10 : ab Z i = 10
    · have e : lnsF i (Z.drop i) = ((i + 1 : Nat) : Int) :: lnsF (i + 1) (Z.drop (i + 1)) := by rw [hd, lnsF, if_pos h10]
      rw [e] at hk ⊢
      have hl2 : lf Z (i + 1) = (l + 1, i + 1) := by rw [lf_nl h10, hlf]
      have IH := ih (i + 1) (l + 1) (i + 1) (by omega) (by omega) hl2
      cases k with
      | zero =>
        have h1 := lf_start Z i
        have h2 := (lf_le Z i).1
        rw [hlf] at h1 h2
        exact ⟨f, rfl, h1, by simp only at h2; omega, fun _ => ⟨i, rfl, h2, by omega, h10, hlf⟩, fun h => by simp at h⟩
      | succ k =>
        obtain ⟨g, h1, h2, h3, h4, h5⟩ := IH k (by simpa using hk)
        refine ⟨g, by simpa using h1, by rw [h2]; congr 1; omega, h3, fun h => ?_, fun h => ?_⟩
        · obtain ⟨x, x1, x2, x3, x4, x5⟩ := h4 (by simpa using h)
          exact ⟨x, by simpa using x1, x2, x3, x4, by rw [x5]; congr 1; omega⟩
        · rw [h5 (by simpa using h)]; congr 1; omega
    · have e : lnsF i (Z.drop i) = lnsF (i + 1) (Z.drop (i + 1)) := by rw [hd, lnsF, if_neg h10]
      rw [e] at hk ⊢
      exact ih (i + 1) l f (by omega) (by omega) (by rw [lf_no h10]; exact hlf) k hk
/-- Line k: it begins at g, and ends at t, the next line feed or the end. -/
theorem line_at {Z : List Int} {k : Nat} (hk : k < (lns Z).length) :
    ∃ g t : Nat, (lns Z)[k]?.getD 0 = (g : Int) ∧ g ≤ t ∧ t ≤ Z.length ∧ lf Z g = (k, g) ∧ lf Z t = (k, g) ∧ Eol Z t k (unis ((Z.drop g).take (t - g))) ∧
      (k + 1 < (lns Z).length → (lns Z)[k + 1]?.getD 0 = ((t + 1 : Nat) : Int)) ∧ (¬ k + 1 < (lns Z).length → t = Z.length) := by
  obtain ⟨g, h1, h2, h3, h4, h5⟩ := lines_at Z _ 0 0 0 rfl (Nat.zero_le _) rfl k (by simpa [lns] using hk)
  rw [Nat.zero_add] at h2
  simp only [List.drop_zero] at h1 h4 h5
  have heol : ∀ t, lf Z t = (k, g) → t ≤ Z.length → g ≤ t → (t = Z.length ∨ (t < Z.length ∧ ab Z t = 10)) → Eol Z t k (unis ((Z.drop g).take (t - g))) := by
    intro t ht htl hgt hw
    have hb : ∃ U, Bord Z t U := by
      rcases hw with rfl | ⟨a, b⟩
      · exact ⟨_, Bord.full Z⟩
      · exact nl_bord a b
    obtain ⟨U, hb⟩ := hb
    obtain ⟨u, hp⟩ := pos_of_bord hb
    have hu := hp.2.2
    rw [ht] at hp hu
    simp only at hp hu
    rw [hu.unis_take]
    exact ⟨hp, hw.imp id (fun h => h.2)⟩
  by_cases hl : k + 1 < (lns Z).length
  · obtain ⟨t, x1, x2, x3, x4, x5⟩ := h4 (by simpa [lns] using hl)
    rw [Nat.zero_add] at x5
    exact ⟨g, t, h1, x2, by omega, h2, x5, heol t x5 (by omega) x2 (.inr ⟨x3, x4⟩), fun _ => x1, fun h => absurd hl h⟩
  · have h6 := h5 (by simp [lns] at hk hl ⊢; omega)
    rw [Nat.zero_add] at h6
    exact ⟨g, Z.length, h1, h3, Nat.le_refl _, h2, h6, heol _ h6 (Nat.le_refl _) h3 (.inl rfl), fun h => absurd h hl, fun _ => rfl⟩
/-- There is no further line. -/
theorem no_line {Z : List Int} {k i u : Nat} (hk : ¬ k < (lns Z).length) (h : Pos Z i k u) : False := by
  have hlen : 0 < (lns Z).length := by simp [lns]
  obtain ⟨g, t, _, _, _, _, h6, _, _, h8⟩ := line_at (Z := Z) (k := (lns Z).length - 1) (by omega)
  have ht := h8 (by omega)
  subst ht
  obtain ⟨n, hn⟩ : ∃ n, Z.length = i + n := ⟨Z.length - i, by have := h.lt; omega⟩
  have m := lf_mono Z i n
  rw [← hn, h6, ← h.2.1] at m
  simp only at m; omega
/-- Whole characters of the first bytes, where these are whole characters, are those of the text. -/
theorem Bord.of_take_back {Y : List Int} {m v : Nat} (h : Bord Y m v) : ∀ {j u : Nat}, Bord (Y.take m) j u → Bord Y j u := by
  induction h with
  | zero Y =>
    intro j u k
    rw [List.take_zero] at k
    cases k with
    | zero => exact Bord.zero _
    | step h _ => exact absurd rfl h
  | @step Y m v hy h0 ih =>
    intro j u k
    have hp := chr_pos Y
    have hc : chr (Y.take ((chr Y).1 + m)) = chr Y := chr_take (by omega)
    cases k with
    | zero => exact Bord.zero _
    | @step _ j u _ k =>
      rw [hc] at k ⊢
      rw [List.drop_take, Nat.add_sub_cancel_left] at k
      exact Bord.step hy (ih k)

end Go.Proofs.Ytfhpllcdlejfjaa

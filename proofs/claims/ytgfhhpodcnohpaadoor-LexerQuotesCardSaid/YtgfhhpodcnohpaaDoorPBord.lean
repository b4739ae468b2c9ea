/- The mathematics of positions: offsets at which characters begin, lines, and units. It has no conditions. -/
import Derived.Test.YtgfhhpodcnohpaaDoorPUnits
namespace Go.Proofs.YtgfhhpodcnohpaaDoor
open Go.RowKit
set_option linter.unusedVariables false

theorem take_ne {Z : List Int} {m : Nat} (hz : Z ≠ []) (hm : 1 ≤ m) : Z.take m ≠ [] := by
  intro e
  have h1 := congrArg List.length e
  rw [List.length_take, List.length_nil] at h1
  have := List.length_pos_iff.2 hz
  omega
/-- Whole characters lead from the head to offset i; they have u units. -/
inductive Bord : List Int → Nat → Nat → Prop
  | zero (Z : List Int) : Bord Z 0 0
  | step {Z : List Int} {i u : Nat} : Z ≠ [] → Bord (Z.drop (chr Z).1) i u → Bord Z ((chr Z).1 + i) ((chr Z).2 + u)
theorem Bord.le {Z : List Int} {i u : Nat} (h : Bord Z i u) : i ≤ Z.length := by
  induction h with
  | zero Z => exact Nat.zero_le _
  | step hz _ ih => have := chr_le hz; rw [List.length_drop] at ih; omega
theorem Bord.unis_take {Z : List Int} {i u : Nat} (h : Bord Z i u) : unis (Z.take i) = u := by
  induction h with
  | zero Z => rw [List.take_zero, unis_nil]
  | @step Z i u hz _ ih =>
    have hp := chr_pos Z
    have hne : Z.take ((chr Z).1 + i) ≠ [] := take_ne hz (by omega)
    have hc : chr (Z.take ((chr Z).1 + i)) = chr Z := chr_take (by omega)
    rw [unis_cons hne, hc, List.drop_take, Nat.add_sub_cancel_left, ih]
theorem Bord.det {Z : List Int} {i u v : Nat} (h : Bord Z i u) (k : Bord Z i v) : u = v := by rw [← h.unis_take, ← k.unis_take]
theorem Bord.snoc {Z : List Int} {i u : Nat} (h : Bord Z i u) (hz : Z.drop i ≠ []) : Bord Z (i + (chr (Z.drop i)).1) (u + (chr (Z.drop i)).2) := by
  induction h with
  | zero Z =>
    have := Bord.step (Z := Z) (by simpa using hz) (Bord.zero _)
    simpa using this
  | @step Z i u hz0 _ ih =>
    rw [← List.drop_drop] at hz ⊢
    have := Bord.step hz0 (ih hz)
    rwa [← Nat.add_assoc, ← Nat.add_assoc] at this
theorem Bord.add {Z : List Int} {i u j v : Nat} (h : Bord Z i u) (k : Bord (Z.drop i) j v) : Bord Z (i + j) (u + v) := by
  induction h with
  | zero Z => simpa using k
  | @step Z i u hz0 _ ih =>
    rw [← List.drop_drop] at k
    have := Bord.step hz0 (ih k)
    rwa [← Nat.add_assoc, ← Nat.add_assoc] at this
theorem Bord.full (Z : List Int) : Bord Z Z.length (unis Z) := by
  induction hn : Z.length using Nat.strongRecOn generalizing Z with
  | _ n ih =>
    subst hn
    by_cases h : Z = []
    · subst h; rw [unis_nil]; exact Bord.zero _
    · have h1 := chr_pos Z
      have h2 := List.length_pos_iff.2 h
      have := Bord.step h (ih (Z.drop (chr Z).1).length (by rw [List.length_drop]; omega) _ rfl)
      rw [← unis_cons h, List.length_drop] at this
      have h3 := chr_le h
      rwa [show (chr Z).1 + (Z.length - (chr Z).1) = Z.length by omega] at this
/-- Of two offsets at which characters begin, the greater one lies whole characters behind. -/
theorem Bord.diff {Z : List Int} {i u : Nat} (h : Bord Z i u) : ∀ {j v : Nat}, Bord Z j v → i ≤ j → ∃ w, Bord (Z.drop i) (j - i) w ∧ v = u + w := by
  induction h with
  | zero Z => intro j v k _; exact ⟨v, by simpa using k, by omega⟩
  | @step Z i u hz0 h0 ih =>
    intro j v k hij
    have hp := chr_pos Z
    cases k with
    | zero => omega
    | @step _ j v _ k =>
      obtain ⟨w, h1, h2⟩ := ih k (by omega)
      refine ⟨w, ?_, by omega⟩
      rw [List.drop_drop] at h1
      rwa [show (chr Z).1 + j - ((chr Z).1 + i) = j - i by omega]
theorem Bord.pos {Z : List Int} {i u : Nat} (h : Bord Z i u) (hi : 0 < i) : 0 < u := by
  cases h with
  | zero => omega
  | step _ _ => have := chr_pos Z; omega
theorem Bord.lt {Z : List Int} {i u j v : Nat} (h : Bord Z i u) (k : Bord Z j v) (hij : i < j) : u < v := by
  obtain ⟨w, h1, h2⟩ := h.diff k (by omega)
  have := h1.pos (by omega)
  omega
theorem Bord.inj {Z : List Int} {i j u : Nat} (h : Bord Z i u) (k : Bord Z j u) : i = j := by
  rcases Nat.lt_trichotomy i j with h1 | h1 | h1
  · have := h.lt k h1; omega
  · exact h1
  · have := k.lt h h1; omega
/-- The next offset at which a character begins. -/
theorem Bord.next {Z : List Int} {i u j v : Nat} (h : Bord Z i u) (k : Bord Z j v) (hij : i < j) : i + (chr (Z.drop i)).1 ≤ j := by
  obtain ⟨w, h1, _⟩ := h.diff k (by omega)
  obtain ⟨d, hd⟩ : ∃ d, j - i = d := ⟨_, rfl⟩
  rw [hd] at h1
  cases h1 with
  | zero => omega
  | step _ _ => omega
theorem mem_bords {Z : List Int} {k x : Nat} : x ∈ bords k Z ↔ ∃ i u, Bord Z i u ∧ x = k + i := by
  induction hn : Z.length using Nat.strongRecOn generalizing Z k with
  | _ n ih =>
    by_cases h : Z = []
    · subst h
      rw [bords_nil]
      constructor
      · intro hx; simp at hx; exact ⟨0, 0, Bord.zero _, by omega⟩
      · rintro ⟨i, u, hb, rfl⟩
        have := hb.le
        simp at this ⊢; omega
    · have h1 := chr_pos Z
      have h2 := List.length_pos_iff.2 h
      rw [bords_cons k h, List.mem_cons, ih (Z.drop (chr Z).1).length (by rw [List.length_drop]; omega) rfl]
      constructor
      · rintro (rfl | ⟨i, u, hb, rfl⟩)
        · exact ⟨0, 0, Bord.zero _, by omega⟩
        · exact ⟨_, _, Bord.step h hb, by omega⟩
      · rintro ⟨i, u, hb, rfl⟩
        cases hb with
        | zero => exact .inl (by omega)
        | @step _ i u _ hb => exact .inr ⟨i, u, hb, by omega⟩
theorem mem_bordI {Z : List Int} {x : Nat} : (x : Int) ∈ bordI Z ↔ ∃ u, Bord Z x u := by
  unfold bordI
  rw [List.mem_map]
  constructor
  · rintro ⟨n, hn, he⟩
    obtain ⟨i, u, hb, rfl⟩ := mem_bords.1 hn
    have : x = i := by omega
    subst this
    exact ⟨u, hb⟩
  · rintro ⟨u, hb⟩
    exact ⟨x, mem_bords.2 ⟨x, u, hb, by omega⟩, rfl⟩
/-- Whole characters of the first m bytes are those of the text. -/
theorem Bord.of_take {Z : List Int} {m i u : Nat} (h : Bord Z i u) (hi : i ≤ m) : Bord (Z.take m) i u := by
  induction h generalizing m with
  | zero Z => exact Bord.zero _
  | @step Z i u hz h0 ih =>
    have hp := chr_pos Z
    have hne : Z.take m ≠ [] := take_ne hz (by omega)
    have hc : chr (Z.take m) = chr Z := chr_take (by omega)
    have := Bord.step hne (i := i) (u := u) (by rw [hc, List.drop_take]; exact ih (by omega))
    rwa [hc] at this

/-- Lines and the beginning of the line at offset i. -/
def lf (Z : List Int) : Nat → Nat × Nat
  | 0 => (0, 0)
  | i + 1 => if ab Z i = 10 then ((lf Z i).1 + 1, i + 1) else lf Z i
theorem lf_nl {Z : List Int} {i : Nat} (h : ab Z i = 10) : lf Z (i + 1) = ((lf Z i).1 + 1, i + 1) := by rw [lf, if_pos h]
theorem lf_no {Z : List Int} {i : Nat} (h : ab Z i ≠ 10) : lf Z (i + 1) = lf Z i := by rw [lf, if_neg h]
theorem lf_le (Z : List Int) (i : Nat) : (lf Z i).2 ≤ i ∧ (lf Z i).1 ≤ i := by
  induction i with
  | zero => exact ⟨Nat.le_refl _, Nat.le_refl _⟩
  | succ i ih =>
    by_cases h : ab Z i = 10
    · rw [lf_nl h]; simp only; omega
    · rw [lf_no h]; omega
theorem lf_same {Z : List Int} {i : Nat} (n : Nat) (h : ∀ j, j < n → ab Z (i + j) ≠ 10) : lf Z (i + n) = lf Z i := by
  induction n with
  | zero => rfl
  | succ n ih => rw [← Nat.add_assoc, lf_no (h n (by omega)), ih (fun j hj => h j (by omega))]
/-- No line feed lies between the beginning of the line and offset i. -/
theorem lf_free (Z : List Int) (i j : Nat) (h1 : (lf Z i).2 ≤ j) (h2 : j < i) : ab Z j ≠ 10 := by
  induction i with
  | zero => omega
  | succ i ih =>
    by_cases h : ab Z i = 10
    · rw [lf_nl h] at h1; simp only at h1; omega
    · rw [lf_no h] at h1
      by_cases hj : j = i
      · subst hj; exact h
      · exact ih h1 (by omega)
/-- The bytes of a character but for a line feed are none. -/
theorem chr_no10 {Z : List Int} {i : Nat} (h : ab Z i ≠ 10) (j : Nat) (hj : j < (chr (Z.drop i)).1) : ab Z (i + j) ≠ 10 := by
  have e : ab (Z.drop i) j = ab Z (i + j) := by unfold ab; rw [List.getElem?_drop]
  by_cases h1 : (chr (Z.drop i)).1 = 1
  · have : j = 0 := by omega
    subst this; exact h
  · have := chr_high h1 j hj
    rw [e] at this; omega
theorem drop_zero_ab (Z : List Int) (i : Nat) : ab (Z.drop i) 0 = ab Z i := by unfold ab; rw [List.getElem?_drop]; rfl

/-- Offset i has this position. -/
def Pos (Z : List Int) (i l u : Nat) : Prop := (∃ U, Bord Z i U) ∧ l = (lf Z i).1 ∧ Bord (Z.drop (lf Z i).2) (i - (lf Z i).2) u
theorem Pos.zero (Z : List Int) : Pos Z 0 0 0 := ⟨⟨0, Bord.zero _⟩, rfl, Bord.zero _⟩
/-- The position behind a character. -/
theorem Pos.step {Z : List Int} {i l u : Nat} (h : Pos Z i l u) (hi : i < Z.length) :
    Pos Z (i + (chr (Z.drop i)).1) (if ab Z i = 10 then l + 1 else l) (if ab Z i = 10 then 0 else u + (chr (Z.drop i)).2) := by
  obtain ⟨⟨U, hb⟩, rfl, hu⟩ := h
  have hne : Z.drop i ≠ [] := by intro e; have := congrArg List.length e; rw [List.length_drop] at this; simp at this; omega
  refine ⟨⟨_, hb.snoc hne⟩, ?_⟩
  by_cases h10 : ab Z i = 10
  · have hc : chr (Z.drop i) = (1, 1) := chr_ascii (by rw [drop_zero_ab, h10]; decide)
    rw [hc, if_pos h10, if_pos h10, lf_nl h10]
    exact ⟨rfl, by rw [Nat.sub_self]; exact Bord.zero _⟩
  · rw [if_neg h10, if_neg h10, lf_same _ (fun j hj => chr_no10 h10 j hj)]
    refine ⟨rfl, ?_⟩
    have hle := (lf_le Z i).1
    have hd : (Z.drop (lf Z i).2).drop (i - (lf Z i).2) = Z.drop i := by rw [List.drop_drop]; congr 1; omega
    have := hu.snoc (by rw [hd]; exact hne)
    rw [hd] at this
    rwa [show i + (chr (Z.drop i)).1 - (lf Z i).2 = i - (lf Z i).2 + (chr (Z.drop i)).1 by omega]
theorem Pos.det {Z : List Int} {i l u l' u' : Nat} (h : Pos Z i l u) (k : Pos Z i l' u') : l = l' ∧ u = u' := ⟨h.2.1.trans k.2.1.symm, h.2.2.det k.2.2⟩
/-- Every offset at which a character begins has a position. -/
theorem pos_of_bord {Z : List Int} {i U : Nat} (h : Bord Z i U) : ∃ u, Pos Z i (lf Z i).1 u := by
  have key : ∀ n j l u V, i - j = n → j ≤ i → Bord Z j V → Pos Z j l u → ∃ u, Pos Z i (lf Z i).1 u := by
    intro n
    induction n using Nat.strongRecOn with
    | _ n ih =>
      intro j l u V hn hj hb hp
      by_cases e : j = i
      · subst e
        have := hp.2.1
        subst this
        exact ⟨u, hp⟩
      · have hlt : j < Z.length := by have := h.le; omega
        have hne : Z.drop j ≠ [] := by intro e; have := congrArg List.length e; rw [List.length_drop] at this; simp at this; omega
        have hnx := hb.next h (by omega)
        have hpos := chr_pos (Z.drop j)
        exact ih (i - (j + (chr (Z.drop j)).1)) (by omega) _ _ _ _ rfl hnx (hb.snoc hne) (hp.step hlt)
  exact key _ 0 0 0 0 rfl (Nat.zero_le _) (Bord.zero _) (Pos.zero _)

end Go.Proofs.YtgfhhpodcnohpaaDoor

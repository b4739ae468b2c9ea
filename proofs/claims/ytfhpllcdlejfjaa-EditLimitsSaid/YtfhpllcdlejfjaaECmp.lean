/- The mathematics of Compose: texts whose bytes know where they come from, the list of edits that they make, and composition. It has no conditions. -/
import Derived.Test.YtfhpllcdlejfjaaENorm
namespace Go.Proofs.Ytfhpllcdlejfjaa
open Go.RowKit
set_option linter.unusedVariables false

/-- Bytes with their sources: what is kept of s comes in order, from offset at on. -/
def Src (s : List Int) : Nat → List (Int × Option Nat) → Prop
  | at_, [] => at_ ≤ s.length
  | at_, (c, none) :: r => Src s at_ r
  | at_, (c, some k) :: r => at_ ≤ k ∧ s[k]? = some c ∧ Src s (k + 1) r
theorem Src.le {s : List Int} : ∀ {r : List (Int × Option Nat)} {a : Nat}, Src s a r → a ≤ s.length := by
  intro r
  induction r with
  | nil => intro a h; exact h
  | cons z r ih =>
    intro a h
    obtain ⟨c, k⟩ := z
    cases k with
    | none => exact ih h
    | some k => have := ih h.2.2; have h1 := h.1; omega
/-- The edits that such a text makes of s. -/
def canon (n : Nat) : Nat → List Int → List (Int × Option Nat) → List Ee
  | a, x, [] => if a < n ∨ x ≠ [] then [⟨a, n, x⟩] else []
  | a, x, (c, none) :: r => canon n a (x ++ [c]) r
  | a, x, (c, some k) :: r => if a < k ∨ x ≠ [] then ⟨a, k, x⟩ :: canon n (k + 1) [] r else canon n (k + 1) [] r
theorem canon_vld {s : List Int} : ∀ {r : List (Int × Option Nat)} {a : Nat} {x : List Int}, Src s a r → Vld s.length a (canon s.length a x r) := by
  intro r
  induction r with
  | nil =>
    intro a x h
    have ha : a ≤ s.length := h
    simp only [canon]
    split
    · exact ⟨Nat.le_refl _, ha, Nat.le_refl _, Nat.le_refl _⟩
    · exact ha
  | cons z r ih =>
    intro a x h
    obtain ⟨c, k⟩ := z
    cases k with
    | none => exact ih h
    | some k =>
      obtain ⟨h1, h2, h3⟩ := h
      have := h3.le
      simp only [canon]
      split
      · exact ⟨Nat.le_refl _, h1, by simp only; omega, (ih h3).low (by show k ≤ k + 1; omega)⟩
      · exact (ih h3).low (by omega)
/-- The edits lead to the text. -/
theorem canon_appl {s : List Int} : ∀ {r : List (Int × Option Nat)} {a : Nat} {x : List Int}, Src s a r → appl s a (canon s.length a x r) = x ++ r.map Prod.fst := by
  intro r
  induction r with
  | nil =>
    intro a x h
    have ha : a ≤ s.length := h
    simp only [canon, List.map_nil, List.append_nil]
    split
    · simp [appl]
    · rename_i hn
      have h1 : a = s.length := by omega
      have h2 : x = [] := Classical.byContradiction (fun hx => hn (.inr hx))
      simp [appl, h1, h2]
  | cons z r ih =>
    intro a x h
    obtain ⟨c, k⟩ := z
    cases k with
    | none =>
      have := ih (x := x ++ [c]) h
      simpa [canon] using this
    | some k =>
      obtain ⟨h1, h2, h3⟩ := h
      have hk := h3.le
      have hi := ih (x := []) h3
      have hv := canon_vld (x := []) h3
      have one : appl s k (canon s.length (k + 1) [] r) = c :: r.map Prod.fst := by
        rw [appl_low hv (by omega), hi, Nat.add_sub_cancel_left]
        have hg : s[k]'(by omega) = c := by rw [List.getElem?_eq_getElem (by omega)] at h2; exact Option.some.inj h2
        rw [List.drop_eq_getElem_cons (by omega), hg]
        simp
      simp only [canon, List.map_cons]
      split
      · simp only [appl, Nat.sub_self, List.take_zero, List.nil_append]
        rw [one]
      · rename_i hn
        have e1 : a = k := by omega
        have e2 : x = [] := Classical.byContradiction (fun hx => hn (.inr hx))
        rw [e1, e2, one]; rfl

/-- The text after edits, with the source of each byte. -/
def srcl (s : List Int) (p : Nat) : List Ee → List (Int × Option Nat)
  | [] => (s.drop p).zipIdx p |>.map fun z => (z.1, some z.2)
  | e :: l => (((s.drop p).take (e.f - p)).zipIdx p |>.map fun z => (z.1, some z.2)) ++ (e.x.map (fun c => (c, none)) ++ srcl s e.t l)
theorem zip_fst (x : List Int) : ∀ p : Nat, ((x.zipIdx p).map fun z => ((z.1, some z.2) : Int × Option Nat)).map Prod.fst = x := by
  induction x with
  | nil => intro p; rfl
  | cons c x ih => intro p; simp [List.zipIdx_cons, ih]
theorem srcl_fst (s : List Int) : ∀ (l : List Ee) (p : Nat), (srcl s p l).map Prod.fst = appl s p l := by
  intro l
  induction l with
  | nil => intro p; exact zip_fst _ p
  | cons e l ih =>
    intro p
    have hx : (e.x.map (fun c => ((c, none) : Int × Option Nat))).map Prod.fst = e.x := by
      rw [List.map_map]
      exact List.map_id _
    simp only [srcl, appl, List.map_append, ih]
    rw [zip_fst, hx]
/-- A piece of s in front. -/
theorem src_piece {s : List Int} {r : List (Int × Option Nat)} : ∀ (n p : Nat), p + n ≤ s.length → Src s (p + n) r → Src s p ((((s.drop p).take n).zipIdx p |>.map fun z => (z.1, some z.2)) ++ r) := by
  intro n
  induction n with
  | zero => intro p _ h; simpa using h
  | succ n ih =>
    intro p hp h
    rw [List.drop_eq_getElem_cons (by omega), List.take_succ_cons, List.zipIdx_cons]
    refine ⟨Nat.le_refl _, ?_, ?_⟩
    · rw [List.getElem?_eq_getElem (by omega)]
    · exact ih (p + 1) (by omega) (by rwa [show p + 1 + n = p + (n + 1) by omega])
theorem src_new {s : List Int} {r : List (Int × Option Nat)} (x : List Int) {p : Nat} (h : Src s p r) : Src s p (x.map (fun c => ((c, none) : Int × Option Nat)) ++ r) := by
  induction x with
  | nil => exact h
  | cons c x ih => exact ih
theorem Src.low {s : List Int} {r : List (Int × Option Nat)} : ∀ {a b : Nat}, Src s a r → b ≤ a → Src s b r := by
  induction r with
  | nil => intro a b h hb; have : a ≤ s.length := h; show b ≤ s.length; omega
  | cons z r ih =>
    intro a b h hb
    obtain ⟨c, k⟩ := z
    cases k with
    | none => exact ih h hb
    | some k => exact ⟨by have := h.1; omega, h.2⟩
theorem srcl_src {s : List Int} : ∀ {l : List Ee} {p : Nat}, Vld s.length p l → Src s p (srcl s p l) := by
  intro l
  induction l with
  | nil =>
    intro p h
    have hp : p ≤ s.length := h
    have := src_piece (s := s) (r := []) (s.length - p) p (by omega) (by show p + (s.length - p) ≤ s.length; omega)
    rw [List.append_nil, List.take_of_length_le (by rw [List.length_drop]; exact Nat.le_refl _)] at this
    exact this
  | cons e l ih =>
    intro p h
    obtain ⟨h1, h2, h3, h4⟩ := h
    refine src_piece (e.f - p) p (by omega) (src_new e.x ((ih h4).low ?_))
    omega

/-- Sources in order, by places. -/
theorem src_iff {s : List Int} : ∀ {r : List (Int × Option Nat)} {a : Nat}, Src s a r ↔ a ≤ s.length ∧ (∀ (i k : Nat) (c : Int), r[i]? = some (c, some k) → a ≤ k ∧ s[k]? = some c) ∧ (∀ (i j k m : Nat) (c d : Int), i < j → r[i]? = some (c, some k) → r[j]? = some (d, some m) → k < m) := by
  intro r
  induction r with
  | nil => intro a; simp [Src]
  | cons z r ih =>
    intro a
    obtain ⟨c0, k0⟩ := z
    constructor
    · intro h
      cases k0 with
      | none =>
        obtain ⟨h1, h2, h3⟩ := ih.1 h
        refine ⟨h1, fun i k c hi => ?_, fun i j k m c d hij hi hj => ?_⟩
        · cases i with
          | zero => simp at hi
          | succ i => exact h2 i k c (by simpa using hi)
        · cases i with
          | zero => simp at hi
          | succ i =>
            cases j with
            | zero => omega
            | succ j => exact h3 i j k m c d (by omega) (by simpa using hi) (by simpa using hj)
      | some k0 =>
        obtain ⟨g1, g2, g3⟩ := h
        obtain ⟨h1, h2, h3⟩ := ih.1 g3
        refine ⟨by omega, fun i k c hi => ?_, fun i j k m c d hij hi hj => ?_⟩
        · cases i with
          | zero => simp at hi; obtain ⟨rfl, rfl⟩ := hi; exact ⟨g1, g2⟩
          | succ i => obtain ⟨x, y⟩ := h2 i k c (by simpa using hi); exact ⟨by omega, y⟩
        · cases j with
          | zero => omega
          | succ j =>
            have hj' := h2 j m d (by simpa using hj)
            cases i with
            | zero => simp at hi; obtain ⟨rfl, rfl⟩ := hi; omega
            | succ i => exact h3 i j k m c d (by omega) (by simpa using hi) (by simpa using hj)
    · rintro ⟨h1, h2, h3⟩
      have t2 : ∀ (i k : Nat) (c : Int), r[i]? = some (c, some k) → a ≤ k ∧ s[k]? = some c := fun i k c hi => h2 (i + 1) k c (by simpa using hi)
      have t3 : ∀ (i j k m : Nat) (c d : Int), i < j → r[i]? = some (c, some k) → r[j]? = some (d, some m) → k < m := fun i j k m c d hij hi hj => h3 (i + 1) (j + 1) k m c d (by omega) (by simpa using hi) (by simpa using hj)
      cases k0 with
      | none => exact ih.2 ⟨h1, t2, t3⟩
      | some k0 =>
        obtain ⟨g1, g2⟩ := h2 0 k0 c0 (by simp)
        have hlt : k0 < s.length := by have := (List.getElem?_eq_some_iff.1 g2).1; exact this
        refine ⟨g1, g2, ih.2 ⟨by omega, fun i k c hi => ⟨?_, (t2 i k c hi).2⟩, t3⟩⟩
        have := h3 0 (i + 1) k0 k c0 c (by omega) (by simp) (by simpa using hi)
        omega
/-- The sources in s of a text whose sources in t are known. -/
def thru (z1 z2 : List (Int × Option Nat)) : List (Int × Option Nat) := z2.map fun z => (z.1, z.2.bind fun k => (z1[k]?).bind Prod.snd)
theorem thru_fst (z1 z2 : List (Int × Option Nat)) : (thru z1 z2).map Prod.fst = z2.map Prod.fst := by unfold thru; rw [List.map_map]; rfl
theorem thru_src {s t : List Int} {z1 z2 : List (Int × Option Nat)} (h1 : Src s 0 z1) (ht : z1.map Prod.fst = t) (h2 : Src t 0 z2) : Src s 0 (thru z1 z2) := by
  obtain ⟨_, a2, a3⟩ := src_iff.1 h1
  obtain ⟨_, b2, b3⟩ := src_iff.1 h2
  have get : ∀ (i k : Nat) (c : Int), (thru z1 z2)[i]? = some (c, some k) → ∃ m, z2[i]? = some (c, some m) ∧ z1[m]? = some (c, some k) := by
    intro i k c hi
    unfold thru at hi
    rw [List.getElem?_map] at hi
    cases hz : z2[i]? with
    | none => simp [hz] at hi
    | some z =>
      obtain ⟨c2, m⟩ := z
      rw [hz] at hi
      simp only [Option.map_some, Option.some.injEq, Prod.mk.injEq] at hi
      obtain ⟨rfl, hm⟩ := hi
      cases m with
      | none => simp at hm
      | some m =>
        refine ⟨m, rfl, ?_⟩
        simp only [Option.bind_some] at hm
        cases hz1 : z1[m]? with
        | none => simp [hz1] at hm
        | some y =>
          obtain ⟨c1, k1⟩ := y
          rw [hz1] at hm
          simp only [Option.bind_some] at hm
          subst hm
          have hb := (b2 i m c2 hz).2
          rw [← ht, List.getElem?_map, hz1] at hb
          simp at hb
          rw [hb]
  refine src_iff.2 ⟨Nat.zero_le _, fun i k c hi => ?_, fun i j k m c d hij hi hj => ?_⟩
  · obtain ⟨m, _, hm⟩ := get i k c hi
    exact a2 m k c hm
  · obtain ⟨x, hx, hx1⟩ := get i k c hi
    obtain ⟨y, hy, hy1⟩ := get j m d hj
    exact a3 x y k m c d (b3 i j x y c d hij hx hy) hx1 hy1
/-- The composition, before its size is looked at. -/
def cmpl (s : List Int) (a b : List Ee) : List Ee := norml s (canon s.length 0 [] (thru (srcl s 0 a) (srcl (appl s 0 a) 0 b)))
/-- Composition leads to the same text as both lists, one after the other. -/
theorem cmpl_appl {s : List Int} {a b : List Ee} (ha : Vld s.length 0 a) (hb : Vld (appl s 0 a).length 0 b) : Vld s.length 0 (cmpl s a b) ∧ appl s 0 (cmpl s a b) = appl (appl s 0 a) 0 b := by
  have hs := thru_src (srcl_src ha) (srcl_fst s a 0) (srcl_src hb)
  have hv := canon_vld (x := []) hs
  refine ⟨norml_vld hv, ?_⟩
  unfold cmpl
  rw [norml_appl hv, canon_appl hs, thru_fst, srcl_fst]
  rfl

end Go.Proofs.Ytfhpllcdlejfjaa

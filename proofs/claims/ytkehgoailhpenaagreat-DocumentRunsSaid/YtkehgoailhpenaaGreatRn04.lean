/- Texts of one claim, put together: EVal, ENorm, ECmp, EInv, EdE, EVr, EGn, EFw, EPc, EPart, EBld, EApp. Each part says what it proves and under which conditions. -/
import Derived.Test.YtkehgoailhpenaaGreatRn03
import Derived.Lib.MinMax
import Derived.Deep.RegionHeld3
import Derived.Lib.Builder
import Derived.Lib.AppendStr
import Derived.Lib.UnsafeStr
import Derived.Laws.Externs
import Derived.Shelf.RegionOpenPlain

/- The mathematics of Valid: the error of a list of edits, and what no error means. It has no conditions. -/
namespace Go.Proofs.YtkehgoailhpenaaGreat
open Go.RowKit
set_option linter.unusedVariables false

/-- An edit as it comes in. -/
structure Er where
  f : Int
  t : Int
  x : ByteArray
def Er.ee (e : Er) (sb : ByteArray → List Int) : Ee := ⟨e.f.toNat, e.t.toNat, sb e.x⟩
/-- The error of the first edit that has one, behind an edit that ends at p. -/
def vE (n p : Int) : List Er → Int
  | [] => 0
  | e :: l => if e.f < 0 ∨ e.t < e.f ∨ n < e.t then 5 else if e.f < p then 1 else vE n e.t l
def vErr (n : Int) (l : List Er) : Int := if 64 < l.length then 4 else vE n 0 l
theorem vE_ways (n : Int) : ∀ (l : List Er) (p : Int), vE n p l = 0 ∨ vE n p l = 1 ∨ vE n p l = 5 := by
  intro l
  induction l with
  | nil => intro p; exact .inl rfl
  | cons e l ih =>
    intro p
    simp only [vE]
    split
    · exact .inr (.inr rfl)
    · split
      · exact .inr (.inl rfl)
      · exact ih e.t
/-- No error: the edits are valid. -/
theorem vE_ok {n : Nat} (sb : ByteArray → List Int) : ∀ {l : List Er} {p : Nat}, vE (n : Int) (p : Int) l = 0 → p ≤ n → Vld n p (l.map (fun e => e.ee sb)) ∧ ∀ e ∈ l, 0 ≤ e.f ∧ e.f ≤ e.t ∧ e.t ≤ (n : Int) := by
  intro l
  induction l with
  | nil => intro p _ hp; exact ⟨hp, by simp⟩
  | cons e l ih =>
    intro p h hp
    simp only [vE] at h
    split at h
    · omega
    · rename_i h1
      split at h
      · omega
      · rename_i h2
        have ht : ((e.t.toNat : Nat) : Int) = e.t := by omega
        have hi := ih (p := e.t.toNat) (by rw [ht]; exact h) (by omega)
        refine ⟨⟨?_, ?_, ?_, hi.1⟩, fun x hx => ?_⟩
        · show p ≤ e.f.toNat; omega
        · show e.f.toNat ≤ e.t.toNat; omega
        · show e.t.toNat ≤ n; omega
        · rcases List.mem_cons.1 hx with rfl | hx
          · omega
          · exact hi.2 x hx
/-- Valid edits have no error. -/
theorem vE_of_vld {n : Nat} (sb : ByteArray → List Int) : ∀ {l : List Er} {p : Nat}, (∀ e ∈ l, 0 ≤ e.f ∧ 0 ≤ e.t) → Vld n p (l.map (fun e => e.ee sb)) → vE (n : Int) (p : Int) l = 0 := by
  intro l
  induction l with
  | nil => intro p _ _; rfl
  | cons e l ih =>
    intro p hc h
    have h0 := hc e (by simp)
    obtain ⟨h1, h2, h3, h4⟩ := h
    have g1 : p ≤ e.f.toNat := h1
    have g2 : e.f.toNat ≤ e.t.toNat := h2
    have g3 : e.t.toNat ≤ n := h3
    have hi := ih (p := e.t.toNat) (fun x hx => hc x (by simp [hx])) h4
    rw [show ((e.t.toNat : Nat) : Int) = e.t by omega] at hi
    simp only [vE]
    rw [if_neg (by omega), if_neg (by omega)]
    exact hi

end Go.Proofs.YtkehgoailhpenaaGreat

/- The mathematics of normal forms: neighbors joined, edits that change nothing removed. It has no conditions. -/
namespace Go.Proofs.YtkehgoailhpenaaGreat
open Go.RowKit
set_option linter.unusedVariables false

/-- The edits with neighbors joined; c is the last one so far. -/
def jn (c : Ee) : List Ee → List Ee
  | [] => [c]
  | e :: l => if c.t = e.f then jn ⟨c.f, e.t, c.x ++ e.x⟩ l else c :: jn e l
def joinl : List Ee → List Ee
  | [] => []
  | e :: l => jn e l
/-- The edit changes something. -/
def Chg (s : List Int) (e : Ee) : Bool := decide ((s.drop e.f).take (e.t - e.f) ≠ e.x)
def norml (s : List Int) (l : List Ee) : List Ee := (joinl l).filter (Chg s)
theorem jn_vld {n : Nat} : ∀ {l : List Ee} {p : Nat} {c : Ee}, p ≤ c.f → c.f ≤ c.t → c.t ≤ n → Vld n c.t l → Vld n p (jn c l) := by
  intro l
  induction l with
  | nil => intro p c h1 h2 h3 h; exact ⟨h1, h2, h3, h3⟩
  | cons e l ih =>
    intro p c h1 h2 h3 h
    obtain ⟨k1, k2, k3, k4⟩ := h
    simp only [jn]
    split
    · rename_i heq
      exact ih (c := ⟨c.f, e.t, c.x ++ e.x⟩) h1 (by simp only; omega) k3 k4
    · exact ⟨h1, h2, h3, ih (c := e) k1 k2 k3 k4⟩
theorem joinl_vld {n p : Nat} {l : List Ee} (h : Vld n p l) : Vld n p (joinl l) := by
  cases l with
  | nil => exact h
  | cons e l => exact jn_vld h.1 h.2.1 h.2.2.1 h.2.2.2
theorem jn_appl {s : List Int} : ∀ {l : List Ee} {p : Nat} {c : Ee}, appl s p (jn c l) = (s.drop p).take (c.f - p) ++ (c.x ++ appl s c.t l) := by
  intro l
  induction l with
  | nil => intro p c; rfl
  | cons e l ih =>
    intro p c
    simp only [jn]
    split
    · rename_i heq
      rw [ih]
      simp only [appl, heq, Nat.sub_self, List.take_zero, List.nil_append, List.append_assoc]
    · simp only [appl]
      rw [ih]
/-- Joining neighbors leads to the same text. -/
theorem joinl_appl (s : List Int) (p : Nat) (l : List Ee) : appl s p (joinl l) = appl s p l := by
  cases l with
  | nil => rfl
  | cons e l => exact jn_appl
theorem Vld.low {n : Nat} {l : List Ee} {p q : Nat} (h : Vld n p l) (hq : q ≤ p) : Vld n q l := by
  cases l with
  | nil => have : p ≤ n := h; show q ≤ n; omega
  | cons e l => obtain ⟨h1, h2⟩ := h; exact ⟨by omega, h2⟩
theorem filter_vld {n : Nat} (f : Ee → Bool) : ∀ {l : List Ee} {p : Nat}, Vld n p l → Vld n p (l.filter f) := by
  intro l
  induction l with
  | nil => intro p h; exact h
  | cons e l ih =>
    intro p h
    obtain ⟨h1, h2, h3, h4⟩ := h
    rw [List.filter_cons]
    split
    · exact ⟨h1, h2, h3, ih h4⟩
    · exact ih (h4.low (by omega))
/-- The bytes up to the next edit come first. -/
theorem appl_low {s : List Int} {l : List Ee} {p q : Nat} (h : Vld s.length q l) (hp : p ≤ q) : appl s p l = (s.drop p).take (q - p) ++ appl s q l := by
  have hd : ∀ r, q ≤ r → s.drop q = (s.drop p).drop (q - p) := by intro r _; rw [List.drop_drop]; congr 1; omega
  cases l with
  | nil =>
    have hq : q ≤ s.length := h
    simp only [appl]
    rw [hd q (Nat.le_refl _), List.take_append_drop]
  | cons e l =>
    obtain ⟨h1, _, _, _⟩ := h
    simp only [appl]
    have e1 : e.f - p = (q - p) + (e.f - q) := by omega
    rw [e1, List.take_add, List.append_assoc, hd q (Nat.le_refl _)]
/-- Removing what changes nothing leads to the same text. -/
theorem filter_appl {s : List Int} : ∀ {l : List Ee} {p : Nat}, Vld s.length p l → appl s p (l.filter (Chg s)) = appl s p l := by
  intro l
  induction l with
  | nil => intro p _; rfl
  | cons e l ih =>
    intro p h
    obtain ⟨h1, h2, h3, h4⟩ := h
    rw [List.filter_cons]
    split
    · simp only [appl]; rw [ih h4]
    · rename_i hc
      have hx : (s.drop e.f).take (e.t - e.f) = e.x := by
        unfold Chg at hc
        simpa using hc
      rw [appl_low (filter_vld (Chg s) h4) (by omega), ih h4]
      simp only [appl]
      rw [← hx, ← List.append_assoc]
      congr 1
      have e1 : e.t - p = (e.f - p) + (e.t - e.f) := by omega
      rw [e1, List.take_add, List.drop_drop, show p + (e.f - p) = e.f by omega]
theorem norml_appl {s : List Int} {p : Nat} {l : List Ee} (h : Vld s.length p l) : appl s p (norml s l) = appl s p l := by
  unfold norml
  rw [filter_appl (joinl_vld h), joinl_appl]
theorem norml_vld {s : List Int} {p : Nat} {l : List Ee} (h : Vld s.length p l) : Vld s.length p (norml s l) := filter_vld _ (joinl_vld h)
/-- No two edits are neighbors. -/
def Sep : List Ee → Prop
  | [] => True
  | e :: l => (∀ e' ∈ l, e.t < e'.f) ∧ Sep l
theorem Vld.mem {n : Nat} : ∀ {l : List Ee} {p : Nat}, Vld n p l → ∀ e ∈ l, p ≤ e.f ∧ e.f ≤ e.t ∧ e.t ≤ n := by
  intro l
  induction l with
  | nil => intro p _ e he; simp at he
  | cons c l ih =>
    intro p h e he
    obtain ⟨h1, h2, h3, h4⟩ := h
    rcases List.mem_cons.1 he with rfl | he
    · exact ⟨h1, h2, h3⟩
    · obtain ⟨a, b, c⟩ := ih h4 e he; exact ⟨by omega, b, c⟩
theorem jn_sep {n : Nat} : ∀ {l : List Ee} {c : Ee}, c.f ≤ c.t → c.t ≤ n → Vld n c.t l → Sep (jn c l) := by
  intro l
  induction l with
  | nil => intro c _ _ _; exact ⟨by simp, trivial⟩
  | cons e l ih =>
    intro c h1 h2 h
    obtain ⟨k1, k2, k3, k4⟩ := h
    simp only [jn]
    split
    · rename_i heq
      exact ih (c := ⟨c.f, e.t, c.x ++ e.x⟩) (by simp only; omega) k3 k4
    · rename_i hne
      refine ⟨?_, ih k2 k3 k4⟩
      intro e' he'
      have := (jn_vld (p := e.f) (Nat.le_refl _) k2 k3 k4).mem e' he'
      omega
theorem joinl_sep {n p : Nat} {l : List Ee} (h : Vld n p l) : Sep (joinl l) := by
  cases l with
  | nil => trivial
  | cons e l => exact jn_sep h.2.1 h.2.2.1 h.2.2.2
theorem filter_sep (f : Ee → Bool) : ∀ {l : List Ee}, Sep l → Sep (l.filter f) := by
  intro l
  induction l with
  | nil => intro h; exact h
  | cons e l ih =>
    intro h
    rw [List.filter_cons]
    split
    · exact ⟨fun e' he' => h.1 e' (List.mem_filter.1 he').1, ih h.2⟩
    · exact ih h.2
theorem jn_of_sep : ∀ {l : List Ee} {c : Ee}, Sep (c :: l) → jn c l = c :: l := by
  intro l
  induction l with
  | nil => intro c _; rfl
  | cons e l ih =>
    intro c h
    simp only [jn]
    have := h.1 e (by simp)
    rw [if_neg (by omega), ih h.2]
theorem joinl_of_sep {l : List Ee} (h : Sep l) : joinl l = l := by
  cases l with
  | nil => rfl
  | cons e l => exact jn_of_sep h
/-- A normal form is its own normal form, and has no neighbors. -/
theorem norml_again {s : List Int} {p : Nat} {l : List Ee} (h : Vld s.length p l) : norml s (norml s l) = norml s l ∧ Sep (norml s l) := by
  have hs := filter_sep (Chg s) (joinl_sep h)
  refine ⟨?_, hs⟩
  show (joinl ((joinl l).filter (Chg s))).filter (Chg s) = (joinl l).filter (Chg s)
  rw [joinl_of_sep hs, List.filter_filter]
  simp
theorem jn_len : ∀ (l : List Ee) (c : Ee), (jn c l).length ≤ l.length + 1 := by
  intro l
  induction l with
  | nil => intro c; simp [jn]
  | cons e l ih =>
    intro c
    simp only [jn]
    split
    · have := ih ⟨c.f, e.t, c.x ++ e.x⟩; simp; omega
    · have := ih e; simp; omega
theorem norml_len (s : List Int) (l : List Ee) : (norml s l).length ≤ l.length := by
  have h1 : (norml s l).length ≤ (joinl l).length := List.length_filter_le _ _
  cases l with
  | nil => simpa [joinl] using h1
  | cons e l => have := jn_len l e; simp only [joinl] at h1; simp; omega

end Go.Proofs.YtkehgoailhpenaaGreat

/- The mathematics of Compose: texts whose bytes know where they come from, the list of edits that they make, and composition. It has no conditions. -/
namespace Go.Proofs.YtkehgoailhpenaaGreat
open Go.RowKit
set_option linter.unusedVariables false

/-- Bytes with their sources: what is kept of s comes in order, from offset at on. -/
def Src (s : List Int) : Nat → List (Int × Option Nat) → Prop
  | at_, [] => at_ ≤ s.length
  | at_, (c, none) :: r => Src s at_ r
  | at_, (c, some k) :: r => at_ ≤ k ∧ s[k]? = some c ∧ Src s (k + 1) r
theorem Src.le {s : List Int} : ∀ {r : List (Int × Option Nat)} {a : Nat}, Src s a r → a ≤ s.length := by
  intro r
  induction r with
  | nil => intro a h; exact h
  | cons z r ih =>
    intro a h
    obtain ⟨c, k⟩ := z
    cases k with
    | none => exact ih h
    | some k => have := ih h.2.2; have h1 := h.1; omega
/-- The edits that such a text makes of s. -/
def canon (n : Nat) : Nat → List Int → List (Int × Option Nat) → List Ee
  | a, x, [] => if a < n ∨ x ≠ [] then [⟨a, n, x⟩] else []
  | a, x, (c, none) :: r => canon n a (x ++ [c]) r
  | a, x, (c, some k) :: r => if a < k ∨ x ≠ [] then ⟨a, k, x⟩ :: canon n (k + 1) [] r else canon n (k + 1) [] r
theorem canon_vld {s : List Int} : ∀ {r : List (Int × Option Nat)} {a : Nat} {x : List Int}, Src s a r → Vld s.length a (canon s.length a x r) := by
  intro r
  induction r with
  | nil =>
    intro a x h
    have ha : a ≤ s.length := h
    simp only [canon]
    split
    · exact ⟨Nat.le_refl _, ha, Nat.le_refl _, Nat.le_refl _⟩
    · exact ha
  | cons z r ih =>
    intro a x h
    obtain ⟨c, k⟩ := z
    cases k with
    | none => exact ih h
    | some k =>
      obtain ⟨h1, h2, h3⟩ := h
      have := h3.le
      simp only [canon]
      split
      · exact ⟨Nat.le_refl _, h1, by simp only; omega, (ih h3).low (by show k ≤ k + 1; omega)⟩
      · exact (ih h3).low (by omega)
/-- The edits lead to the text. -/
theorem canon_appl {s : List Int} : ∀ {r : List (Int × Option Nat)} {a : Nat} {x : List Int}, Src s a r → appl s a (canon s.length a x r) = x ++ r.map Prod.fst := by
  intro r
  induction r with
  | nil =>
    intro a x h
    have ha : a ≤ s.length := h
    simp only [canon, List.map_nil, List.append_nil]
    split
    · simp [appl]
    · rename_i hn
      have h1 : a = s.length := by omega
      have h2 : x = [] := Classical.byContradiction (fun hx => hn (.inr hx))
      simp [appl, h1, h2]
  | cons z r ih =>
    intro a x h
    obtain ⟨c, k⟩ := z
    cases k with
    | none =>
      have := ih (x := x ++ [c]) h
      simpa [canon] using this
    | some k =>
      obtain ⟨h1, h2, h3⟩ := h
      have hk := h3.le
      have hi := ih (x := []) h3
      have hv := canon_vld (x := []) h3
      have one : appl s k (canon s.length (k + 1) [] r) = c :: r.map Prod.fst := by
        rw [appl_low hv (by omega), hi, Nat.add_sub_cancel_left]
        have hg : s[k]'(by omega) = c := by rw [List.getElem?_eq_getElem (by omega)] at h2; exact Option.some.inj h2
        rw [List.drop_eq_getElem_cons (by omega), hg]
        simp
      simp only [canon, List.map_cons]
      split
      · simp only [appl, Nat.sub_self, List.take_zero, List.nil_append]
        rw [one]
      · rename_i hn
        have e1 : a = k := by omega
        have e2 : x = [] := Classical.byContradiction (fun hx => hn (.inr hx))
        rw [e1, e2, one]; rfl

/-- The text after edits, with the source of each byte. -/
def srcl (s : List Int) (p : Nat) : List Ee → List (Int × Option Nat)
  | [] => (s.drop p).zipIdx p |>.map fun z => (z.1, some z.2)
  | e :: l => (((s.drop p).take (e.f - p)).zipIdx p |>.map fun z => (z.1, some z.2)) ++ (e.x.map (fun c => (c, none)) ++ srcl s e.t l)
theorem zip_fst (x : List Int) : ∀ p : Nat, ((x.zipIdx p).map fun z => ((z.1, some z.2) : Int × Option Nat)).map Prod.fst = x := by
  induction x with
  | nil => intro p; rfl
  | cons c x ih => intro p; simp [List.zipIdx_cons, ih]
theorem srcl_fst (s : List Int) : ∀ (l : List Ee) (p : Nat), (srcl s p l).map Prod.fst = appl s p l := by
  intro l
  induction l with
  | nil => intro p; exact zip_fst _ p
  | cons e l ih =>
    intro p
    have hx : (e.x.map (fun c => ((c, none) : Int × Option Nat))).map Prod.fst = e.x := by
      rw [List.map_map]
      exact List.map_id _
    simp only [srcl, appl, List.map_append, ih]
    rw [zip_fst, hx]
/-- A piece of s in front. -/
theorem src_piece {s : List Int} {r : List (Int × Option Nat)} : ∀ (n p : Nat), p + n ≤ s.length → Src s (p + n) r → Src s p ((((s.drop p).take n).zipIdx p |>.map fun z => (z.1, some z.2)) ++ r) := by
  intro n
  induction n with
  | zero => intro p _ h; simpa using h
  | succ n ih =>
    intro p hp h
    rw [List.drop_eq_getElem_cons (by omega), List.take_succ_cons, List.zipIdx_cons]
    refine ⟨Nat.le_refl _, ?_, ?_⟩
    · rw [List.getElem?_eq_getElem (by omega)]
    · exact ih (p + 1) (by omega) (by rwa [show p + 1 + n = p + (n + 1) by omega])
theorem src_new {s : List Int} {r : List (Int × Option Nat)} (x : List Int) {p : Nat} (h : Src s p r) : Src s p (x.map (fun c => ((c, none) : Int × Option Nat)) ++ r) := by
  induction x with
  | nil => exact h
  | cons c x ih => exact ih
theorem Src.low {s : List Int} {r : List (Int × Option Nat)} : ∀ {a b : Nat}, Src s a r → b ≤ a → Src s b r := by
  induction r with
  | nil => intro a b h hb; have : a ≤ s.length := h; show b ≤ s.length; omega
  | cons z r ih =>
    intro a b h hb
    obtain ⟨c, k⟩ := z
    cases k with
    | none => exact ih h hb
    | some k => exact ⟨by have := h.1; omega, h.2⟩
theorem srcl_src {s : List Int} : ∀ {l : List Ee} {p : Nat}, Vld s.length p l → Src s p (srcl s p l) := by
  intro l
  induction l with
  | nil =>
    intro p h
    have hp : p ≤ s.length := h
    have := src_piece (s := s) (r := []) (s.length - p) p (by omega) (by show p + (s.length - p) ≤ s.length; omega)
    rw [List.append_nil, List.take_of_length_le (by rw [List.length_drop]; exact Nat.le_refl _)] at this
    exact this
  | cons e l ih =>
    intro p h
    obtain ⟨h1, h2, h3, h4⟩ := h
    refine src_piece (e.f - p) p (by omega) (src_new e.x ((ih h4).low ?_))
    omega

/-- Sources in order, by places. -/
theorem src_iff {s : List Int} : ∀ {r : List (Int × Option Nat)} {a : Nat}, Src s a r ↔ a ≤ s.length ∧ (∀ (i k : Nat) (c : Int), r[i]? = some (c, some k) → a ≤ k ∧ s[k]? = some c) ∧ (∀ (i j k m : Nat) (c d : Int), i < j → r[i]? = some (c, some k) → r[j]? = some (d, some m) → k < m) := by
  intro r
  induction r with
  | nil => intro a; simp [Src]
  | cons z r ih =>
    intro a
    obtain ⟨c0, k0⟩ := z
    constructor
    · intro h
      cases k0 with
      | none =>
        obtain ⟨h1, h2, h3⟩ := ih.1 h
        refine ⟨h1, fun i k c hi => ?_, fun i j k m c d hij hi hj => ?_⟩
        · cases i with
          | zero => simp at hi
          | succ i => exact h2 i k c (by simpa using hi)
        · cases i with
          | zero => simp at hi
          | succ i =>
            cases j with
            | zero => omega
            | succ j => exact h3 i j k m c d (by omega) (by simpa using hi) (by simpa using hj)
      | some k0 =>
        obtain ⟨g1, g2, g3⟩ := h
        obtain ⟨h1, h2, h3⟩ := ih.1 g3
        refine ⟨by omega, fun i k c hi => ?_, fun i j k m c d hij hi hj => ?_⟩
        · cases i with
          | zero => simp at hi; obtain ⟨rfl, rfl⟩ := hi; exact ⟨g1, g2⟩
          | succ i => obtain ⟨x, y⟩ := h2 i k c (by simpa using hi); exact ⟨by omega, y⟩
        · cases j with
          | zero => omega
          | succ j =>
            have hj' := h2 j m d (by simpa using hj)
            cases i with
            | zero => simp at hi; obtain ⟨rfl, rfl⟩ := hi; omega
            | succ i => exact h3 i j k m c d (by omega) (by simpa using hi) (by simpa using hj)
    · rintro ⟨h1, h2, h3⟩
      have t2 : ∀ (i k : Nat) (c : Int), r[i]? = some (c, some k) → a ≤ k ∧ s[k]? = some c := fun i k c hi => h2 (i + 1) k c (by simpa using hi)
      have t3 : ∀ (i j k m : Nat) (c d : Int), i < j → r[i]? = some (c, some k) → r[j]? = some (d, some m) → k < m := fun i j k m c d hij hi hj => h3 (i + 1) (j + 1) k m c d (by omega) (by simpa using hi) (by simpa using hj)
      cases k0 with
      | none => exact ih.2 ⟨h1, t2, t3⟩
      | some k0 =>
        obtain ⟨g1, g2⟩ := h2 0 k0 c0 (by simp)
        have hlt : k0 < s.length := by have := (List.getElem?_eq_some_iff.1 g2).1; exact this
        refine ⟨g1, g2, ih.2 ⟨by omega, fun i k c hi => ⟨?_, (t2 i k c hi).2⟩, t3⟩⟩
        have := h3 0 (i + 1) k0 k c0 c (by omega) (by simp) (by simpa using hi)
        omega
/-- The sources in s of a text whose sources in t are known. -/
def thru (z1 z2 : List (Int × Option Nat)) : List (Int × Option Nat) := z2.map fun z => (z.1, z.2.bind fun k => (z1[k]?).bind Prod.snd)
theorem thru_fst (z1 z2 : List (Int × Option Nat)) : (thru z1 z2).map Prod.fst = z2.map Prod.fst := by unfold thru; rw [List.map_map]; rfl
theorem thru_src {s t : List Int} {z1 z2 : List (Int × Option Nat)} (h1 : Src s 0 z1) (ht : z1.map Prod.fst = t) (h2 : Src t 0 z2) : Src s 0 (thru z1 z2) := by
  obtain ⟨_, a2, a3⟩ := src_iff.1 h1
  obtain ⟨_, b2, b3⟩ := src_iff.1 h2
  have get : ∀ (i k : Nat) (c : Int), (thru z1 z2)[i]? = some (c, some k) → ∃ m, z2[i]? = some (c, some m) ∧ z1[m]? = some (c, some k) := by
    intro i k c hi
    unfold thru at hi
    rw [List.getElem?_map] at hi
    cases hz : z2[i]? with
    | none => simp [hz] at hi
    | some z =>
      obtain ⟨c2, m⟩ := z
      rw [hz] at hi
      simp only [Option.map_some, Option.some.injEq, Prod.mk.injEq] at hi
      obtain ⟨rfl, hm⟩ := hi
      cases m with
      | none => simp at hm
      | some m =>
        refine ⟨m, rfl, ?_⟩
        simp only [Option.bind_some] at hm
        cases hz1 : z1[m]? with
        | none => simp [hz1] at hm
        | some y =>
          obtain ⟨c1, k1⟩ := y
          rw [hz1] at hm
          simp only [Option.bind_some] at hm
          subst hm
          have hb := (b2 i m c2 hz).2
          rw [← ht, List.getElem?_map, hz1] at hb
          simp at hb
          rw [hb]
  refine src_iff.2 ⟨Nat.zero_le _, fun i k c hi => ?_, fun i j k m c d hij hi hj => ?_⟩
  · obtain ⟨m, _, hm⟩ := get i k c hi
    exact a2 m k c hm
  · obtain ⟨x, hx, hx1⟩ := get i k c hi
    obtain ⟨y, hy, hy1⟩ := get j m d hj
    exact a3 x y k m c d (b3 i j x y c d hij hx hy) hx1 hy1
/-- The composition, before its size is looked at. -/
def cmpl (s : List Int) (a b : List Ee) : List Ee := norml s (canon s.length 0 [] (thru (srcl s 0 a) (srcl (appl s 0 a) 0 b)))
/-- Composition leads to the same text as both lists, one after the other. -/
theorem cmpl_appl {s : List Int} {a b : List Ee} (ha : Vld s.length 0 a) (hb : Vld (appl s 0 a).length 0 b) : Vld s.length 0 (cmpl s a b) ∧ appl s 0 (cmpl s a b) = appl (appl s 0 a) 0 b := by
  have hs := thru_src (srcl_src ha) (srcl_fst s a 0) (srcl_src hb)
  have hv := canon_vld (x := []) hs
  refine ⟨norml_vld hv, ?_⟩
  unfold cmpl
  rw [norml_appl hv, canon_appl hs, thru_fst, srcl_fst]
  rfl

end Go.Proofs.YtkehgoailhpenaaGreat

/- The mathematics of Compose: a list composed with its inverse has the empty normal form. It has no conditions. -/
namespace Go.Proofs.YtkehgoailhpenaaGreat
open Go.RowKit
set_option linter.unusedVariables false

/-- The bytes of s from i on; those with a source lie where they lay. -/
def Stay (s : List Int) : Nat → List (Int × Option Nat) → Prop
  | i, [] => i = s.length
  | i, (c, none) :: r => s[i]? = some c ∧ Stay s (i + 1) r
  | i, (c, some k) :: r => k = i ∧ s[i]? = some c ∧ Stay s (i + 1) r
theorem canon_stay {s : List Int} : ∀ {r : List (Int × Option Nat)} {a : Nat} {x : List Int}, Stay s (a + x.length) r → (s.drop a).take x.length = x → ∀ e ∈ canon s.length a x r, Chg s e = false := by
  intro r
  induction r with
  | nil =>
    intro a x h hx e he
    have h0 : a + x.length = s.length := h
    simp only [canon] at he
    split at he
    · simp only [List.mem_singleton] at he
      subst he
      unfold Chg
      simp only [decide_eq_false_iff_not, ne_eq, Classical.not_not]
      rw [show s.length - a = x.length by omega]; exact hx
    · simp at he
  | cons z r ih =>
    intro a x h hx e he
    obtain ⟨c, k⟩ := z
    cases k with
    | none =>
      obtain ⟨h1, h2⟩ := h
      refine ih (a := a) (x := x ++ [c]) (by rw [List.length_append]; exact h2) ?_ e he
      rw [List.length_append, List.length_singleton, List.take_add_one, hx, List.getElem?_drop, h1]
      rfl
    | some k =>
      obtain ⟨rfl, h1, h2⟩ := h
      have hrest := ih (a := a + x.length + 1) (x := []) (by simpa using h2) (by simp)
      simp only [canon] at he
      split at he
      · rcases List.mem_cons.1 he with rfl | he
        · unfold Chg
          simp only [decide_eq_false_iff_not, ne_eq, Classical.not_not, Nat.add_sub_cancel_left]
          exact hx
        · exact hrest e he
      · exact hrest e he
theorem canon_sep {s : List Int} : ∀ {r : List (Int × Option Nat)} {a : Nat} {x : List Int}, Src s a r → Sep (canon s.length a x r) := by
  intro r
  induction r with
  | nil => intro a x h; simp only [canon]; split <;> simp [Sep]
  | cons z r ih =>
    intro a x h
    obtain ⟨c, k⟩ := z
    cases k with
    | none => exact ih h
    | some k =>
      obtain ⟨h1, h2, h3⟩ := h
      simp only [canon]
      split
      · refine ⟨fun e he => ?_, ih h3⟩
        have := (canon_vld (x := []) h3).mem e he
        show k < e.f
        omega
      · exact ih h3
theorem stay_piece {s : List Int} {r : List (Int × Option Nat)} (f : Nat → Option Nat) : ∀ (n p q : Nat) (t : List Int), (∀ i, i < n → t[q + i]? = s[p + i]? ∧ (f (q + i) = none ∨ f (q + i) = some (p + i))) → q + n ≤ t.length → Stay s (p + n) r →
    Stay s p (((((t.drop q).take n).zipIdx q).map fun z => (z.1, f z.2)) ++ r) := by
  intro n
  induction n with
  | zero => intro p q t _ _ h; simpa using h
  | succ n ih =>
    intro p q t ht hq h
    have h0 := ht 0 (by omega)
    rw [Nat.add_zero, Nat.add_zero] at h0
    rw [List.drop_eq_getElem_cons (by omega), List.take_succ_cons, List.zipIdx_cons, List.map_cons, List.cons_append]
    have hs : s[p]? = some (t[q]'(by omega)) := by rw [← h0.1, List.getElem?_eq_getElem (by omega)]
    have hi := ih (p + 1) (q + 1) t (fun i hi => by have := ht (i + 1) (by omega); rwa [show q + (i + 1) = q + 1 + i by omega, show p + (i + 1) = p + 1 + i by omega] at this) (by omega) (by rwa [show p + 1 + n = p + (n + 1) by omega])
    simp only
    rcases h0.2 with hf | hf
    · rw [hf]; exact ⟨hs, hi⟩
    · rw [hf]; exact ⟨rfl, hs, hi⟩

theorem stay_new {s : List Int} {r : List (Int × Option Nat)} : ∀ (x : List Int) (i : Nat), (∀ j, j < x.length → s[i + j]? = x[j]?) → Stay s (i + x.length) r → Stay s i (x.map (fun c => ((c, none) : Int × Option Nat)) ++ r) := by
  intro x
  induction x with
  | nil => intro i _ h; simpa using h
  | cons c x ih =>
    intro i hx h
    refine ⟨by simpa using hx 0 (by simp), ih (i + 1) (fun j hj => ?_) (by rwa [List.length_cons, show i + (x.length + 1) = i + 1 + x.length by omega] at h)⟩
    have := hx (j + 1) (by simp; omega)
    rw [show i + (j + 1) = i + 1 + j by omega] at this
    simpa using this
theorem piece_at (x : List Int) : ∀ (p i : Nat), ((x.zipIdx p).map fun z => ((z.1, some z.2) : Int × Option Nat))[i]? = (x[i]?).map fun c => (c, some (p + i)) := by
  induction x with
  | nil => intro p i; simp
  | cons c x ih =>
    intro p i
    rw [List.zipIdx_cons, List.map_cons]
    cases i with
    | zero => simp
    | succ i => simp only [List.getElem?_cons_succ]; rw [ih (p + 1) i]; congr 1; funext c; congr 2; omega
theorem thru_append (z a b : List (Int × Option Nat)) : thru z (a ++ b) = thru z a ++ thru z b := by unfold thru; rw [List.map_append]
theorem thru_piece (z : List (Int × Option Nat)) (x : List Int) (q : Nat) : thru z ((x.zipIdx q).map fun y => (y.1, some y.2)) = (x.zipIdx q).map fun y => (y.1, (z[y.2]?).bind Prod.snd) := by
  unfold thru
  rw [List.map_map]
  rfl
theorem thru_none (z : List (Int × Option Nat)) (x : List Int) : thru z (x.map fun c => (c, none)) = x.map fun c => (c, none) := by
  unfold thru
  rw [List.map_map]
  rfl
/-- The bytes of the text, seen through the edits and their inverse, lie where they lay. -/
theorem stay_inv {s : List Int} : ∀ {l : List Ee} {p q : Nat} {pre z1 : List (Int × Option Nat)}, Vld s.length p l → pre.length = q → z1 = pre ++ srcl s p l → Stay s p (thru z1 (srcl (z1.map Prod.fst) q (invl s p q l))) := by
  have key : ∀ {z1 pre r : List (Int × Option Nat)} {q p n : Nat}, pre.length = q → p + n ≤ s.length → z1 = pre ++ (((((s.drop p).take n).zipIdx p).map fun z => (z.1, some z.2)) ++ r) →
      ∀ i, i < n → (z1.map Prod.fst)[q + i]? = s[p + i]? ∧ ((z1[q + i]?).bind Prod.snd = none ∨ (z1[q + i]?).bind Prod.snd = some (p + i)) := by
    intro z1 pre r q p n hq hpn hz i hi
    have hl : (((s.drop p).take n).zipIdx p |>.map fun z => ((z.1, some z.2) : Int × Option Nat)).length = n := by
      rw [List.length_map, List.length_zipIdx, List.length_take, List.length_drop]; omega
    have hg : s[p + i]? = some (s[p + i]'(by omega)) := List.getElem?_eq_getElem (by omega)
    have h1 : z1[q + i]? = some (s[p + i]'(by omega), some (p + i)) := by
      rw [hz, List.getElem?_append_right (by omega), hq, Nat.add_sub_cancel_left, List.getElem?_append_left (by omega), piece_at, List.getElem?_take, if_pos hi, List.getElem?_drop, hg]
      rfl
    rw [List.getElem?_map, h1, hg]
    exact ⟨rfl, .inr rfl⟩
  intro l
  induction l with
  | nil =>
    intro p q pre z1 h hq hz
    have hp : p ≤ s.length := h
    have hz2 : z1 = pre ++ (((((s.drop p).take (s.length - p)).zipIdx p).map fun z => (z.1, some z.2)) ++ []) := by
      rw [hz, List.append_nil, List.take_of_length_le (by rw [List.length_drop]; exact Nat.le_refl _)]; rfl
    have hlen : (z1.map Prod.fst).length = q + (s.length - p) := by
      rw [hz2, List.length_map, List.length_append, List.length_append, List.length_map, List.length_zipIdx, List.length_take, List.length_drop, hq]; simp
    simp only [invl, srcl]
    rw [thru_piece]
    have hs := stay_piece (s := s) (r := []) (fun k => (z1[k]?).bind Prod.snd) (s.length - p) p q (z1.map Prod.fst) (key hq (by omega) hz2) (by omega) (by show p + (s.length - p) = s.length; omega)
    rw [List.append_nil, List.take_of_length_le (by rw [List.length_drop]; omega)] at hs
    exact hs
  | cons e l ih =>
    intro p q pre z1 h hq hz
    obtain ⟨h1, h2, h3, h4⟩ := h
    have hm := mid_len (s := s) h1 (by omega)
    have hz2 : z1 = pre ++ (((((s.drop p).take (e.f - p)).zipIdx p).map fun z => (z.1, some z.2)) ++ (e.x.map (fun c => (c, none)) ++ srcl s e.t l)) := hz
    have hlen : q + (e.f - p) ≤ (z1.map Prod.fst).length := by
      rw [hz2, List.length_map, List.length_append, List.length_append, List.length_map, List.length_zipIdx, hm, hq]; omega
    have hi := ih (p := e.t) (q := q + (e.f - p) + e.x.length) (pre := pre ++ ((((s.drop p).take (e.f - p)).zipIdx p |>.map fun z => (z.1, some z.2)) ++ e.x.map (fun c => (c, none)))) (z1 := z1) h4
      (by rw [List.length_append, List.length_append, List.length_map, List.length_map, List.length_zipIdx, hm, hq]; omega) (by rw [hz2]; simp)
    simp only [invl, srcl, Nat.add_sub_cancel_left]
    rw [thru_append, thru_append, thru_piece, thru_none]
    refine stay_piece (fun k => (z1[k]?).bind Prod.snd) (e.f - p) p q _ (key hq (by omega) hz2) hlen ?_
    rw [show p + (e.f - p) = e.f by omega]
    refine stay_new _ _ (fun j hj => ?_) ?_
    · rw [mid_len h2 h3] at hj
      rw [List.getElem?_take, if_pos hj, List.getElem?_drop]
    · rw [mid_len h2 h3, show e.f + (e.t - e.f) = e.t by omega]
      exact hi
/-- A list composed with its inverse gives the empty list. -/
theorem cmpl_inv {s : List Int} {l : List Ee} (h : Vld s.length 0 l) : cmpl s l (invl s 0 0 l) = [] := by
  have hst := stay_inv (pre := []) (z1 := srcl s 0 l) h rfl rfl
  rw [srcl_fst] at hst
  have hv : Vld (appl s 0 l).length 0 (invl s 0 0 l) := by have := invl_vld (q := 0) h; rwa [Nat.zero_add] at this
  have hsrc := thru_src (srcl_src h) (srcl_fst s l 0) (srcl_src hv)
  unfold cmpl norml
  rw [joinl_of_sep (canon_sep (x := []) hsrc), List.filter_eq_nil_iff]
  intro e he
  rw [canon_stay (a := 0) (x := []) (by simpa using hst) (by simp) e he]
  decide

end Go.Proofs.YtkehgoailhpenaaGreat

/- Lists of edits by offsets in memory, and edits as they come in. It has no conditions. -/
namespace Go.Proofs.YtkehgoailhpenaaGreat
open Go.RowKit Go.Shelf
set_option linter.unusedVariables false

/-! Bytes of texts. -/
theorem sb_cut (s : ByteArray) (f t : Nat) : sb (s.extract f t) = ((sb s).drop f).take (t - f) := by
  simp only [sb, ByteArray.data_extract, Array.toList_extract, List.map_take, List.map_drop, List.extract_eq_take_drop]
theorem sb_add (a b : ByteArray) : sb (a ++ b) = sb a ++ sb b := by simp [sb, ByteArray.data_append]
theorem bs_sb (s : ByteArray) : bs (sb s) = s := by
  unfold bs sb
  rw [List.map_map]
  have : ((fun c : Int => UInt8.ofNat c.toNat) ∘ fun c : UInt8 => (c.toNat : Int)) = id := by funext c; simp
  rw [this, List.map_id]
theorem sb_inj {a b : ByteArray} (h : sb a = sb b) : a = b := by rw [← bs_sb a, ← bs_sb b, h]
theorem bs_add {a b : List Int} : bs (a ++ b) = bs a ++ bs b := by
  apply ByteArray.ext; simp [bs, ByteArray.data_append]
theorem bs_cut (s : ByteArray) (f t : Nat) : bs (((sb s).drop f).take (t - f)) = s.extract f t := by rw [← sb_cut, bs_sb]

/-! Edits as they come in. -/
def Er.vals (e : Er) : List Value := [.int .i64 e.f, .int .i64 e.t, .string e.x]
structure Er.Fit (e : Er) : Prop where
  f1 : -9223372036854775808 ≤ e.f
  f2 : e.f ≤ 9223372036854775807
  t1 : -9223372036854775808 ≤ e.t
  t2 : e.t ≤ 9223372036854775807
  x : e.x.size ≤ 100000
def dE : Er := ⟨0, 0, ⟨#[]⟩⟩
def eg (es : List Er) (k : Nat) : Er := es[k]?.getD dE
theorem eg_eq {es : List Er} {k : Nat} (h : k < es.length) : es[k]? = some (eg es k) := by simp [eg, List.getElem?_eq_getElem h]
theorem eg_drop {es : List Er} {k : Nat} (h : k < es.length) : es.drop k = eg es k :: es.drop (k + 1) := by
  rw [List.drop_eq_getElem_cons h]; simp [eg, List.getElem?_eq_getElem h]
theorem eg_mem {es : List Er} {k : Nat} (h : k < es.length) : eg es k ∈ es := List.mem_of_getElem? (eg_eq h)
theorem eg_left {es ys : List Er} {k : Nat} (h : k < es.length) : eg (es ++ ys) k = eg es k := by simp [eg, List.getElem?_append_left h]
theorem take_eg {es : List Er} {k : Nat} (h : k < es.length) : es.take (k + 1) = es.take k ++ [eg es k] := by rw [List.take_add_one, eg_eq h]; rfl

/-- The cells of edits, one after the other. -/
def rv (es : List Er) : List Value := es.flatMap Er.vals
theorem rv_nil : rv [] = [] := rfl
theorem rv_cons (e : Er) (es : List Er) : rv (e :: es) = e.vals ++ rv es := rfl
theorem rv_add (a b : List Er) : rv (a ++ b) = rv a ++ rv b := by simp [rv]
theorem rv_snoc (a : List Er) (e : Er) : rv (a ++ [e]) = rv a ++ e.vals := by simp [rv]
theorem rv_len (es : List Er) : (rv es).length = es.length * 3 := by
  induction es with
  | nil => rfl
  | cons e es ih => rw [rv_cons, List.length_append, ih]; simp [Er.vals]; omega
theorem rv_get : ∀ (es : List Er) (k i : Nat), k < es.length → i < 3 → (rv es)[k * 3 + i]? = (eg es k).vals[i]? := by
  intro es
  induction es with
  | nil => intro k i h; simp at h
  | cons e es ih =>
    intro k i hk hi
    rw [rv_cons]
    cases k with
    | zero => rw [List.getElem?_append_left (by simp [Er.vals]; omega)]; simp [eg]
    | succ k =>
      rw [List.getElem?_append_right (by simp [Er.vals]; omega), show (k + 1) * 3 + i - e.vals.length = k * 3 + i by simp [Er.vals]; omega, ih k i (by simpa using hk) hi]
      simp [eg]

/-- The edits' cells lie in memory, below block B. -/
def RC (B : Nat) (w : World) (a : Option Addr) (es : List Er) : Prop :=
  es.length = 0 ∨ ∃ b off, a = some ⟨b, off, none⟩ ∧ b < B ∧ ∀ k, k < es.length → ∀ i, i < 3 → w.cell? ⟨b, off + k * 3 + i, none⟩ = (eg es k).vals[i]?
/-- A slice of edits lies in memory, below block B. -/
structure ES (B : Nat) (w : World) (a : Option Addr) (cap : Nat) (es : List Er) : Prop where
  le : es.length ≤ cap
  mx : cap ≤ 9223372036854775807
  nil : a = none → es.length = 0
  cells : RC B w a es
theorem ES.keep {B : Nat} {w w' : World} {a : Option Addr} {cap : Nat} {es : List Er} (h : ES B w a cap es) (hb : ∀ b, b < B → w'.heap[b]? = w.heap[b]?) : ES B w' a cap es := by
  refine ⟨h.le, h.mx, h.nil, ?_⟩
  rcases h.cells with h0 | ⟨b, off, ha, hlt, hc⟩
  · exact .inl h0
  · refine .inr ⟨b, off, ha, hlt, fun k hk i hi => ?_⟩
    rw [← hc k hk i hi]
    simp only [World.cell?, hb b hlt]
theorem ES.below {B : Nat} {w w' : World} {a : Option Addr} {cap : Nat} {es : List Er} (h : ES B w a cap es) (hb : Below B w w') : ES B w' a cap es := h.keep hb.block
theorem ES.mono {B B' : Nat} {w : World} {a : Option Addr} {cap : Nat} {es : List Er} (h : ES B w a cap es) (hb : B ≤ B') : ES B' w a cap es := by
  refine ⟨h.le, h.mx, h.nil, ?_⟩
  rcases h.cells with h0 | ⟨b, off, ha, hlt, hc⟩
  · exact .inl h0
  · exact .inr ⟨b, off, ha, by omega, hc⟩
theorem ES.on {w w' : World} {a : Option Addr} {cap : Nat} {es : List Er} (h : ES w.heap.size w a cap es) (hb : Below w.heap.size w w') : ES w'.heap.size w' a cap es := (h.below hb).mono hb.size
theorem ES.none (B : Nat) (w : World) : ES B w none 0 [] := ⟨by simp, by omega, fun _ => by simp, .inl rfl⟩
theorem RC.core {B : Nat} {w : World} {a : Option Addr} {es : List Er} (h : RC B w a es) :
    ∃ b off, (es.length = 0 ∨ (a = some ⟨b, off, none⟩ ∧ b < B)) ∧ ∀ k, k < es.length → ∀ W : World, W.heap[b]? = w.heap[b]? →
      W.cell? ⟨b, off + k * 3, none⟩ = some (.int .i64 (eg es k).f) ∧ W.cell? ⟨b, off + k * 3 + 1, none⟩ = some (.int .i64 (eg es k).t) ∧ W.cell? ⟨b, off + k * 3 + 2, none⟩ = some (.string (eg es k).x) := by
  rcases h with h0 | ⟨b, off, ha, hlt, hc⟩
  · exact ⟨0, 0, .inl h0, fun k hk => by omega⟩
  · refine ⟨b, off, .inr ⟨ha, hlt⟩, fun k hk W hW => ?_⟩
    have hh : ∀ i, i < 3 → W.cell? ⟨b, off + k * 3 + i, none⟩ = (eg es k).vals[i]? := by
      intro i hi; rw [← hc k hk i hi]; simp only [World.cell?, hW]
    exact ⟨hh 0 (by omega), hh 1 (by omega), hh 2 (by omega)⟩

theorem infoEd : (Tryz.prog.info? 84).map (fun i => (i.zero, i.size, i.bytes)) = some (some (.agg #[.int .i64 0, .int .i64 0, .string ⟨#[]⟩]), 3, 32) := by kernel_rfl
theorem es_of_own {w : World} {lo n : Nat} {v : Value} {es : List Er} (h : w.ownsRow lo 84 3 v n (rv es)) : n = es.length ∧ ∃ a cap, v = .slice a es.length cap ∧ ES w.heap.size w a cap es := by
  obtain ⟨a, cap, rfl⟩ := own_slice h
  have hn : n = es.length := by have := h.1; rw [rv_len] at this; omega
  subst hn
  refine ⟨rfl, a, cap, rfl, ?_⟩
  rcases h.2 with ⟨hv, h0⟩ | ⟨g, cp, cur, hv, _, hg, h1, h2, _, _⟩
  · simp only [Value.slice.injEq] at hv
    obtain ⟨rfl, _, rfl⟩ := hv
    exact ⟨by omega, by omega, fun _ => h0, .inl h0⟩
  · simp only [Value.slice.injEq, true_and] at hv
    obtain ⟨rfl, rfl⟩ := hv
    refine ⟨h1, by unfold maxLen at h2; omega, (fun h => by cases h), .inr ⟨g, 0, rfl, (Array.getElem?_eq_some_iff.1 hg).1, fun j hj i hi => ?_⟩⟩
    rw [Nat.zero_add, h.cellAt (j * 3 + i) (by omega)]
    exact rv_get es j i hj hi

/-- A call hands back a slice of these edits and an error. -/
def NewES (w : World) (es : List Er) (er : Int) (e : Ending) (w' : World) : Prop :=
  ∃ a cap, e = .returned (.tuple #[.slice a es.length cap, .int .i64 er]) ∧ ES w'.heap.size w' a cap es ∧ Below w.heap.size w w'
/-- A call hands back a slice of these edits. -/
def NewE1 (w : World) (es : List Er) (e : Ending) (w' : World) : Prop :=
  ∃ a cap, e = .returned (.slice a es.length cap) ∧ ES w'.heap.size w' a cap es ∧ Below w.heap.size w w'

/-! From edits as they come in to edits by offsets, and back. -/
def ees (es : List Er) : List Ee := es.map fun e => e.ee sb
def er (e : Ee) : Er := ⟨e.f, e.t, bs e.x⟩
def ers (l : List Ee) : List Er := l.map er
theorem ers_len (l : List Ee) : (ers l).length = l.length := by simp [ers]
theorem ees_len (l : List Er) : (ees l).length = l.length := by simp [ees]
theorem ees_ers {l : List Ee} (h : ∀ e ∈ l, Byt e.x) : ees (ers l) = l := by
  unfold ees ers
  rw [List.map_map]
  conv => rhs; rw [← List.map_id l]
  refine List.map_congr_left fun e he => ?_
  obtain ⟨f, t, x⟩ := e
  simp only [Function.comp, er, Er.ee, sb_bs (h _ he), Int.toNat_natCast, id]
theorem ees_cons (e : Er) (l : List Er) : ees (e :: l) = e.ee sb :: ees l := rfl
theorem ees_drop (es : List Er) (k : Nat) : ees (es.drop k) = (ees es).drop k := by simp [ees, List.map_drop]
theorem ees_byt (es : List Er) : ∀ e ∈ ees es, Byt e.x := by
  intro e he
  obtain ⟨x, _, rfl⟩ := List.mem_map.1 he
  exact sb_byt _
theorem vErr_ok {n : Nat} {es : List Er} (h : vErr (n : Int) es = 0) : es.length ≤ 64 ∧ Vld n 0 (ees es) ∧ ∀ e ∈ es, 0 ≤ e.f ∧ e.f ≤ e.t ∧ e.t ≤ (n : Int) := by
  unfold vErr at h
  split at h
  · omega
  · have := vE_ok sb (n := n) (p := 0) h (by omega)
    exact ⟨by omega, this.1, this.2⟩
theorem vErr_ways (n : Int) (es : List Er) : vErr n es = 0 ∨ vErr n es = 1 ∨ vErr n es = 4 ∨ vErr n es = 5 := by
  unfold vErr
  split
  · simp
  · rcases vE_ways n es 0 with h | h | h <;> simp [h]
theorem vErr_ers {n : Nat} {l : List Ee} (h : Vld n 0 l) (hl : l.length ≤ 64) (hb : ∀ e ∈ l, Byt e.x) : vErr (n : Int) (ers l) = 0 := by
  unfold vErr
  rw [if_neg (by rw [ers_len]; omega)]
  refine vE_of_vld sb (p := 0) (fun e he => ?_) ?_
  · obtain ⟨x, _, rfl⟩ := List.mem_map.1 he
    exact ⟨Int.natCast_nonneg _, Int.natCast_nonneg _⟩
  · rw [show (ers l).map (fun e => e.ee sb) = ees (ers l) from rfl, ees_ers hb]; exact h
theorem appl_byt {s : List Int} (hs : Byt s) : ∀ {l : List Ee} {p : Nat}, (∀ e ∈ l, Byt e.x) → Byt (appl s p l) := by
  intro l
  induction l with
  | nil => intro p _; exact hs.drop p
  | cons e l ih =>
    intro p h c hc
    simp only [appl, List.mem_append] at hc
    rcases hc with hc | hc | hc
    · exact (hs.drop p).take _ c hc
    · exact h e (by simp) c hc
    · exact ih (fun x hx => h x (by simp [hx])) c hc
/-- The new text, or the empty one if the edits are not valid. -/
def apS (s : ByteArray) (es : List Er) : ByteArray := if vErr (s.size : Int) es = 0 then bs (appl (sb s) 0 (ees es)) else ⟨#[]⟩
theorem apS_ok {s : ByteArray} {es : List Er} (h : vErr (s.size : Int) es = 0) : sb (apS s es) = appl (sb s) 0 (ees es) := by
  unfold apS
  rw [if_pos h, sb_bs (appl_byt (sb_byt s) (ees_byt es))]
theorem apS_bad {s : ByteArray} {es : List Er} (h : vErr (s.size : Int) es ≠ 0) : apS s es = ⟨#[]⟩ := by unfold apS; rw [if_neg h]

end Go.Proofs.YtkehgoailhpenaaGreat

/- The contracts of the program's validFor and Valid. Conditions: texts of at most 10000000 bytes, lists of at most 1000 edits of 64-bit numbers. -/
namespace Go.Proofs.YtkehgoailhpenaaGreat
open Go.RowKit Go.Shelf
set_option linter.unusedVariables false

set_option maxRecDepth 100000 in
set_option maxHeartbeats 1000000 in
theorem vfor_any (z : Int) (a : Option Addr) (cap : Nat) (es : List Er) (w : World) (hz : 0 ≤ z) (hz2 : z ≤ 9223372036854775807) (hn : es.length ≤ 1000) (hfit : ∀ e ∈ es, e.Fit) (hS : ES w.heap.size w a cap es) :
    Calls Tryz.prog 70 #[.int .i64 z, .slice a es.length cap] w fun e w' => e = .returned (.int .i64 (vErr z es)) ∧ Below w.heap.size w w' := by
  obtain ⟨n, hn'⟩ : ∃ n, es.length = n := ⟨_, rfl⟩
  obtain ⟨R, hR⟩ : ∃ R, vErr z es = R := ⟨_, rfl⟩
  have hcap := hS.le
  rw [hR]
  rw [hn'] at hn hcap ⊢
  obtain ⟨B, hB⟩ : ∃ B, w.heap.size = B := ⟨_, rfl⟩
  by_cases hlim : 64 < n
  · have hl2 : (64 : Int) < (n : Int) := by omega
    have hRv : R = 4 := by rw [← hR]; unfold vErr; rw [if_pos (by omega)]
    clear hS hfit hR
    go_enter Tryz.func70, Tryz.ntmps70
    go_wp2
    go_ret
    exact ⟨by first | rfl | (rw [hRv]; rfl), Below.refl _ _⟩
  · have hl2 : ¬ (64 : Int) < (n : Int) := by omega
    have hRv : vE z 0 es = R := by rw [← hR]; unfold vErr; rw [if_neg (by omega)]
    obtain ⟨b, off, hab, hcell⟩ := hS.cells.core
    rw [hn'] at hab hcell
    rw [hB] at hab
    have HE := Lib.hid hn'; have HAB := Lib.hid hab; have HC := Lib.hid hcell; have HB := Lib.hid hB; have HF := Lib.hid hfit
    have H0 : Hid (vE z 0 (es.drop 0) = R) := hRv
    clear hS hfit hR hRv hab hcell hB hn'
    go_enter Tryz.func70, Tryz.ntmps70
    go_wp2_with fail
    go_loopw [5, 13] (fun u q wr => ∃ (k : Nat) (p : Int), k ≤ n ∧ u = .int .i64 p ∧ q = .int .i64 (k : Int) ∧ Hid (vE z p (es.drop k) = R) ∧ Hid (Below B w wr)) (fun _ q _ => n - (intOf q).toNat)
    case atStart => exact ⟨0, 0, by omega, rfl, rfl, H0, Below.refl _ _⟩
    case round =>
      obtain ⟨k, p, hk, rfl, rfl, HI, HR⟩ := hrel
      by_cases hlt : k < n
      · obtain ⟨ha, hbB⟩ := HAB.out.resolve_left (by omega)
        subst ha
        obtain ⟨c0, c1, c2⟩ := HC.out k hlt wr (HR.out.block b hbB)
        have hkk : (k : Int) < (n : Int) := by omega
        have hBr : B ≤ wr.heap.size := by have := HR.out.size; have := HB.out; omega
        have hstep := HI.out
        rw [eg_drop (by rw [HE.out]; exact hlt)] at hstep
        simp only [vE] at hstep
        obtain ⟨fit1, fit2, fit3, fit4, _⟩ := HF.out _ (eg_mem (es := es) (k := k) (by rw [HE.out]; exact hlt))
        obtain ⟨x, hx⟩ : ∃ x, (eg es k).f = x := ⟨_, rfl⟩
        obtain ⟨y, hy⟩ : ∃ y, (eg es k).t = y := ⟨_, rfl⟩
        obtain ⟨s, hs⟩ : ∃ s, (eg es k).x = s := ⟨_, rfl⟩
        rw [hx, hy] at hstep
        rw [hx] at c0 fit1 fit2
        rw [hy] at c1 fit3 fit4
        rw [hs] at c2
        have HA := Lib.hid (HR.out.alloc hBr (.cells #[.int .i64 x, .int .i64 y, .string s] 84))
        by_cases h1 : x < 0
        · have hr : R = 5 := by rw [← hstep, if_pos (.inl h1)]
          clear hstep hx hy hs
          go_wp2
          go_ret
          exact ⟨by first | rfl | (rw [hr]; rfl), by rw [HB.out]; exact HA.out⟩
        · by_cases h2 : y < x
          · have hr : R = 5 := by rw [← hstep, if_pos (.inr (.inl h2))]
            clear hstep hx hy hs
            go_wp2
            go_ret
            exact ⟨by first | rfl | (rw [hr]; rfl), by rw [HB.out]; exact HA.out⟩
          · by_cases h3 : z < y
            · have hr : R = 5 := by rw [← hstep, if_pos (.inr (.inr h3))]
              clear hstep hx hy hs
              go_wp2
              go_ret
              exact ⟨by first | rfl | (rw [hr]; rfl), by rw [HB.out]; exact HA.out⟩
            · by_cases h4 : x < p
              · have hr : R = 1 := by rw [← hstep, if_neg (by omega), if_pos h4]
                clear hstep hx hy hs
                go_wp2
                go_ret
                exact ⟨by first | rfl | (rw [hr]; rfl), by rw [HB.out]; exact HA.out⟩
              · have HR2 : Hid (vE z y (es.drop (k + 1)) = R) := by rw [← hstep, if_neg (by omega), if_neg h4]; exact rfl
                clear hstep hx hy hs
                go_wp2
                go_roundw
                case rel => exact ⟨k + 1, y, by omega, rfl, by go_num, HR2, HA.out⟩
                case measure => simp [intOf]; omega
      · obtain rfl : n = k := by omega
        have hr : R = 0 := by rw [← HI.out, List.drop_eq_nil_of_le (by rw [HE.out]; omega)]; rfl
        go_wp2
        go_ret
        exact ⟨by first | rfl | (rw [hr]; rfl), by rw [HB.out]; exact HR.out⟩

set_option maxRecDepth 100000 in
theorem pvalid_any (s : ByteArray) (a : Option Addr) (cap : Nat) (es : List Er) (w : World) (hs : s.size ≤ 10000000) (hn : es.length ≤ 1000) (hfit : ∀ e ∈ es, e.Fit) (hS : ES w.heap.size w a cap es) :
    Calls Tryz.prog 52 #[.string s, .slice a es.length cap] w fun e w' => e = .returned (.int .i64 (vErr (s.size : Int) es)) ∧ Below w.heap.size w w' := by
  have C := Lib.hid (vfor_any (s.size : Int) a cap es w (by omega) (by omega) hn hfit hS)
  clear hS hfit
  go_enter Tryz.func52, Tryz.ntmps52
  go_wp2_with fail
  refine C.out.mono ?_
  rintro e w2 ⟨rfl, hb⟩
  go_wp2
  go_ret
  exact ⟨rfl, hb⟩

end Go.Proofs.YtkehgoailhpenaaGreat

/- The contracts of Pick, Raw and Few: the edits that the laws make. Conditions: texts of at most 1000000 bytes. -/
namespace Go.Proofs.YtkehgoailhpenaaGreat
open Go.RowKit Go.Shelf
set_option linter.unusedVariables false

/-- The numbers lie in memory. -/
def SlI (B : Nat) (w : World) (a : Option Addr) (n : Nat) : Prop :=
  n = 0 ∨ ∃ b off, a = some ⟨b, off, none⟩ ∧ b < B ∧ ∀ j, j < n → ∃ x : Int, -9223372036854775808 ≤ x ∧ x ≤ 9223372036854775807 ∧ w.cell? ⟨b, off + j, none⟩ = some (.int .i64 x)
theorem SlI.of {w : World} {a : Option Addr} {cap : Nat} {ls : List Int} (h : Sli .i64 w a cap ls) (hi : ∀ n ∈ ls, -9223372036854775808 ≤ n ∧ n ≤ 9223372036854775807) : SlI w.heap.size w a ls.length := by
  rcases h.cells with h0 | ⟨b, off, ha, hb, hc⟩
  · exact .inl (by rw [h0]; rfl)
  · refine .inr ⟨b, off, ha, hb, fun j hj => ?_⟩
    have hm : ls[j]?.getD 0 ∈ ls := by rw [List.getElem?_eq_getElem hj]; exact List.getElem_mem hj
    exact ⟨_, (hi _ hm).1, (hi _ hm).2, hc j hj⟩
theorem SlI.below {B : Nat} {w w' : World} {a : Option Addr} {n : Nat} (h : SlI B w a n) (hb : Below B w w') : SlI B w' a n := by
  rcases h with h0 | ⟨b, off, ha, hlt, hc⟩
  · exact .inl h0
  · exact .inr ⟨b, off, ha, hlt, fun j hj => by
      obtain ⟨x, h1, h2, h3⟩ := hc j hj
      exact ⟨x, h1, h2, (hb.cell (p := ⟨b, off + j, none⟩) hlt).trans h3⟩⟩

set_option maxRecDepth 100000 in
theorem pick_any (B : Nat) (a : Option Addr) (n cap : Nat) (j m : Nat) (w : World) (h : SlI B w a n) (hcap : n ≤ cap) (hcap2 : cap ≤ 9223372036854775807) (hj : j ≤ 1000) (hm : 1 ≤ m) (hm2 : m ≤ 1000000) :
    Calls Tryz.prog 35 #[.slice a n cap, .int .i64 (j : Int), .int .i64 (m : Int)] w (Index m w) := by
  by_cases hlt : j < n
  · rcases h with h0 | ⟨b, off, rfl, _, hc⟩
    · omega
    obtain ⟨x, hx1, hx2, hcx⟩ := hc j hlt
    have hjn : ¬ (n : Int) ≤ (j : Int) := by omega
    have hjn2 : (j : Int) < (n : Int) := by omega
    have C := Lib.hid (fun W => around_any x m W hx1 hx2 hm (by omega))
    clear hc
    go_enter Tryz.func35, Tryz.ntmps35
    go_wp2_with fail
    refine (C.out _).mono ?_
    rintro e w' ⟨k, hk, rfl, rfl⟩
    go_wp2
    go_ret
    exact ⟨k, hk, rfl, rfl⟩
  · have hjn : (n : Int) ≤ (j : Int) := by omega
    go_enter Tryz.func35, Tryz.ntmps35
    go_wp2
    go_ret
    exact ⟨0, by omega, rfl, rfl⟩

/-- Where the last edit ends. -/
def lastT (p : Int) : List Er → Int
  | [] => p
  | e :: l => lastT e.t l
theorem lastT_snoc : ∀ (l : List Er) (p : Int) (e : Er), lastT p (l ++ [e]) = e.t := by
  intro l
  induction l with
  | nil => intro p e; rfl
  | cons x l ih => intro p e; exact ih x.t e
theorem vE_snoc {n : Int} : ∀ {l : List Er} {p : Int} {e : Er}, vE n p l = 0 → 0 ≤ e.f → lastT p l ≤ e.f → e.f ≤ e.t → e.t ≤ n → vE n p (l ++ [e]) = 0 := by
  intro l
  induction l with
  | nil =>
    intro p e _ h0 h1 h2 h3
    simp only [lastT] at h1
    simp only [List.nil_append, vE]
    rw [if_neg (by omega), if_neg (by omega)]
  | cons x l ih =>
    intro p e h h0 h1 h2 h3
    simp only [List.cons_append, vE] at h ⊢
    split at h
    · omega
    · split at h
      · omega
      · rename_i k1 k2
        rw [if_neg k1, if_neg k2]
        exact ih h h0 h1 h2 h3
/-- The words that edits are made of. -/
def wrds : List ByteArray := [⟨#[]⟩, ⟨#[120]⟩, ⟨#[97, 98]⟩, ⟨#[32]⟩, ⟨#[10]⟩, ⟨#[108, 101, 116]⟩, ⟨#[48]⟩, ⟨#[43]⟩, ⟨#[195, 169]⟩, ⟨#[240, 157, 132, 158, 121]⟩, ⟨#[40]⟩, ⟨#[34]⟩, ⟨#[97, 95, 49]⟩]
theorem wrds_ok : ∀ p ∈ wrds, p.size ≤ 5 := by
  have h : (wrds.all fun p => decide (p.size ≤ 5)) = true := by decide +kernel
  intro p hp
  simpa using List.all_eq_true.1 h p hp

/-- A call hands back a slice of its own with valid edits of the text. -/
def Made (s : ByteArray) (Q : Er → Prop) (w : World) (e : Ending) (w' : World) : Prop :=
  ∃ es v, e = .returned v ∧ es.length ≤ 5 ∧ vErr (s.size : Int) es = 0 ∧ (∀ x ∈ es, x.x.size ≤ 7 ∧ Q x) ∧ w'.ownsRow w.heap.size 84 3 v es.length (rv es) ∧ Below w.heap.size w w'

theorem infoEd2 : (Tryz.prog.info? 84).map (fun i => (i.zero, i.size, i.bytes)) = some (some (.agg #[.int .i64 0, .int .i64 0, .string ⟨#[]⟩]), 3, 32) := by kernel_rfl
theorem cells_news (w : World) (xs : List Value) (t : TypeId) : ∀ j u, xs[j]? = some u → (w.alloc (.cells xs.toArray t)).cell? ((⟨w.heap.size, 0, none⟩ : Addr).add j) = some u := by
  intro j u h
  have := (Blk.new w t xs.toArray).cell j
  rw [List.getElem?_toArray, h] at this
  rw [← this]
  congr 1
  by_cases h0 : j = 0 <;> simp [Addr.add, h0]

theorem own_base {w : World} {b b' e size n : Nat} {v : Value} {xs : List Value} (h : w.ownsRow b e size v n xs) (hb : b' ≤ b) : w.ownsRow b' e size v n xs := by
  refine ⟨h.1, ?_⟩
  rcases h.2 with hn | ⟨g, cap, cur, rfl, h1, h2, r⟩
  · exact .inl hn
  · exact .inr ⟨g, cap, cur, rfl, Nat.le_trans hb h1, h2, r⟩

set_option maxRecDepth 100000 in
set_option maxHeartbeats 4000000 in
theorem some_raw (s : ByteArray) (a : Option Addr) (nl cap : Nat) (w : World) (hs : s.size ≤ 1000000) (h : SlI w.heap.size w a nl) (hcap : nl ≤ cap) (hcap2 : cap ≤ 9223372036854775807) :
    Calls Tryz.prog 36 #[.string s, .slice a nl cap, .bool false] w (Made s (fun _ => True) w) := by
  obtain ⟨i3, hi3, jy0, jy1, jy2⟩ := info_parts infoEd2
  obtain ⟨B, hB⟩ : ∃ B, w.heap.size = B := ⟨_, rfl⟩
  rw [hB] at h
  obtain ⟨W1, hW1⟩ : ∃ W, w.alloc (.cells (wrds.map Value.string).toArray 9) = W := ⟨_, rfl⟩
  have hb1 : Below B w W1 := by rw [← hW1, ← hB]; exact (Below.refl _ _).alloc (Nat.le_refl _) _
  have hs1 : W1.heap.size = B + 1 := by rw [← hW1, ← hB]; simp
  have hblk : ∀ q, q < 13 → ∀ W, Below (B + 1) W1 W → ∃ p, W.cell? ⟨B, q, none⟩ = some (.string p) ∧ p.size ≤ 5 := by
    intro q hq W hW
    have hq2 : q < wrds.length := hq
    refine ⟨wrds[q], ?_, wrds_ok _ (List.getElem_mem hq2)⟩
    rw [hW.cell (p := ⟨B, q, none⟩) (by show B < B + 1; omega), ← hW1, ← hB]
    have bk : Blk (w.alloc (.cells (wrds.map Value.string).toArray 9)) w.heap.size 9 (wrds.map Value.string).toArray := Blk.new _ _ _
    rw [bk.cell q]
    simp [hq2]
  have HP : Hid (∀ z y : Int, 0 ≤ z → z ≤ 1000 → 1 ≤ y → y ≤ 1000000 → ∀ W, Below (B + 1) W1 W → Calls Tryz.prog 35 #[.slice a nl cap, .int .i64 z, .int .i64 y] W fun e w' => ∃ k : Nat, (k : Int) < y ∧ e = .returned (.int .i64 (k : Int)) ∧ w' = W) := by
    intro z y h1 h2 h3 h4 W hW
    obtain ⟨j, rfl⟩ : ∃ j : Nat, z = (j : Int) := ⟨z.toNat, by omega⟩
    obtain ⟨m, rfl⟩ : ∃ m : Nat, y = (m : Int) := ⟨y.toNat, by omega⟩
    refine (pick_any B a nl cap j m W (h.below (hb1.trans (hW.mono (by omega)))) hcap hcap2 (by omega) (by omega) (by omega)).mono ?_
    rintro e w' ⟨k, hk, rfl, rfl⟩
    exact ⟨k, by omega, rfl, rfl⟩
  have HB := Lib.hid hB; have HBLK := Lib.hid hblk; have HB1 := Lib.hid hb1; have HW := Lib.hid hW1; have HS1 := Lib.hid hs1
  have H0 : Hid (W1.ownsRow (B + 1) 84 3 (.slice none 0 0) ([] : List Er).length (rv [])) := World.ownsRow_nil _ _ _ _
  clear h hB hblk hb1 hW1 hs1
  go_enter Tryz.func36, Tryz.ntmps36
  go_wp2_with fail
  rw [show w.alloc (.cells #[.string ⟨#[]⟩, .string ⟨#[120]⟩, .string ⟨#[97, 98]⟩, .string ⟨#[32]⟩, .string ⟨#[10]⟩, .string ⟨#[108, 101, 116]⟩, .string ⟨#[48]⟩, .string ⟨#[43]⟩, .string ⟨#[195, 169]⟩, .string ⟨#[240, 157, 132, 158, 121]⟩, .string ⟨#[40]⟩, .string ⟨#[34]⟩, .string ⟨#[97, 95, 49]⟩] 9) = W1 from HW.out, HB.out]
  go_loopw [8, 9, 10] (fun v p q wr => ∃ (i : Nat) (f : Nat) (es : List Er), i ≤ 5 ∧ f ≤ s.size ∧ p = .int .i64 (f : Int) ∧ q = .int .i64 (i : Int) ∧ Hid (es.length = i) ∧ Hid (vE (s.size : Int) 0 es = 0 ∧ lastT 0 es = (f : Int)) ∧ Hid (∀ x ∈ es, x.x.size ≤ 7) ∧ Hid (wr.ownsRow (B + 1) 84 3 v es.length (rv es)) ∧ Hid (Below (B + 1) W1 wr)) (fun _ _ q _ => 5 - (intOf q).toNat)
  case atStart => exact ⟨0, 0, [], by omega, by omega, rfl, rfl, rfl, ⟨rfl, rfl⟩, Lib.hid (fun x hx => by simp at hx), H0, Below.refl _ _⟩
  case round =>
    obtain ⟨i, f, es, hi, hf, rfl, rfl, HL, HV, HX, HO, HR⟩ := hrel
    have hcz : B + 1 ≤ wr.heap.size := by have := HR.out.size; have := HS1.out; omega
    go_wp2_with fail
    refine (HP.out 0 6 (by omega) (by omega) (by omega) (by omega) _ HR.out).mono ?_
    rintro e w' ⟨m0, hm0, rfl, rfl⟩
    by_cases hlt : (i : Int) < (m0 : Int)
    · go_wp2_with fail
      refine (HP.out _ _ (by omega) (by omega) (by omega) (by omega) _ HR.out).mono ?_
      rintro e w' ⟨n, hn, rfl, rfl⟩
      obtain ⟨D, hD⟩ : ∃ D : Nat, (s.size : Int) - (f : Int) + 1 = (D : Int) := ⟨s.size - f + 1, by omega⟩
      have hD1 : ¬ (D : Int) = 0 := by omega
      have hnn : 0 ≤ (n : Int) := by omega
      obtain ⟨x, hx⟩ : ∃ x : Nat, (f : Int) + (n : Int) % (D : Int) = (x : Int) := ⟨((f : Int) + (n : Int) % (D : Int)).toNat, by have := Int.emod_nonneg (n : Int) hD1; omega⟩
      have hxs : x ≤ s.size := by have := Int.emod_lt_of_pos (n : Int) (show (0 : Int) < D by omega); omega
      have hxf : f ≤ x := by have := Int.emod_nonneg (n : Int) hD1; omega
      obtain ⟨D2, hD2⟩ : ∃ D : Nat, min ((s.size : Int) - (f : Int)) 6 + 1 = (D : Int) := ⟨(min ((s.size : Int) - (f : Int)) 6 + 1).toNat, by omega⟩
      have hD3 : ¬ (D2 : Int) = 0 := by omega
      obtain ⟨x2, hx2⟩ : ∃ x : Nat, (f : Int) + (n : Int) % (D2 : Int) = (x : Int) := ⟨((f : Int) + (n : Int) % (D2 : Int)).toNat, by have := Int.emod_nonneg (n : Int) hD3; omega⟩
      have hxs2 : x2 ≤ s.size := by have := Int.emod_lt_of_pos (n : Int) (show (0 : Int) < D2 by omega); omega
      have hxf2 : f ≤ x2 := by have := Int.emod_nonneg (n : Int) hD3; omega
      obtain ⟨r1, hr1⟩ : ∃ r : Nat, (n : Int) / 8 = (r : Int) := ⟨n / 8, by omega⟩
      obtain ⟨r2, hr2⟩ : ∃ r : Nat, (n : Int) / 16 = (r : Int) := ⟨n / 16, by omega⟩
      obtain ⟨q1, hq1⟩ : ∃ q : Bool, ((r1 : Int) % 2 == 0) = q := ⟨_, rfl⟩
      obtain ⟨q2, hq2⟩ : ∃ q : Bool, ((r2 : Int) % 5 == 0) = q := ⟨_, rfl⟩
      obtain ⟨y, hy1, hy2, hy3, hy4⟩ : ∃ y : Nat, f ≤ y ∧ y ≤ s.size ∧ (q1 = false → y = x) ∧ (q1 = true → y = x2) := by
        cases q1
        · exact ⟨x, hxf, hxs, fun _ => rfl, (fun h => by cases h)⟩
        · exact ⟨x2, hxf2, hxs2, (fun h => by cases h), fun _ => rfl⟩
      obtain ⟨E, hE⟩ : ∃ D : Nat, min ((s.size : Int) - (y : Int)) 7 + 1 = (D : Int) := ⟨(min ((s.size : Int) - (y : Int)) 7 + 1).toNat, by omega⟩
      have hE1 : (1 : Int) ≤ (E : Int) := by omega
      have hE2 : (E : Int) ≤ 1000000 := by omega
      have hE3 : ∀ k : Nat, (k : Int) < (E : Int) → y + k ≤ s.size ∧ k ≤ 7 := fun k hk => by omega
      have HE3 := Lib.hid hE3
      clear hxf hxs hxf2 hxs2 hE3
      cases q1
      case' false =>
        have hyx := hy3 rfl
        clear hy3 hy4
        subst hyx
      case' true =>
        have hyx := hy4 rfl
        clear hy3 hy4
        subst hyx
      all_goals
        go_wp2_with fail
        refine (HP.out _ _ (by omega) (by omega) hE1 hE2 _ HR.out).mono ?_
        rintro e w' ⟨k, hk, rfl, rfl⟩
        obtain ⟨hk1, hk2⟩ := HE3.out k hk
        obtain ⟨z, hz⟩ : ∃ z : Nat, (y : Int) + (k : Int) = (z : Int) := ⟨y + k, by omega⟩
        have hz1 : z ≤ s.size := by omega
        have hz2 : y ≤ z := by omega
        have hz3 : z ≤ y + 7 := by omega
        go_wp2_with fail
        refine (HP.out _ _ (by omega) (by omega) (by omega) (by omega) _ HR.out).mono ?_
        rintro e w' ⟨m, hm, rfl, rfl⟩
        obtain ⟨t, ct, htl⟩ := HBLK.out m (by omega) _ HR.out
        have hzz : (y : Int) ≤ (z : Int) := by omega
        have hze : (z : Int) ≤ (s.size : Int) := by omega
        have hxl : (s.extract y z).size ≤ 7 := by rw [ByteArray.size_extract]; omega
        clear hx hD hD1 hx2 hD2 hD3 hE hE1 hE2
        have hes : es.length ≤ 5 := by rw [HL.out]; exact hi
        obtain ⟨T, hT1, hT2, hT3⟩ : ∃ T : ByteArray, T.size ≤ 7 ∧ (q2 = false → T = t) ∧ (q2 = true → T = s.extract y z) := by
          cases q2
          · exact ⟨t, by omega, fun _ => rfl, (fun h => by cases h)⟩
          · exact ⟨s.extract y z, hxl, (fun h => by cases h), fun _ => rfl⟩
        have HV2 : Hid (vE (s.size : Int) 0 (es ++ [(⟨(y : Int), (z : Int), T⟩ : Er)]) = 0 ∧ lastT 0 (es ++ [(⟨(y : Int), (z : Int), T⟩ : Er)]) = (z : Int)) :=
          ⟨vE_snoc HV.out.1 (by show (0 : Int) ≤ (y : Int); omega) (by rw [HV.out.2]; show (f : Int) ≤ (y : Int); omega) (by show (y : Int) ≤ (z : Int); omega) (by show (z : Int) ≤ (s.size : Int); omega), lastT_snoc _ _ _⟩
        have HX2 : Hid (∀ x ∈ es ++ [(⟨(y : Int), (z : Int), T⟩ : Er)], x.x.size ≤ 7) := Lib.hid (by
          intro x hx
          rcases List.mem_append.1 hx with h | h
          · exact HX.out x h
          · rw [List.mem_singleton] at h; subst h; exact hT1)
        have HL2 : Hid ((es ++ [(⟨(y : Int), (z : Int), T⟩ : Er)]).length = i + 1) := Lib.hid (by rw [List.length_append, HL.out]; rfl)
        have HRV : Hid (rv (es ++ [(⟨(y : Int), (z : Int), T⟩ : Er)]) = rv es ++ [.int .i64 (y : Int), .int .i64 (z : Int), .string T]) := rv_snoc _ _
        have HT1 := Lib.hid hT1
        clear hT1 hxl
        cases q2
        case' false =>
          have hTT := hT2 rfl
          clear hT2 hT3
          subst hTT
        case' true =>
          have hTT : s.extract y z = T := (hT3 rfl).symm
          clear hT2 hT3
        all_goals
          go_wp2_with (at_builtin; (refine wpList_append_own _ rfl _ _ 38 rfl (B + 1) 84 i3 (.agg #[.int .i64 0, .int .i64 0, .string ⟨#[]⟩]) 3 32 Tryz.underlying38 hi3 jy0 jy1 jy2 rfl (by decide) u8 es.length (rv es) rfl (HO.out.alloc _) ⟨w'.heap.size, 0, none⟩ 1 1 [.int .i64 (y : Int), .int .i64 (z : Int), .string T] rfl rfl (cells_news _ [.int .i64 (y : Int), .int .i64 (z : Int), .string T] _) (fun x hx => by simp at hx; rcases hx with rfl | rfl | rfl <;> rfl) (by unfold maxLen; omega) (by omega) (by simp; omega) ?_; intro v' w6 hown6 hgrow6 _))
          have HO6 : Hid (w6.ownsRow (B + 1) 84 3 v' (es ++ [(⟨(y : Int), (z : Int), T⟩ : Er)]).length (rv (es ++ [(⟨(y : Int), (z : Int), T⟩ : Er)]))) := by rw [HRV.out, List.length_append]; exact hown6
          have H6 : Hid (Below (B + 1) W1 w6) := HR.out.trans (((Below.refl _ _).alloc hcz _).grown hgrow6 (by simp; omega) (fun g eg => (HO.out.lt g eg).1))
          clear hown6 hgrow6
          go_wp2
          go_roundw
          case rel => exact ⟨i + 1, z, _, by omega, hz1, rfl, by go_num, HL2, HV2, HX2, HO6, H6⟩
          case measure => simp [intOf]; omega
    · go_wp2
      go_ret
      refine ⟨es, _, rfl, by rw [HL.out]; exact hi, ?_, fun x hx => ⟨HX.out x hx, trivial⟩, ?_, ?_⟩
      · unfold vErr
        rw [if_neg (by rw [HL.out]; omega)]
        exact HV.out.1
      · have h1 := HO.out
        rw [HB.out]
        exact own_base h1 (by omega)
      · rw [HB.out]
        exact HB1.out.trans (HR.out.mono (by omega))

end Go.Proofs.YtkehgoailhpenaaGreat

/- The contracts of Raw and Few. Conditions: texts of at most 1000000 bytes. -/
namespace Go.Proofs.YtkehgoailhpenaaGreat
open Go.RowKit Go.Shelf
set_option linter.unusedVariables false

set_option maxRecDepth 100000 in
theorem raw_any (s : ByteArray) (a : Option Addr) (nl cap : Nat) (w : World) (hs : s.size ≤ 1000000) (h : SlI w.heap.size w a nl) (hcap : nl ≤ cap) (hcap2 : cap ≤ 9223372036854775807) :
    Calls Tryz.prog 12 #[.string s, .slice a nl cap] w (Made s (fun _ => True) w) := by
  have C := Lib.hid (some_raw s a nl cap w hs h hcap hcap2)
  clear h
  go_enter Tryz.func12, Tryz.ntmps12
  go_wp2_with fail
  refine C.out.mono ?_
  rintro e w2 ⟨es, v, rfl, h1, h2, h3, h4, h5⟩
  have H := Lib.hid (And.intro h1 (And.intro h2 (And.intro h3 (And.intro h4 h5))))
  clear h1 h2 h3 h4 h5
  go_wp2
  go_ret
  obtain ⟨h1, h2, h3, h4, h5⟩ := H.out
  exact ⟨es, v, rfl, h1, h2, h3, h4, h5⟩

/-- The first edits, with short texts. -/
def few1 (e : Er) : Er := ⟨e.f, e.t, shS e.x 8⟩
def fewE (es : List Er) (m : Nat) : List Er := (es.take m).map few1
theorem fewE_len (es : List Er) (m : Nat) : (fewE es m).length = min m es.length := by simp [fewE]
theorem fewE_step {es : List Er} {k : Nat} (h : k < es.length) : fewE es (k + 1) = fewE es k ++ [few1 (eg es k)] := by
  unfold fewE; rw [take_eg h, List.map_append]; rfl
theorem fewE_all (es : List Er) {k : Nat} (h : es.length ≤ k) : fewE es k = fewE es es.length := by
  unfold fewE; rw [List.take_of_length_le h, List.take_of_length_le (Nat.le_refl _)]
structure Er.Big (e : Er) : Prop where
  f1 : -9223372036854775808 ≤ e.f
  f2 : e.f ≤ 9223372036854775807
  t1 : -9223372036854775808 ≤ e.t
  t2 : e.t ≤ 9223372036854775807
  x : e.x.size ≤ 9223372036854775807
theorem fewE_fit {es : List Er} {m : Nat} (h : ∀ e ∈ es, e.Big) : ∀ e ∈ fewE es m, e.Fit ∧ e.x.size ≤ 8 := by
  intro e he
  obtain ⟨x, hx, rfl⟩ := List.mem_map.1 he
  have hb := h x (List.mem_of_mem_take hx)
  have h8 := shS_size x.x 8
  exact ⟨⟨hb.f1, hb.f2, hb.t1, hb.t2, by show (shS x.x 8).size ≤ 100000; omega⟩, h8⟩

theorem cells_newb (w : World) (xs : List Value) (t : TypeId) (b : Nat) (hb : w.heap.size = b) : ∀ j u, xs[j]? = some u → (w.alloc (.cells xs.toArray t)).cell? ((⟨b, 0, none⟩ : Addr).add j) = some u := by
  subst hb; exact cells_news w xs t

set_option maxRecDepth 100000 in
set_option maxHeartbeats 2000000 in
theorem few_any (a : Option Addr) (cap M : Nat) (es : List Er) (w : World) (hM : M ≤ 100) (hbig : ∀ e ∈ es, e.Big) (hS : ES w.heap.size w a cap es) :
    Calls Tryz.prog 23 #[.slice a es.length cap, .int .i64 (M : Int)] w fun e w' =>
      ∃ v, e = .returned v ∧ w'.ownsRow w.heap.size 84 3 v (fewE es M).length (rv (fewE es M)) ∧ Below w.heap.size w w' := by
  obtain ⟨i3, hi3, jy0, jy1, jy2⟩ := info_parts infoEd2
  obtain ⟨n, hn'⟩ : ∃ n, es.length = n := ⟨_, rfl⟩
  obtain ⟨B, hB⟩ : ∃ B, w.heap.size = B := ⟨_, rfl⟩
  have hcap := hS.le
  have hmx := hS.mx
  obtain ⟨b, off, hab, hcell⟩ := hS.cells.core
  rw [hn'] at hab hcell hcap ⊢
  rw [hB] at hab
  have HE := Lib.hid hn'; have HAB := Lib.hid hab; have HC := Lib.hid hcell; have HB := Lib.hid hB; have HF := Lib.hid hbig
  have H0 : Hid (w.ownsRow B 84 3 (.slice none 0 0) 0 (rv (fewE es 0))) := World.ownsRow_nil _ _ _ _
  clear hS hbig hab hcell hB hn'
  go_enter Tryz.func23, Tryz.ntmps23
  go_wp2_with fail
  go_loopw [5, 6] (fun v q wr => ∃ (k : Nat), k ≤ n ∧ k ≤ M ∧ q = .int .i64 (k : Int) ∧ Hid (wr.ownsRow B 84 3 v k (rv (fewE es k))) ∧ Hid (Below B w wr)) (fun _ q _ => n - (intOf q).toNat)
  case atStart => exact ⟨0, by omega, by omega, rfl, H0, Below.refl _ _⟩
  case round =>
    obtain ⟨k, hk, hkM, rfl, HO, HR⟩ := hrel
    have hBr : B ≤ wr.heap.size := by have := HR.out.size; have := HB.out; omega
    by_cases hlt : k < n
    · have hkk : (k : Int) < (n : Int) := by omega
      by_cases hlt2 : k < M
      · obtain ⟨ha, hbB⟩ := HAB.out.resolve_left (by omega)
        subst ha
        have hkl : k < es.length := by rw [HE.out]; exact hlt
        have hkk2 : (k : Int) < (M : Int) := by omega
        obtain ⟨c0, c1, c2⟩ := HC.out k hlt wr (HR.out.block b hbB)
        have hx := (HF.out _ (eg_mem hkl)).x
        obtain ⟨x, hx1⟩ : ∃ x, (eg es k).f = x := ⟨_, rfl⟩
        obtain ⟨y, hy1⟩ : ∃ y, (eg es k).t = y := ⟨_, rfl⟩
        obtain ⟨s, hs1⟩ : ∃ s, (eg es k).x = s := ⟨_, rfl⟩
        obtain ⟨t, ht1⟩ : ∃ t, shS s 8 = t := ⟨_, rfl⟩
        have hst : few1 (eg es k) = ⟨x, y, t⟩ := by unfold few1; rw [hx1, hy1, hs1, ht1]
        rw [hx1] at c0
        rw [hy1] at c1
        rw [hs1] at c2 hx
        have cS := fun W => short_any s 8 W hx (by omega)
        rw [ht1] at cS
        have CS := Lib.hid cS
        have HRV : Hid (rv (fewE es (k + 1)) = rv (fewE es k) ++ [.int .i64 x, .int .i64 y, .string t]) := Lib.hid (by rw [fewE_step hkl, hst]; exact rv_snoc _ _)
        obtain ⟨p, hp⟩ : ∃ p, wr.heap.size = p := ⟨_, rfl⟩
        obtain ⟨W1, hW1⟩ : ∃ W, wr.alloc (.cells #[.int .i64 x, .int .i64 y, .string s] 84) = W := ⟨_, rfl⟩
        have b1 : Blk W1 p 84 #[.int .i64 x, .int .i64 y, .string s] := by rw [← hW1, ← hp]; exact Blk.new _ _ _
        have z1 : W1.heap.size = p + 1 := by rw [← hW1, ← hp]; simp
        have bl1 : Below B w W1 := by rw [← hW1]; exact HR.out.alloc hBr _
        have ow1 : W1.ownsRow B 84 3 u5 k (rv (fewE es k)) := by rw [← hW1]; exact HO.out.alloc _
        have HW1 := Lib.hid hW1; have HP := Lib.hid hp; have HB1 := Lib.hid b1; have HBL := Lib.hid bl1; have HOW := Lib.hid ow1
        have k0 := b1.cell 0; have k1 := b1.cell 1; have k2 := b1.cell 2
        simp only [List.getElem?_toArray, List.getElem?_cons_zero, List.getElem?_cons_succ] at k0 k1 k2
        clear hx1 hy1 hs1 ht1 hst cS hW1 hp b1 bl1 ow1
        go_wp2_with fail
        rw [HP.out, show wr.alloc (.cells #[.int .i64 x, .int .i64 y, .string s] 84) = W1 from HW1.out]
        go_wp2_with fail
        refine (CS.out _).mono ?_
        rintro e w' ⟨rfl, rfl⟩
        have f2 := HB1.out.frozen 2
        have bl2 : Below B w (W1.setCell ⟨p, 2, none⟩ (.string t)) := HBL.out.setCell (p := ⟨p, 2, none⟩) (by show B ≤ p; have := HP.out; omega) _
        have ow2 : (W1.setCell ⟨p, 2, none⟩ (.string t)).ownsRow B 84 3 u5 k (rv (fewE es k)) := by
          refine own_same HOW.out (fun g hg => Below.heap_setCell W1 _ _ g (fun e => ?_))
          have := (HO.out.lt g hg).2
          have := HP.out
          simp at e; omega
        have HBL2 := Lib.hid bl2; have HOW2 := Lib.hid ow2
        have hBp : B ≤ p := by have := HP.out; omega
        have hk5 : k ≤ 100 := by omega
        have hBW : B ≤ (W1.setCell ⟨p, 2, none⟩ (.string t)).heap.size := by simp [World.setCell]; omega
        clear bl2 ow2
        go_wp2_with (at_builtin; refine wpList_append_own _ rfl _ _ 38 rfl B 84 i3 (.agg #[.int .i64 0, .int .i64 0, .string ⟨#[]⟩]) 3 32 Tryz.underlying38 hi3 jy0 jy1 jy2 rfl (by decide) u5 k (rv (fewE es k)) rfl (HOW2.out.alloc _) ⟨_, 0, none⟩ 1 1 [.int .i64 x, .int .i64 y, .string t] rfl rfl (cells_newb _ [.int .i64 x, .int .i64 y, .string t] _ _ (by simp [World.setCell]; try omega)) (fun x hx => by simp at hx; rcases hx with rfl | rfl | rfl <;> rfl) (by unfold maxLen; omega) (by omega) (by simp [World.setCell]; omega) ?_; intro v' w6 hown6 hgrow6 _)
        have HO6 : Hid (w6.ownsRow B 84 3 v' (k + 1) (rv (fewE es (k + 1)))) := by rw [HRV.out]; exact hown6
        have H6 : Hid (Below B w w6) := HBL2.out.trans (((Below.refl _ _).alloc hBW _).grown hgrow6 (by simp [World.setCell]; omega) (fun g eg => (HO.out.lt g eg).1))
        clear hown6 hgrow6
        go_wp2
        go_roundw
        case rel => exact ⟨k + 1, by omega, by omega, by go_num, HO6, H6⟩
        case measure => simp [intOf]; omega
      · obtain rfl : M = k := by omega
        have hkk2 : ¬ (M : Int) < (M : Int) := by omega
        have HOO := Lib.hid (And.intro HO.out HR.out)
        go_wp2
        go_ret
        exact ⟨_, rfl, by rw [fewE_len, HE.out, Nat.min_eq_left (by omega), HB.out]; exact HO.out, by rw [HB.out]; exact HR.out⟩
    · obtain rfl : n = k := by omega
      go_wp2
      go_ret
      refine ⟨_, rfl, ?_, by rw [HB.out]; exact HR.out⟩
      rw [fewE_len, HE.out, Nat.min_eq_right (by omega), fewE_all es (k := M) (by rw [HE.out]; exact hkM), HE.out, HB.out]
      exact HO.out

end Go.Proofs.YtkehgoailhpenaaGreat

/- The parts of a new text, and the contracts of end and parts. It has no conditions. -/
namespace Go.Proofs.YtkehgoailhpenaaGreat
open Go.RowKit Go.Shelf
set_option linter.unusedVariables false

/-- A part of a new text. -/
structure Pc where
  f : Int
  t : Int
  q : Int
  x : ByteArray
  k : Bool
def Pc.val (p : Pc) : Value := .agg #[.int .i64 p.f, .int .i64 p.t, .int .i64 p.q, .string p.x, .bool p.k]
def dP : Pc := ⟨0, 0, 0, ⟨#[]⟩, false⟩
def Pc.cells (p : Pc) : Array Value := #[.int .i64 p.f, .int .i64 p.t, .int .i64 p.q, .string p.x, .bool p.k]
/-- The parts of the new text, from offset f of the old one and q of the new one on. -/
def prl (s : ByteArray) (f q : Nat) : List Er → List Pc
  | [] => [⟨f, s.size, q, s.extract f s.size, true⟩]
  | e :: l => ⟨f, e.f, q, s.extract f e.f.toNat, true⟩ :: ⟨e.f, e.t, (q : Int) + (e.f - f), e.x, false⟩ :: prl s e.t.toNat (q + (e.f.toNat - f) + e.x.size) l
theorem prl_len (s : ByteArray) : ∀ (l : List Er) (f q : Nat), (prl s f q l).length = 2 * l.length + 1 := by
  intro l
  induction l with
  | nil => intro f q; rfl
  | cons e l ih => intro f q; simp only [prl, List.length_cons, ih]; omega
def pg (l : List Pc) (k : Nat) : Pc := l[k]?.getD dP
theorem pg_drop {l m : List Pc} {j : Nat} {p : Pc} (h : l.drop j = p :: m) : pg l j = p := by
  have : (l.drop j)[0]? = some p := by rw [h]; rfl
  rw [List.getElem?_drop, Nat.add_zero] at this
  simp [pg, this]
theorem drop_up {α : Type} {l m : List α} {j : Nat} {p : α} (h : l.drop j = p :: m) : l.drop (j + 1) = m := by
  rw [← List.drop_drop, h]; rfl

set_option maxRecDepth 100000 in
theorem end_any (p : Pc) (w : World) (h1 : -9223372036854775808 ≤ p.q + p.x.size) (h2 : p.q + p.x.size ≤ 9223372036854775807) :
    Calls Tryz.prog 72 #[p.val] w fun e w' => e = .returned (.int .i64 (p.q + p.x.size)) ∧ Below w.heap.size w w' := by
  obtain ⟨f, t, q, x, k⟩ := p
  simp only [Pc.val] at h1 h2 ⊢
  have H := Lib.hid ((Below.refl w.heap.size w).alloc (Nat.le_refl _) (.cells #[.int .i64 f, .int .i64 t, .int .i64 q, .string x, .bool k] 103))
  go_enter Tryz.func72, Tryz.ntmps72
  go_wp2
  go_ret
  exact ⟨rfl, H.out⟩

theorem parts_any (s : ByteArray) (a : Option Addr) (n cap : Nat) (w : World) :
    Calls Tryz.prog 53 #[.string s, .slice a n cap] w fun e w' =>
      e = .returned (.func (.func 71) #[] #[.pointer (some ⟨w.heap.size + 1, 0, none⟩), .pointer (some ⟨w.heap.size, 0, none⟩)]) ∧ w' = (w.alloc (.cells #[.string s] 9)).alloc (.cells #[.slice a n cap] 38) := by
  go_enter Tryz.func53, Tryz.ntmps53
  go_wp2
  go_ret
  exact ⟨rfl, rfl⟩

end Go.Proofs.YtkehgoailhpenaaGreat

/- The contract of the iterator that parts returns. Conditions: a valid list of at most 64 edits for a text of at most 10000000 bytes. -/
namespace Go.Proofs.YtkehgoailhpenaaGreat
open Go.RowKit Go.Shelf
set_option linter.unusedVariables false
attribute [local go_sem] Oper.semAt_some

set_option maxRecDepth 100000 in
set_option maxHeartbeats 1000000 in
theorem part_giv (s : ByteArray) (bl bs : Nat) (a : Option Addr) (cap : Nat) (es : List Er) (w : World) (hs : s.size ≤ 10000000) (hv : vErr (s.size : Int) es = 0) (hfit : ∀ e ∈ es, e.x.size ≤ 100000)
    (hbl : Boxed w bl 38 (.slice a es.length cap)) (hbs : Boxed w bs 9 (.string s)) (hS : ES w.heap.size w a cap es) :
    Giv Tryz.prog 71 #[.pointer (some ⟨bl, 0, none⟩), .pointer (some ⟨bs, 0, none⟩)] (fun k => #[(pg (prl s 0 0 es) k).val]) (2 * es.length + 1) (fun k => k = bs ∨ 0 < es.length ∧ ∃ off, a = some ⟨k, off, none⟩) w := by
  intro l J T₀ W hW hR hB hO hY h0
  obtain ⟨n, hn⟩ : ∃ n, es.length = n := ⟨_, rfl⟩
  obtain ⟨hlim, hvld, hbd⟩ := vErr_ok hv
  have hbl0 : Boxed W bl 38 (.slice a es.length cap) := (hW.block bl hbl.lt).trans hbl
  have hbl1 := hbl0.cell
  dsimp only at hY hR
  have hbs1 : Boxed W bs 9 (.string s) := (hW.block bs hbs.lt).trans hbs
  have hlbs := hbs1.lt
  have hsz := hW.size
  have HV0 : Hid (vE (s.size : Int) ((0 : Nat) : Int) (es.drop 0) = 0) := by
    have := hv
    unfold vErr at this
    rw [if_neg (by omega)] at this
    exact this
  have HP0s : Hid (prl s 0 0 (es.drop 0) = (prl s 0 0 es).drop (2 * 0)) := rfl
  obtain ⟨b, off, hab, hcell⟩ := (hS.on hW).cells.core
  rw [hn] at hbl1 hab hcell hlim hY hR ⊢
  have HN := Lib.hid hn; have HAB := Lib.hid hab; have HC := Lib.hid hcell; have HR := Lib.hid hR; have HB := Lib.hid hB; have HO := Lib.hid hO; have HY := Lib.hid hY; have HD := Lib.hid hbd; have HF := Lib.hid hfit; have HBS := Lib.hid hbs1
  have hcap := hS.le
  rw [hn] at hcap
  have HX : Hid (hbs1.lt = hbs1.lt) := rfl
  clear hv hvld hab hcell hR hB hO hY hbd hfit hS hbl hbs hbs1 hbl0 hn HX
  refine callsIn_of_wp Tryz.func71 rfl trivial ?_ rfl
  simp only [Tryz.ntmps71, List.size_toArray, List.length_cons, List.length_nil, Nat.reduceAdd, Nat.reduceSub, Array.replicate_succ, Array.replicate_zero, List.push_toArray, List.append_toArray, List.nil_append, List.cons_append]
  gi_wp2
  gi_loopw [4, 5, 12] (fun u v i wr => ∃ (k f q : Nat) (T : Nat → Prop), k ≤ n ∧ u = .int .i64 (f : Int) ∧ v = .int .i64 (q : Int) ∧ i = .int .i64 (k : Int) ∧ f ≤ s.size ∧ q ≤ f + 100000 * k ∧
      Hid (prl s f q (es.drop k) = (prl s 0 0 es).drop (2 * k)) ∧ Hid (vE (s.size : Int) (f : Int) (es.drop k) = 0) ∧ Hid (J (2 * k) T wr) ∧ Hid (Rnd T₀ T W wr)) (fun _ _ i _ => n - (intOf i).toNat)
  case atStart => exact ⟨0, 0, 0, T₀, by omega, rfl, rfl, rfl, by omega, by omega, HP0s, HV0, h0, Rnd.refl _ _⟩
  case round =>
    obtain ⟨k, f, q, T, hk, rfl, rfl, rfl, hf, hq, HP, HV, HJ, HRn⟩ := hrel
    by_cases hlt : k < n
    · obtain ⟨ha, hbB⟩ := HAB.out.resolve_left (by omega)
      subst ha
      have hkl : k < es.length := by rw [HN.out]; exact hlt
      have hstep := HV.out
      have hpp := HP.out
      rw [eg_drop hkl] at hstep hpp
      obtain ⟨hd0, hd1, hd2⟩ := HD.out _ (eg_mem hkl)
      have hxl := HF.out _ (eg_mem hkl)
      obtain ⟨x, hx⟩ : ∃ x : Nat, (eg es k).f = (x : Int) := ⟨(eg es k).f.toNat, by omega⟩
      obtain ⟨y, hy⟩ : ∃ y : Nat, (eg es k).t = (y : Int) := ⟨(eg es k).t.toNat, by omega⟩
      obtain ⟨z, hz⟩ : ∃ z, (eg es k).x = z := ⟨_, rfl⟩
      simp only [vE] at hstep
      simp only [prl] at hpp
      rw [hx, hy, hz] at hpp
      rw [hx, hy] at hstep
      rw [hx] at hd0 hd1
      rw [hy] at hd1 hd2
      simp only [Int.toNat_natCast] at hpp
      rw [hz] at hxl
      rw [if_neg (by omega)] at hstep
      by_cases hfx : (x : Int) < (f : Int)
      · rw [if_pos hfx] at hstep; omega
      rw [if_neg hfx] at hstep
      have hxy : x ≤ y := by omega
      have hys : y ≤ s.size := by omega
      have hfx2 : f ≤ x := by omega
      have hp1 := pg_drop hpp.symm
      have hp2 := pg_drop (drop_up hpp.symm)
      have HPn : Hid (prl s y (q + (x - f) + z.size) (es.drop (k + 1)) = (prl s 0 0 es).drop (2 * (k + 1))) := (drop_up (drop_up hpp.symm)).symm
      have HVn : Hid (vE (s.size : Int) (y : Int) (es.drop (k + 1)) = 0) := hstep
      have hwb : wr.heap[b]? = W.heap[b]? := HRn.out.block b hbB (HR.out b (.inr ⟨by omega, off, rfl⟩))
      have hwbs : wr.heap[bs]? = W.heap[bs]? := HRn.out.block bs hlbs (HR.out bs (.inl rfl))
      obtain ⟨c0, c1, c2⟩ := HC.out k hlt wr hwb
      rw [hx] at c0
      rw [hy] at c1
      rw [hz] at c2
      have hcs : Boxed wr bs 9 (.string s) := hwbs.trans HBS.out
      have cs0 := ((hcs.alloc (.cells #[.int .i64 (x : Int), .int .i64 (y : Int), .string z] 84)).alloc (.cells #[.int .i64 0, .int .i64 0, .int .i64 0, .string ⟨#[]⟩, .bool false] 103)).cell
      have cs1 := (hcs.alloc (.cells #[.int .i64 (x : Int), .int .i64 (y : Int), .string z] 84)).cell
      have hkk : (k : Int) < (n : Int) := by omega
      have hBr : W.heap.size ≤ wr.heap.size := HRn.out.size
      have h1 := Lib.hid hp1; have h2 := Lib.hid hp2; have h3 := Lib.hid hwb; have h4 := Lib.hid hwbs
      clear hstep hpp hp1 hp2 hwb hwbs hx hy hz hcs
      gi_wp2
      gi_region
      obtain ⟨p0, hp0⟩ : ∃ p, wr.heap.size = p := ⟨_, rfl⟩
      obtain ⟨x1, hx1⟩ : ∃ r, s.extract f x = r := ⟨_, rfl⟩
      have hx1s : x1.size = x - f := by rw [← hx1, ByteArray.size_extract]; omega
      obtain ⟨W2, hW2⟩ : ∃ W2, ((wr.alloc (.cells #[.int .i64 (x : Int), .int .i64 (y : Int), .string z] 84)).alloc (.cells #[.int .i64 (f : Int), .int .i64 (x : Int), .int .i64 (q : Int), .string x1, .bool true] 103)).drew = W2 := ⟨_, rfl⟩
      rw [hx1, hW2, hp0]
      rw [hp0] at hBr
      have bE : Blk W2 p0 84 #[.int .i64 (x : Int), .int .i64 (y : Int), .string z] := by
        rw [← hW2, ← hp0]; exact (Blk.new wr _ _).alloc _
      have bP : Blk W2 (p0 + 1) 103 #[.int .i64 (f : Int), .int .i64 (x : Int), .int .i64 (q : Int), .string x1, .bool true] := by
        rw [← hW2, ← hp0]
        have := Blk.new (wr.alloc (.cells #[.int .i64 (x : Int), .int .i64 (y : Int), .string z] 84)) 103 #[.int .i64 (f : Int), .int .i64 (x : Int), .int .i64 (q : Int), .string x1, .bool true]
        rw [World.size_alloc] at this
        exact this
      have s2 : W2.heap.size = p0 + 2 := by rw [← hW2, ← hp0]; show (World.alloc (World.alloc wr _) _).heap.size = _; simp
      have b2 : Below p0 wr W2 := by rw [← hW2, ← hp0]; exact (((Below.refl _ _).alloc (Nat.le_refl _) _).alloc (by simp) _).drew
      have C := Lib.hid (fun W => end_any ⟨f, x, q, x1, true⟩ W (by show -9223372036854775808 ≤ (q : Int) + (x1.size : Int); omega) (by show (q : Int) + (x1.size : Int) ≤ 9223372036854775807; omega))
      simp only [Pc.val] at C
      obtain ⟨S, hSd⟩ : ∃ S : World → Prop, (fun w' => w'.cell? ⟨p0, 0, none⟩ = some (.int .i64 (x : Int)) ∧ w'.cell? ⟨p0, 1, none⟩ = some (.int .i64 (y : Int)) ∧ w'.cell? ⟨p0, 2, none⟩ = some (.string z) ∧ w'.cell? ⟨p0 + 1, 0, none⟩ = some (.int .i64 (f : Int)) ∧ w'.cell? ⟨p0 + 1, 1, none⟩ = some (.int .i64 (x : Int)) ∧ w'.cell? ⟨p0 + 1, 2, none⟩ = some (.int .i64 (q : Int)) ∧ w'.cell? ⟨p0 + 1, 3, none⟩ = some (.string x1) ∧ w'.cell? ⟨p0 + 1, 4, none⟩ = some (.bool true) ∧ p0 + 2 ≤ w'.heap.size) = S := ⟨_, rfl⟩
      have hSe : ∀ w', S w' ↔ (w'.cell? ⟨p0, 0, none⟩ = some (.int .i64 (x : Int)) ∧ w'.cell? ⟨p0, 1, none⟩ = some (.int .i64 (y : Int)) ∧ w'.cell? ⟨p0, 2, none⟩ = some (.string z) ∧ w'.cell? ⟨p0 + 1, 0, none⟩ = some (.int .i64 (f : Int)) ∧ w'.cell? ⟨p0 + 1, 1, none⟩ = some (.int .i64 (x : Int)) ∧ w'.cell? ⟨p0 + 1, 2, none⟩ = some (.int .i64 (q : Int)) ∧ w'.cell? ⟨p0 + 1, 3, none⟩ = some (.string x1) ∧ w'.cell? ⟨p0 + 1, 4, none⟩ = some (.bool true) ∧ p0 + 2 ≤ w'.heap.size) := fun w' => by rw [← hSd]
      have s0 : S W2.drew := by
        rw [hSe]
        exact ⟨by simpa using bE.cell 0, by simpa using bE.cell 1, by simpa using bE.cell 2, by simpa using bP.cell 0, by simpa using bP.cell 1, by simpa using bP.cell 2, by simpa using bP.cell 3, by simpa using bP.cell 4, by show p0 + 2 ≤ W2.heap.size; omega⟩
      have KC : ∀ w1 w', S w1 → Below w1.heap.size w1 w' → S w' := by
        intro w1 w' h hb
        rw [hSe] at h ⊢
        obtain ⟨g0, g1, g2, g3, g4, g5, g6, g7, g8⟩ := h
        have hh : ∀ b i, b < p0 + 2 → w'.cell? ⟨b, i, none⟩ = w1.cell? ⟨b, i, none⟩ := fun b i hb2 => hb.cell (p := ⟨b, i, none⟩) (by show b < w1.heap.size; omega)
        refine ⟨(hh _ _ (by omega)).trans g0, (hh _ _ (by omega)).trans g1, (hh _ _ (by omega)).trans g2, (hh _ _ (by omega)).trans g3, (hh _ _ (by omega)).trans g4, (hh _ _ (by omega)).trans g5, (hh _ _ (by omega)).trans g6, (hh _ _ (by omega)).trans g7, by have := hb.size; omega⟩
      have KA : ∀ w1 o, S w1 → S (w1.alloc o) := fun w1 o h => KC _ _ h ((Below.refl _ _).alloc (Nat.le_refl _) _)
      have KS : ∀ w1 B v0 v1 v2 v3 v4, S w1 → p0 + 2 ≤ B → S (((((w1.setCell ⟨B, 0, none⟩ v0).setCell ⟨B, 1, none⟩ v1).setCell ⟨B, 2, none⟩ v2).setCell ⟨B, 3, none⟩ v3).setCell ⟨B, 4, none⟩ v4) := by
        intro w1 B v0 v1 v2 v3 v4 h hB
        have hb : Below (p0 + 2) w1 (((((w1.setCell ⟨B, 0, none⟩ v0).setCell ⟨B, 1, none⟩ v1).setCell ⟨B, 2, none⟩ v2).setCell ⟨B, 3, none⟩ v3).setCell ⟨B, 4, none⟩ v4) :=
          (((((Below.refl _ _).setCell (p := ⟨B, 0, none⟩) hB _).setCell (p := ⟨B, 1, none⟩) hB _).setCell (p := ⟨B, 2, none⟩) hB _).setCell (p := ⟨B, 3, none⟩) hB _).setCell (p := ⟨B, 4, none⟩) hB _
        rw [hSe] at h ⊢
        obtain ⟨g0, g1, g2, g3, g4, g5, g6, g7, g8⟩ := h
        have hh : ∀ b i, b < p0 + 2 → World.cell? (((((w1.setCell ⟨B, 0, none⟩ v0).setCell ⟨B, 1, none⟩ v1).setCell ⟨B, 2, none⟩ v2).setCell ⟨B, 3, none⟩ v3).setCell ⟨B, 4, none⟩ v4) ⟨b, i, none⟩ = w1.cell? ⟨b, i, none⟩ := fun b i hb2 => hb.cell (p := ⟨b, i, none⟩) hb2
        refine ⟨(hh _ _ (by omega)).trans g0, (hh _ _ (by omega)).trans g1, (hh _ _ (by omega)).trans g2, (hh _ _ (by omega)).trans g3, (hh _ _ (by omega)).trans g4, (hh _ _ (by omega)).trans g5, (hh _ _ (by omega)).trans g6, (hh _ _ (by omega)).trans g7, by have := hb.size; omega⟩
      have HKS := Lib.hid KS
      clear KS
      have HB2s : p0 + 2 ≤ W2.heap.size := by omega
      obtain ⟨k0, k1, k2, k3, k4, k5, k6, k7, _⟩ := (hSe _).1 s0
      have HK := Lib.hid KC; have HKA := Lib.hid KA; have HSE := Lib.hid hSe; have HE := Lib.hid bE; have HPp := Lib.hid bP; have HS2 := Lib.hid s2; have HB2 := Lib.hid b2; have HX1 := Lib.hid hx1; have HXS := Lib.hid hx1s; have HP0 := Lib.hid hp0; have S0 := Lib.hid s0
      clear KC KA hSe hSd bE bP s2 b2 hx1 hx1s hp0 hW2 cs0 cs1 c0 c1 c2 s0
      have KZ : ∀ wa, Below (W2.drew.alloc (.cells #[.int .i64 0, .int .i64 0, .int .i64 0, .string ⟨#[]⟩, .bool false] 103)).heap.size (W2.drew.alloc (.cells #[.int .i64 0, .int .i64 0, .int .i64 0, .string ⟨#[]⟩, .bool false] 103)) wa → Blk wa W2.heap.size 103 #[.int .i64 0, .int .i64 0, .int .i64 0, .string ⟨#[]⟩, .bool false] := by
        intro wa hb
        refine Blk.same ?_ (hb.block _ (by rw [World.size_alloc]; exact Nat.lt_succ_self _))
        exact Blk.new W2.drew _ _
      have S1 : Hid (S (W2.alloc (.cells #[.int .i64 0, .int .i64 0, .int .i64 0, .string ⟨#[]⟩, .bool false] 103)).drew) := HKA.out W2.drew _ S0.out
      have HKZ := Lib.hid KZ
      clear KZ
      have hmx : Tryz.prog.follows .mixedOrders = true := by kernel_rfl
      gi_wp2
      refine wpIn_wide.2 ?_
      go_region_held3 (fun w' => w'.cell? ⟨p0, 0, none⟩ = some (.int .i64 (x : Int)) ∧ w'.cell? ⟨p0, 1, none⟩ = some (.int .i64 (y : Int)) ∧ w'.cell? ⟨p0, 2, none⟩ = some (.string z) ∧ w'.cell? ⟨p0 + 1, 0, none⟩ = some (.int .i64 (f : Int)) ∧ w'.cell? ⟨p0 + 1, 1, none⟩ = some (.int .i64 (x : Int)) ∧ w'.cell? ⟨p0 + 1, 2, none⟩ = some (.int .i64 (q : Int)) ∧ w'.cell? ⟨p0 + 1, 3, none⟩ = some (.string x1) ∧ w'.cell? ⟨p0 + 1, 4, none⟩ = some (.bool true) ∧ p0 + 2 ≤ w'.heap.size) (first | with_reducible exact (HSE.out _).1 S0.out | with_reducible exact (HSE.out _).1 sA | with_reducible exact (HSE.out _).1 (HKA.out _ _ sA) | with_reducible exact (HSE.out _).1 (HKA.out _ _ S0.out) | with_reducible exact (HSE.out _).1 (HKS.out _ _ _ _ _ _ _ sA HB2s) | with_reducible exact (HSE.out _).1 (HKS.out _ _ _ _ _ _ _ (HKA.out _ _ sA) (((HSE.out _).1 sA).2.2.2.2.2.2.2.2)) | with_reducible exact (HSE.out _).1 S1.out)
        (first | (go_at_call 72; refine (C.out _).mono ?_; rintro e wA ⟨rfl, bA⟩; have zA : Blk wA W2.heap.size 103 #[.int .i64 0, .int .i64 0, .int .i64 0, .string ⟨#[]⟩, .bool false] := (HKZ.out _ bA); have sA := HK.out _ _ (HKA.out _ _ S0.out) bA; have z0 := zA.cell 0; have z1 := zA.cell 1; have z2 := zA.cell 2; have z3 := zA.cell 3; have z4 := zA.cell 4; have y0 := zA.frozen 0; have y1 := zA.frozen 1; have y2 := zA.frozen 2; have y3 := zA.frozen 3; have y4 := zA.frozen 4; simp only [List.getElem?_toArray, List.getElem?_cons_zero, List.getElem?_cons_succ] at z0 z1 z2 z3 z4)
               | (go_at_call 72; refine (C.out _).mono ?_; rintro e wA ⟨rfl, bA⟩; have sA := HK.out _ _ S0.out bA))
      all_goals
        first
        | (have b1 := ((((zA.set 0 (.int .i64 (x : Int))).set 1 (.int .i64 (y : Int))).set 2 (.int .i64 ((q : Int) + (x1.size : Int)))).set 3 (.string z)).set 4 (.bool false)
           have bA2 : Below (p0 + 2) W2 wA := (((Below.refl _ W2).drew.alloc HB2s _)).trans (bA.mono (Nat.le_trans HB2s (by show W2.heap.size ≤ (World.alloc W2 _).heap.size; rw [World.size_alloc]; exact Nat.le_succ _)))
           have F0 := And.intro b1 (And.intro (HKS.out wA W2.heap.size (.int .i64 (x : Int)) (.int .i64 (y : Int)) (.int .i64 ((q : Int) + (x1.size : Int))) (.string z) (.bool false) sA HB2s) (And.intro (((((bA2.setCell (p := ⟨W2.heap.size, 0, none⟩) HB2s (.int .i64 (x : Int))).setCell (p := ⟨W2.heap.size, 1, none⟩) HB2s (.int .i64 (y : Int))).setCell (p := ⟨W2.heap.size, 2, none⟩) HB2s (.int .i64 ((q : Int) + (x1.size : Int)))).setCell (p := ⟨W2.heap.size, 3, none⟩) HB2s (.string z)).setCell (p := ⟨W2.heap.size, 4, none⟩) HB2s (.bool false)) HB2s))
           obtain ⟨W3, hW3⟩ : ∃ W3, (((((wA.setCell ⟨W2.heap.size, 0, none⟩ (.int .i64 (x : Int))).setCell ⟨W2.heap.size, 1, none⟩ (.int .i64 (y : Int))).setCell ⟨W2.heap.size, 2, none⟩ (.int .i64 ((q : Int) + (x1.size : Int)))).setCell ⟨W2.heap.size, 3, none⟩ (.string z)).setCell ⟨W2.heap.size, 4, none⟩ (.bool false)) = W3 := ⟨_, rfl⟩
           obtain ⟨B3, hB3⟩ : ∃ B3, W2.heap.size = B3 := ⟨_, rfl⟩
           rw [hW3, hB3] at F0
           rw [hW3, hB3]
           have F3 : Hid (Blk W3 B3 103 #[.int .i64 (x : Int), .int .i64 (y : Int), .int .i64 ((q : Int) + (x1.size : Int)), .string z, .bool false] ∧ S W3 ∧ Below (p0 + 2) W2 W3 ∧ p0 + 2 ≤ B3) := F0
           clear F0 b1 hW3 hB3 z0 z1 z2 z3 z4 y0 y1 y2 y3 y4 zA)
        | (have bA2 : Below (p0 + 2) W2 wA := (Below.refl _ W2).drew.trans (bA.mono (by show p0 + 2 ≤ W2.heap.size; omega))
           have hA := bA2.size
           have F0 := And.intro (Blk.new wA 103 #[.int .i64 (x : Int), .int .i64 (y : Int), .int .i64 ((q : Int) + (x1.size : Int)), .string z, .bool false]) (And.intro (HKA.out wA (.cells #[.int .i64 (x : Int), .int .i64 (y : Int), .int .i64 ((q : Int) + (x1.size : Int)), .string z, .bool false] 103) sA) (And.intro (bA2.alloc (by omega) (.cells #[.int .i64 (x : Int), .int .i64 (y : Int), .int .i64 ((q : Int) + (x1.size : Int)), .string z, .bool false] 103)) (show p0 + 2 ≤ wA.heap.size by omega)))
           obtain ⟨W3, hW3⟩ : ∃ W3, wA.alloc (.cells #[.int .i64 (x : Int), .int .i64 (y : Int), .int .i64 ((q : Int) + (x1.size : Int)), .string z, .bool false] 103) = W3 := ⟨_, rfl⟩
           obtain ⟨B3, hB3⟩ : ∃ B3, wA.heap.size = B3 := ⟨_, rfl⟩
           rw [hW3, hB3] at F0
           rw [hW3, hB3]
           have F3 : Hid (Blk W3 B3 103 #[.int .i64 (x : Int), .int .i64 (y : Int), .int .i64 ((q : Int) + (x1.size : Int)), .string z, .bool false] ∧ S W3 ∧ Below (p0 + 2) W2 W3 ∧ p0 + 2 ≤ B3) := F0
           clear F0 hW3 hB3 hA)
        clear HKS HKZ S1 bA2 bA sA k0 k1 k2 k3 k4 k5 k6 k7
        obtain ⟨bB, bS, b3, hB3⟩ := F3.out
        obtain ⟨g0, g1, g2, g3, g4, g5, g6, g7, g8⟩ := (HSE.out _).1 bS
        have hb3 : Below p0 wr W3 := HB2.out.trans (b3.mono (by omega))
        have hTl : ∀ j, T j → j < p0 := fun j hj => by rw [← HP0.out]; exact HB.out _ _ _ HJ.out j hj
        have hJ3 : J (2 * k) T W3 := HO.out _ _ _ _ HJ.out (Oth.of_below (by rw [HP0.out]; exact hb3))
        have hY1 := HY.out (2 * k) T W3 (by omega) (by have := hb3.size; have := HP0.out; omega) hJ3
        rw [h1.out, HX1.out] at hY1
        obtain ⟨fn, tmps, assign, body, hy, hR1⟩ := hY1
        simp only [Pc.val] at hy
        have HR1 := Lib.hid hR1
        have HB3 := Lib.hid hb3; have HTl := Lib.hid hTl; have HbB := Lib.hid bB; have HbS := Lib.hid bS
        clear hR1 hb3 hTl hJ3 bB bS b3
        gi_wp2
        refine ⟨rfl, HR1.out.mono ?_⟩
        rintro e W4 ⟨rfl, T4, hJ4, hr4⟩
        have hp0l : p0 < W3.heap.size := by have := HbB.out.lt; omega
        have hT3 : ∀ j, p0 ≤ j → ¬ T j := fun j hj h => by have := HTl.out j h; omega
        have hb4 : Blk W4 B3 103 #[.int .i64 (x : Int), .int .i64 (y : Int), .int .i64 ((q : Int) + (x1.size : Int)), .string z, .bool false] := HbB.out.same (hr4.block B3 HbB.out.lt (hT3 _ (by omega)))
        have hpp4 : W4.heap[p0]? = W3.heap[p0]? := hr4.block p0 hp0l (hT3 _ (Nat.le_refl _))
        have m0 := hb4.cell 0; have m1 := hb4.cell 1; have m2 := hb4.cell 2; have m3 := hb4.cell 3; have m4 := hb4.cell 4
        simp only [List.getElem?_toArray, List.getElem?_cons_zero, List.getElem?_cons_succ] at m0 m1 m2 m3 m4
        have hT4 : ∀ j, p0 ≤ j → j < W3.heap.size → ¬ T4 j := fun j h1 h2 h => (hr4.grew j h).elim (hT3 j h1) (fun e => by omega)
        have hrn4 : Rnd T₀ T4 W W4 := (HRn.out.trans (Rnd.of_below (by rw [HP0.out]; exact HB3.out))).trans hr4
        have hY2 := HY.out (2 * k + 1) T4 W4 (by omega) hrn4.size hJ4
        rw [h2.out] at hY2
        obtain ⟨fn2, tmps2, assign2, body2, hy2, hR2⟩ := hY2
        have hq1 : (q : Int) + ((x : Int) - (f : Int)) = (q : Int) + (x1.size : Int) := by rw [HXS.out]; omega
        simp only [Pc.val, hq1] at hy2
        have HR2 := Lib.hid hR2
        have HRn4 := Lib.hid hrn4; have Hb4 := Lib.hid hb4; have Hpp4 := Lib.hid hpp4; have HT4 := Lib.hid hT4; have HT3 := Lib.hid hT3
        have hW3s := hr4.size
        clear hR2 hrn4 hb4 hpp4 hT4 hT3 hJ4 hr4 hy HR1 g0 g1 g2 g3 g4 g5 g6 g7
        gi_wp2
        refine ⟨rfl, HR2.out.mono ?_⟩
        rintro e W5 ⟨rfl, T5, hJ5, hr5⟩
        have hb5 : Blk W5 B3 103 #[.int .i64 (x : Int), .int .i64 (y : Int), .int .i64 ((q : Int) + (x1.size : Int)), .string z, .bool false] := Hb4.out.same (hr5.block B3 Hb4.out.lt (HT4.out _ (by omega) HbB.out.lt))
        have hpp5 : W5.heap[p0]? = W3.heap[p0]? := (hr5.block p0 (by omega) (HT4.out _ (Nat.le_refl _) hp0l)).trans Hpp4.out
        have hrn5 : Rnd T₀ T5 W W5 := HRn4.out.trans hr5
        clear m0 m1 m2 m3 m4
        have KF : ∀ w', Below W5.heap.size W5 w' → w'.cell? ⟨p0, 1, none⟩ = some (.int .i64 (y : Int)) ∧ w'.cell? ⟨B3, 0, none⟩ = some (.int .i64 (x : Int)) ∧ w'.cell? ⟨B3, 1, none⟩ = some (.int .i64 (y : Int)) ∧ w'.cell? ⟨B3, 2, none⟩ = some (.int .i64 ((q : Int) + (x1.size : Int))) ∧ w'.cell? ⟨B3, 3, none⟩ = some (.string z) ∧ w'.cell? ⟨B3, 4, none⟩ = some (.bool false) := by
          intro w' hb
          have e2 := hb5.same (hb.block B3 hb5.lt)
          have e1 : W5.heap[p0]? = W3.heap[p0]? := hpp5
          have hlp : p0 < W5.heap.size := by have := hr5.size; omega
          have e3 : w'.cell? ⟨p0, 1, none⟩ = some (.int .i64 (y : Int)) := by
            rw [hb.cell (p := ⟨p0, 1, none⟩) hlp, World.cell?_of_block (w := W3) (w' := W5) (a := ⟨p0, 1, none⟩) e1]
            exact ((HSE.out _).1 HbS.out).2.1
          have m0 := e2.cell 0; have m1 := e2.cell 1; have m2 := e2.cell 2; have m3 := e2.cell 3; have m4 := e2.cell 4
          simp only [List.getElem?_toArray, List.getElem?_cons_zero, List.getElem?_cons_succ] at m0 m1 m2 m3 m4
          exact ⟨e3, m0, m1, m2, m3, m4⟩
        obtain ⟨m9, m0, m1, m2, m3, m4⟩ := KF W5 (Below.refl _ _)
        have C2 := Lib.hid (fun W => end_any ⟨x, y, (q : Int) + (x1.size : Int), z, false⟩ W (by show -9223372036854775808 ≤ (q : Int) + (x1.size : Int) + (z.size : Int); rw [HXS.out]; omega) (by show (q : Int) + (x1.size : Int) + (z.size : Int) ≤ 9223372036854775807; rw [HXS.out]; omega))
        simp only [Pc.val] at C2
        have HRn5 := Lib.hid hrn5; have HKF := Lib.hid KF; have HJ5 := Lib.hid hJ5
        have hrz := hr5.size
        clear KF hb5 hpp5 hrn5 hr5 hJ5 hy2 HR2
        gi_wp2
        refine wpIn_wide.2 ?_
        go_region_held3 (fun w' => w'.cell? ⟨p0, 1, none⟩ = some (.int .i64 (y : Int)) ∧ w'.cell? ⟨B3, 0, none⟩ = some (.int .i64 (x : Int)) ∧ w'.cell? ⟨B3, 1, none⟩ = some (.int .i64 (y : Int)) ∧ w'.cell? ⟨B3, 2, none⟩ = some (.int .i64 ((q : Int) + (x1.size : Int))) ∧ w'.cell? ⟨B3, 3, none⟩ = some (.string z) ∧ w'.cell? ⟨B3, 4, none⟩ = some (.bool false)) (first | with_reducible exact sE | exact HKF.out _ (Below.refl W5.heap.size W5).drew)
          (first | (go_at_call 72; refine (C2.out _).mono ?_; rintro e wE ⟨rfl, bE⟩; have sE := HKF.out _ ((Below.refl _ W5).drew.trans bE)))
        all_goals
          have hbe : Below W5.heap.size W5 wE := (Below.refl _ W5).drew.trans bE
          have HJe : Hid (J (2 * (k + 1)) T5 wE) := HO.out _ _ _ _ HJ5.out (Oth.of_below hbe)
          have HRe : Hid (Rnd T₀ T5 W wE) := HRn5.out.trans (Rnd.of_below hbe)
          have hqe : (q : Int) + (x1.size : Int) + (z.size : Int) = ((q + (x - f) + z.size : Nat) : Int) := by rw [HXS.out]; omega
          have hqb : q + (x - f) + z.size ≤ y + 100000 * (k + 1) := by omega
          have HQE := Lib.hid hqe
          clear hbe bE sE hqe m9 m0 m1 m2 m3 m4
          gi_wp2
          go_roundw
          case rel => exact ⟨k + 1, y, q + (x - f) + z.size, T5, by omega, rfl, by rw [HQE.out], by go_num, hys, hqb, HPn, HVn, HJe, HRe⟩
          case measure => simp [intOf]; omega
    · obtain rfl : n = k := by omega
      have hpl : (prl s 0 0 es).drop (2 * n) = [⟨(f : Int), (s.size : Int), (q : Int), s.extract f s.size, true⟩] := by
        rw [← HP.out, List.drop_eq_nil_of_le (by rw [HN.out]; exact Nat.le_refl _)]; rfl
      have hp1 := pg_drop hpl
      have hwbs : wr.heap[bs]? = W.heap[bs]? := HRn.out.block bs hlbs (HR.out bs (.inl rfl))
      have hcs : Boxed wr bs 9 (.string s) := hwbs.trans HBS.out
      have cs := hcs.cell
      have hY1 := HY.out (2 * n) T wr.drew (by omega) HRn.out.size (HO.out _ _ _ _ HJ.out (Oth.of_below (Below.refl _ _).drew))
      rw [hp1] at hY1
      obtain ⟨fn, tmps, assign, body, hy, hR1⟩ := hY1
      simp only [Pc.val] at hy
      have HR1 := Lib.hid hR1
      have hmx : Tryz.prog.follows .mixedOrders = true := by kernel_rfl
      clear hpl hp1 hwbs hcs hR1
      gi_wp2
      gi_region_with_o (first | (refine ⟨rfl, HR1.out.mono ?_⟩; rintro e W4 ⟨rfl, T4, hJ4, hr4⟩))
      all_goals
        gi_wp2
        go_end0
        exact ⟨⟨_, rfl⟩, T4, hJ4⟩

end Go.Proofs.YtkehgoailhpenaaGreat

/- The contracts of strings.Builder's WriteString and String. Conditions: fewer than 2^46 bytes. -/
namespace Go.Proofs.YtkehgoailhpenaaGreat
open Go.RowKit Go.Shelf
set_option linter.unusedVariables false

theorem str_cells (s : ByteArray) : Lib.strCells s = (sb s).map (Value.int .u8) := by
  simp [Lib.strCells, sb, List.map_map, Function.comp_def]

/-- Appending a string's bytes to an owned row: where the row then lies. -/
theorem append_str_at {P : Program} (w : World) (base : Nat) (t u ty e : TypeId) (i : TypeInfo) (ht : P.underlying t = some (.slice e)) (hu : P.underlying u = some .string) (hi : P.info? e = some i) (hz : i.zero = some (.int .u8 0))
    (hsize : i.size = 1) (hby : i.bytes = 1) (v : Value) (n : Nat) (xs : List Value) (hown : w.ownsRow base e 1 v n xs) (s : ByteArray)
    (h63 : n + s.size ≤ maxLen) (hbytes : n + s.size ≤ 140737488355328) (hbase : base ≤ w.heap.size) :
    ∃ v' w', (Builtin.append_ #[t, u] ty #[v, .string s]).run P w = .ok v' w' ∧ w'.ownsRow base e 1 v' (n + s.size) (xs ++ Lib.strCells s) ∧ w.grownBy w' v.ownBlock ∧
      (∀ g, v'.ownBlock = some g → v.ownBlock = some g ∨ w.heap.size ≤ g) ∧ (v' = .slice none 0 0 ↔ v = .slice none 0 0 ∧ s.size = 0) := by
  obtain ⟨v', w', hr, h2, h3, h4⟩ := Lib.run_append_own_string (P := P) w base t u ty e i ht hu hi hz hsize hby v n xs hown s h63 hbytes hbase
  refine ⟨v', w', hr, h2, h3, fun g hg => ?_, h4⟩
  have hxl : xs.length = n := by simpa using hown.1
  rcases hown.2 with ⟨rfl, rfl⟩ | ⟨g0, cap, cur, rfl, hbg, hg0, hnc, hcm, hcs, htake⟩
  · have hx : xs = [] := List.eq_nil_of_length_eq_zero hxl
    subst hx
    obtain ⟨v2, w2, hr2, k2, _⟩ := Lib.run_append_own_string (P := P) w w.heap.size t u ty e i ht hu hi hz hsize hby (.slice none 0 0) 0 [] (World.ownsRow_nil _ _ _ _) s h63 hbytes (Nat.le_refl _)
    rw [hr] at hr2
    cases hr2
    exact .inr (k2.lt g hg).1
  · by_cases hroom : n + s.size ≤ cap
    · have hcs' : cur.size = cap := by simpa using hcs
      have hr2 := Lib.run_append_room_string (P := P) w t u ty e i ht hu hi hsize g0 n cap cur hg0 s hroom (by omega)
      rw [hr] at hr2
      cases hr2
      exact .inl hg
    · have holds : ∀ j u, xs[j]? = some u → w.cell? ((⟨g0, 0, none⟩ : Addr).add j) = some u := hown.cells (g := g0) rfl
      have hr2 := Lib.run_append_grow_string (P := P) w t u ty e i (.int .u8 0) ht hu hi hz ⟨g0, 0, none⟩ n cap xs (by rw [hsize]; simpa using hxl) holds s (by omega) (by simp only [maxLen] at h63; omega) (by rw [hby]; exact growslice_fits (by omega) (by omega))
      rw [hr] at hr2
      cases hr2
      simp only [Value.ownBlock, Option.some.injEq] at hg
      exact .inr (by omega)
theorem wpList_append_str_at {P : Program} {w : World} {ops : Array Oper} {rest : List Oper} {o : Oper} {a : Act} {Q : Exit → Act → World → Prop} (hgd : o.guard = none) (sl x : Operand) (t u : TypeId)
    (ho : o.op = .call { callee := .builtin .append, args := #[sl, x], argTypes := #[t, u] })
    (base : Nat) (e : TypeId) (i : TypeInfo) (ht : P.underlying t = some (.slice e)) (hu : P.underlying u = some .string) (hi : P.info? e = some i) (hz : i.zero = some (.int .u8 0))
    (hsize : i.size = 1) (hby : i.bytes = 1) (v : Value) (n : Nat) (xs : List Value) (hs : a.eval sl = v) (hown : w.ownsRow base e 1 v n xs) (s : ByteArray) (hx : a.eval x = .string s)
    (h63 : n + s.size ≤ maxLen) (hbytes : n + s.size ≤ 140737488355328) (hbase : base ≤ w.heap.size)
    (h : ∀ v' w', w'.ownsRow base e 1 v' (n + s.size) (xs ++ Lib.strCells s) → w.grownBy w' v.ownBlock → (∀ g, v'.ownBlock = some g → v.ownBlock = some g ∨ w.heap.size ≤ g) → (v' = .slice none 0 0 ↔ v = .slice none 0 0 ∧ s.size = 0) → wpList P ops Q rest (a.put o.dst v') w') : wpList P ops Q (o :: rest) a w := by
  refine wpList_plain hgd fun K hK => ?_
  obtain ⟨v', w', hr, h2, h3, h4, h5⟩ := append_str_at (P := P) w base t u o.type e i ht hu hi hz hsize hby v n xs hown s h63 hbytes hbase
  unfold Oper.wp execOp
  simp only [ho, resolve, invoke, builtin, Sem.run_bind, Sem.run_pure, Result.andThen_ok, List.map_toArray, List.map_cons, List.map_nil, hs, hx, hr]
  exact hK _ _ (h v' w' h2 h3 h4 h5)

/-- The block b holds a builder with these bytes; T: the blocks that its methods may turn. -/
def Bl (b : Nat) (T : Nat → Prop) (Z : List Int) (w : World) : Prop :=
  ∃ p v, Blk w b 98 #[p, v] ∧ w.ownsRow (b + 1) 5 1 v Z.length (Z.map (Value.int .u8)) ∧ (p = .pointer none ∨ p = .pointer (some ⟨b, 0, none⟩)) ∧ (∀ j, T j ↔ (j = b ∨ v.ownBlock = some j)) ∧ (Z = [] → v = .slice none 0 0)
theorem Bl.lt {b : Nat} {T : Nat → Prop} {Z : List Int} {w : World} (h : Bl b T Z w) : ∀ j, T j → j < w.heap.size := by
  obtain ⟨p, v, hb, ho, _, hT, _⟩ := h
  intro j hj
  rcases (hT j).1 hj with rfl | h
  · exact hb.lt
  · exact (ho.lt j h).2
theorem Bl.at_ {b : Nat} {T : Nat → Prop} {Z : List Int} {w : World} (h : Bl b T Z w) : T b := by
  obtain ⟨p, v, hb, ho, _, hT, _⟩ := h
  exact (hT b).2 (.inl rfl)
theorem Bl.ge {b : Nat} {T : Nat → Prop} {Z : List Int} {w : World} (h : Bl b T Z w) : ∀ j, T j → b ≤ j := by
  obtain ⟨p, v, hb, ho, _, hT, _⟩ := h
  intro j hj
  rcases (hT j).1 hj with rfl | h
  · exact Nat.le_refl _
  · have := (ho.lt j h).1; omega
theorem Bl.keep {b : Nat} {T : Nat → Prop} {Z : List Int} {w w' : World} (h : Bl b T Z w) (hb : ∀ j, T j → w'.heap[j]? = w.heap[j]?) : Bl b T Z w' := by
  obtain ⟨p, v, hk, ho, hp, hT, hz⟩ := h
  exact ⟨p, v, hk.same (hb b ((hT b).2 (.inl rfl))), own_same ho (fun g hg => hb g ((hT g).2 (.inr hg))), hp, hT, hz⟩
theorem Bl.oth {b n : Nat} {T : Nat → Prop} {Z : List Int} {w w' : World} (h : Bl b T Z w) (ho : Oth T n w w') : Bl b T Z w' := h.keep (fun j hj => ho.block j (h.lt j hj) (.inr hj))

theorem infoBu : (Tryz.prog.info? 98).map (fun i => i.size) = some 2 := by kernel_rfl

set_option maxRecDepth 100000 in
set_option maxHeartbeats 1000000 in
theorem copy_used (b : Nat) (w : World) (h0 : w.cell? ⟨b, 0, none⟩ = some (.pointer (some ⟨b, 0, none⟩))) :
    Calls Tryz.prog 73 #[.pointer (some ⟨b, 0, none⟩)] w fun e w' => e = .returned (.tuple #[]) ∧ w' = w := by
  obtain ⟨j, hj, _⟩ := Option.map_eq_some_iff.1 infoBu
  go_enter Tryz.func73, Tryz.ntmps73
  go_wp2
  rw [Lib.run_neq_ptr_same w _ Tryz.underlying95 hj]
  go_wp2
  go_end0
  exact ⟨rfl, rfl⟩

set_option maxRecDepth 100000 in
set_option maxHeartbeats 1000000 in
theorem copy_fresh (b : Nat) (w : World) (h0 : w.cell? ⟨b, 0, none⟩ = some (.pointer none)) (hsh : w.shape? b = some (98, 2)) (hfz : w.frozen? ⟨b, 0, none⟩ = false) :
    Calls Tryz.prog 73 #[.pointer (some ⟨b, 0, none⟩)] w fun e w' => e = .returned (.tuple #[]) ∧ w' = w.setCell ⟨b, 0, none⟩ (.pointer (some ⟨b, 0, none⟩)) := by
  obtain ⟨j, hj, hjs⟩ := Option.map_eq_some_iff.1 infoBu
  go_enter Tryz.func73, Tryz.ntmps73
  go_wp2
  rw [Lib.run_to_unsafe w ⟨b, 0, none⟩ Tryz.underlying95 Tryz.underlying138 hj (by rw [hjs]; decide) hsh (Nat.zero_lt_succ 1)]
  simp only [Result.andThen]
  rw [Oper.upon_value]
  go_wp2
  rw [run_callFunc_extern Tryz.func87 (by kernel_rfl) (by kernel_rfl) (by kernel_rfl) (e := Extern.AbiNoEscape.same) (by kernel_rfl)]
  rw [Lib.run_noEscape]
  simp only [Result.andThen]
  rw [Oper.upon_value]
  go_wp2
  rw [Lib.run_from_unsafe w ⟨b, 0, none⟩ Tryz.underlying138 Tryz.underlying95 hj hsh (by kernel_rfl)]
  simp only [Result.andThen]
  rw [Oper.upon_value]
  go_wp2
  go_end0
  exact ⟨rfl, rfl⟩


set_option maxRecDepth 100000 in
set_option maxHeartbeats 1000000 in
theorem copy_any (b : Nat) (T : Nat → Prop) (Z : List Int) (w : World) (h : Bl b T Z w) :
    Calls Tryz.prog 73 #[.pointer (some ⟨b, 0, none⟩)] w fun e w' => e = .returned (.tuple #[]) ∧ (∃ v, Blk w' b 98 #[.pointer (some ⟨b, 0, none⟩), v] ∧ w'.ownsRow (b + 1) 5 1 v Z.length (Z.map (Value.int .u8)) ∧ (∀ j, T j ↔ (j = b ∨ v.ownBlock = some j)) ∧ (Z = [] → v = .slice none 0 0)) ∧ Below b w w' ∧ Rnd T T w w' := by
  obtain ⟨p, v, hb, ho, hp, hT, hz⟩ := h
  have hbT : T b := (hT b).2 (.inl rfl)
  rcases hp with rfl | rfl
  · have c0 : w.cell? ⟨b, 0, none⟩ = some (.pointer none) := by simpa using hb.cell 0
    refine (copy_fresh b w c0 (by unfold Blk at hb; simp [World.shape?, hb]) (hb.frozen 0)).mono ?_
    rintro e w' ⟨rfl, rfl⟩
    have hb' := hb.set 0 (.pointer (some ⟨b, 0, none⟩))
    refine ⟨rfl, ⟨v, by simpa using hb', own_same ho (fun g hg => Below.heap_setCell w _ _ g (fun e => by have := (ho.lt g hg).1; simp at e; omega)), hT, hz⟩, (Below.refl b w).setCell (p := ⟨b, 0, none⟩) (Nat.le_refl _) _, ?_⟩
    exact ⟨by simp [World.setCell], fun k _ hk => Below.heap_setCell w _ _ k (fun e => hk (by simp at e; exact e ▸ hbT)), fun _ h => .inl h⟩
  · have c0 : w.cell? ⟨b, 0, none⟩ = some (.pointer (some ⟨b, 0, none⟩)) := by simpa using hb.cell 0
    refine (copy_used b w c0).mono ?_
    rintro e w' ⟨rfl, rfl⟩
    exact ⟨rfl, ⟨v, hb, ho, hT, hz⟩, Below.refl _ _, Rnd.refl _ _⟩

theorem infoU8 : (Tryz.prog.info? 5).map (fun i => (i.zero, i.size, i.bytes)) = some (some (.int .u8 0), 1, 1) := by kernel_rfl

set_option maxRecDepth 100000 in
set_option maxHeartbeats 1000000 in
/-- WriteString. -/
theorem write_any (b : Nat) (T : Nat → Prop) (Z : List Int) (s : ByteArray) (w : World) (h : Bl b T Z w) (hl : Z.length + s.size ≤ 70000000000) :
    Calls Tryz.prog 54 #[.pointer (some ⟨b, 0, none⟩), .string s] w fun e w' => (∃ r, e = .returned (.tuple #[.int .i64 s.size, r])) ∧ (∃ T', Bl b T' (Z ++ sb s) w' ∧ Rnd T T' w w') ∧ Below b w w' := by
  obtain ⟨i0, hi, hz0, hz1, hz2⟩ := info_parts infoU8
  have C := Lib.hid (copy_any b T Z w h)
  have hTl := Lib.hid h.lt
  clear h
  go_enter Tryz.func54, Tryz.ntmps54
  go_wp2_with fail
  refine C.out.mono ?_
  rintro e w1 ⟨rfl, ⟨v, hb1, ho1, hT1, hz⟩, hB1, hR1⟩
  have HZ := Lib.hid hz
  have c0 : w1.cell? ⟨b, 0, none⟩ = some (.pointer (some ⟨b, 0, none⟩)) := by simpa using hb1.cell 0
  have c1 : w1.cell? ⟨b, 1, none⟩ = some v := by simpa using hb1.cell 1
  have HB1 := Lib.hid hb1; have HT1 := Lib.hid hT1; have HBw := Lib.hid hB1; have HR1 := Lib.hid hR1; have HO1 := Lib.hid ho1
  have hlb : b + 1 ≤ w1.heap.size := hb1.lt
  clear hb1 hT1 hB1 hR1 ho1 C hz
  go_wp2_with (at_builtin; refine wpList_append_str_at rfl _ _ 96 9 rfl (b + 1) 5 i0 Tryz.underlying96 Tryz.underlying9 hi hz0 hz1 hz2 _ _ _ rfl HO1.out s rfl ?c3 ?c4 ?c5 ?_)
  case c3 => unfold maxLen; omega
  case c4 => omega
  case c5 => exact hlb
  intro v' w2 hown' hgrow hat hnil
  have hb2 : Blk w2 b 98 #[.pointer (some ⟨b, 0, none⟩), v] := HB1.out.same (hgrow.block b (by omega) (fun e => by have := (HO1.out.lt b e.symm).1; omega))
  have d0 : w2.cell? ⟨b, 0, none⟩ = some (.pointer (some ⟨b, 0, none⟩)) := by simpa using hb2.cell 0
  have d1 : w2.cell? ⟨b, 1, none⟩ = some v := by simpa using hb2.cell 1
  have f1 : w2.frozen? ⟨b, 1, none⟩ = false := hb2.frozen 1
  obtain ⟨ao, cp, rfl⟩ := own_slice hown'
  have HB2 := Lib.hid hb2; have HO := Lib.hid hown'; have HG := Lib.hid hgrow; have HAT := Lib.hid hat; have HNL := Lib.hid hnil
  clear hb2 hown' hgrow hat hnil c0 c1
  go_wp2
  go_ret2
  refine ⟨⟨_, rfl⟩, ⟨fun j => j = b ∨ (Value.slice ao (Z.length + s.size) cp).ownBlock = some j, ⟨_, _, by simpa using HB2.out.set 1 (.slice ao (Z.length + s.size) cp), ?_, .inr rfl, fun j => Iff.rfl, fun hz0 => HNL.out.2 ⟨HZ.out (List.append_eq_nil_iff.1 hz0).1, by rw [← bs_sb s, (List.append_eq_nil_iff.1 hz0).2]; rfl⟩⟩, ?_⟩, ?_⟩
  · have h1 := own_same (C := w2.setCell ⟨b, 1, none⟩ (.slice ao (Z.length + s.size) cp)) HO.out (fun g hg => Below.heap_setCell w2 _ _ g (fun e => by have := (HO.out.lt g hg).1; simp at e; omega))
    rw [List.length_append, sb_len, List.map_append, ← str_cells]
    exact h1
  · refine ⟨by have := HR1.out.size; have := HG.out.size; simp [World.setCell]; omega, fun k hk hkT => ?_, fun k hk => ?_⟩
    · rw [Below.heap_setCell w2 _ _ k (fun e => hkT (by simp at e; exact (HT1.out k).2 (.inl e))), HG.out.block k (by have := HR1.out.size; omega) (fun e => hkT ((HT1.out k).2 (.inr e.symm)))]
      exact HR1.out.block k hk hkT
    · rcases hk with rfl | hk
      · exact .inl ((HT1.out k).2 (.inl rfl))
      · rcases HAT.out k hk with h | h
        · exact .inl ((HT1.out k).2 (.inr h))
        · exact .inr (by have := HR1.out.size; omega)
  · exact (HBw.out.grown HG.out (by omega) (fun k hk => by have := (HO1.out.lt k hk).1; omega)).setCell (p := ⟨b, 1, none⟩) (Nat.le_refl _) _

theorem cellsU8 : Tryz.prog.cellsOf 5 = 1 := by kernel_rfl

theorem rnd_freeze {T : Nat → Prop} (w : World) (g n : Nat) (hT : T g) : Rnd T T w (w.drew.freeze ⟨g, 0, none⟩ n) := by
  unfold World.freeze
  split
  · exact Rnd.of_below (Below.refl _ _).drew
  · refine ⟨by simp, fun k _ hk => ?_, fun _ h => .inl h⟩
    simp only [Array.getElem?_modify]
    rw [if_neg (fun e => hk (by rw [← e]; exact hT))]
    rfl

set_option maxRecDepth 100000 in
set_option maxHeartbeats 2000000 in
/-- String. -/
theorem string_any (b : Nat) (T : Nat → Prop) (Z : List Int) (w : World) (h : Bl b T Z w) (hz : Byt Z) (hl : Z.length ≤ 70000000000) :
    Calls Tryz.prog 55 #[.pointer (some ⟨b, 0, none⟩)] w fun e w' => e = .returned (.string (bs Z)) ∧ Below b w w' ∧ Rnd T T w w' := by
  obtain ⟨p, v, hb, ho, hp, hT, hnil⟩ := h
  have hmx : Tryz.prog.follows .mixedOrders = true := by kernel_rfl
  by_cases h0 : Z = []
  · have hv := hnil h0
    subst hv h0
    have c1 : w.cell? ⟨b, 1, none⟩ = some (.slice none 0 0) := by simpa using hb.cell 1
    have HF := Lib.hid (And.intro ((Below.refl b w).drew) (Rnd.of_below (T := T) (Below.refl w.heap.size w).drew))
    have hSD : (Builtin.unsafeSliceData_ #[96] 122 #[.slice none 0 0]).run Tryz.prog w.drew = .ok (.pointer none) w.drew := rfl
    have hUS := Lib.run_unsafeString_none (P := Tryz.prog) w.drew 122 3 9 none
    clear ho hT hnil hb hp hz
    go_enter Tryz.func55, Tryz.ntmps55
    go_wp2
    go_region_o
    all_goals (go_wp2; go_ret; exact ⟨rfl, HF.out⟩)
  · obtain ⟨l, hle⟩ : ∃ l, Z.map (fun c => UInt8.ofNat c.toNat) = l := ⟨_, rfl⟩
    have hll : l.length = Z.length := by rw [← hle]; simp
    have hl0 : l ≠ [] := fun e => h0 (by have : Z.length = 0 := by rw [← hll, e]; rfl
                                         exact List.eq_nil_of_length_eq_zero this)
    have hl1 : l.length ≠ 0 := by simpa using hl0
    obtain ⟨g, cap, cur, rfl, hbg, hg, hnc, hcm, hcs, htake⟩ : ∃ g cap cur, v = .slice (some ⟨g, 0, none⟩) Z.length cap ∧ b + 1 ≤ g ∧ w.heap[g]? = some (.cells cur 5 (0, 0)) ∧ Z.length ≤ cap ∧ cap ≤ maxLen ∧ cur.size = cap * 1 ∧ True := by
      rcases ho.2 with ⟨_, hz⟩ | ⟨g, cap, cur, hv, r1, r2, r3, r4, r5, _⟩
      · exact absurd (List.eq_nil_of_length_eq_zero hz) h0
      · exact ⟨g, cap, cur, hv, r1, r2, r3, r4, r5, trivial⟩
    have c1 : w.cell? ⟨b, 1, none⟩ = some (.slice (some ⟨g, 0, none⟩) l.length cap) := by rw [hll]; simpa using hb.cell 1
    have hSD : (Builtin.unsafeSliceData_ #[96] 122 #[.slice (some ⟨g, 0, none⟩) l.length cap]).run Tryz.prog w.drew = .ok (.pointer (some ⟨g, 0, none⟩)) w.drew :=
      Lib.run_unsafeSliceData_row _ _ _ _ _ _ (by omega)
    have hUS : (Builtin.unsafeString_ #[122, 3] 9 #[.pointer (some ⟨g, 0, none⟩), .int .i64 l.length]).run Tryz.prog w.drew = .ok (.string ⟨l.toArray⟩) (w.drew.freeze ⟨g, 0, none⟩ l.length) := by
      refine Lib.run_unsafeString_row w.drew 122 3 9 5 Tryz.underlying122 cellsU8 g cur.size (by have hg' : w.drew.heap[g]? = some (.cells cur 5 (0, 0)) := hg; simp [World.shape?, hg']) l hl0 (by omega) (by unfold maxLen at hcm; omega) ?_
      intro j x hx
      have hj : j < Z.length := by rw [← hll]; exact (List.getElem?_eq_some_iff.1 hx).1
      have := ho.cells (g := g) rfl j (.int .u8 x.toNat) (by
        rw [← hle, List.getElem?_map] at hx
        rw [List.getElem?_map]
        rw [List.getElem?_eq_getElem hj] at hx ⊢
        simp only [Option.map_some, Option.some.injEq] at hx ⊢
        have hb := hz _ (List.getElem_mem hj)
        rw [← hx]
        simp only [UInt8.toNat_ofNat']
        congr 1
        omega)
      exact this
    have hbs : bs Z = ⟨l.toArray⟩ := by unfold bs; rw [hle]
    rw [hbs]
    have HF := Lib.hid (And.intro (Lib.below_freeze (Below.drew (Below.refl b w)) (p := ⟨g, 0, none⟩) (by show b ≤ g; omega) l.length) (rnd_freeze (T := T) w g l.length ((hT g).2 (.inr rfl))))
    rw [hll] at hSD hUS HF c1
    clear ho hT hnil hb hp hz hbs hg hle hcs htake hll hl0 hl1
    go_enter Tryz.func55, Tryz.ntmps55
    go_wp2
    go_region_o
    all_goals (go_wp2; go_ret; exact ⟨rfl, HF.out⟩)

end Go.Proofs.YtkehgoailhpenaaGreat

/- The contract of the program's Apply. Conditions: texts of at most 10000000 bytes, lists of at most 1000 edits. -/
namespace Go.Proofs.YtkehgoailhpenaaGreat
open Go.RowKit Go.Shelf
set_option linter.unusedVariables false
attribute [local go_sem] Oper.semAt_some

/-- The bytes of parts. -/
def ptx (l : List Pc) : List Int := l.flatMap fun p => sb p.x
theorem ptx_byt (l : List Pc) : Byt (ptx l) := by
  intro c hc
  obtain ⟨p, _, h⟩ := List.mem_flatMap.1 hc
  exact sb_byt _ c h
theorem ptx_take {l : List Pc} {k : Nat} (h : k < l.length) : ptx (l.take (k + 1)) = ptx (l.take k) ++ sb (pg l k).x := by
  unfold ptx pg
  rw [List.take_add_one, List.getElem?_eq_getElem h, List.flatMap_append]
  simp
theorem ptx_prl (s : ByteArray) : ∀ (es : List Er) (f q : Nat), (∀ e ∈ es, 0 ≤ e.f) → ptx (prl s f q es) = appl (sb s) f (ees es) := by
  intro es
  induction es with
  | nil =>
    intro f q _
    simp only [prl, ptx, List.flatMap_cons, List.flatMap_nil, List.append_nil, ees, List.map_nil, appl]
    rw [sb_cut, List.take_of_length_le (by rw [List.length_drop, sb_len]; exact Nat.le_refl _)]
  | cons e es ih =>
    intro f q h
    simp only [prl, ptx, List.flatMap_cons]
    rw [show List.flatMap (fun p => sb p.x) (prl s e.t.toNat (q + (e.f.toNat - f) + e.x.size) es) = appl (sb s) e.t.toNat (ees es) from ih _ _ (fun x hx => h x (by simp [hx]))]
    rw [sb_cut, ees_cons]
    rfl
theorem ptx_len {s : ByteArray} : ∀ {es : List Er} {f q : Nat}, (∀ e ∈ es, e.x.size ≤ 100000) → ∀ l, l <+: prl s f q es → (ptx l).length ≤ (es.length + 1) * (s.size + 100000) := by
  intro es
  induction es with
  | nil =>
    intro f q _ l hl
    have h1 : (ptx l).length ≤ (ptx (prl s f q [])).length := by
      obtain ⟨r, hr⟩ := hl
      rw [← hr]; simp [ptx]
    have h2 : (ptx (prl s f q [])).length ≤ s.size := by simp [ptx, prl, sb_len]
    simp only [List.length_nil]; omega
  | cons e es ih =>
    intro f q h l hl
    have hx := h e (by simp)
    obtain ⟨r, hr⟩ := hl
    have h0 : (ptx l).length ≤ (ptx (prl s f q (e :: es))).length := by rw [← hr]; simp [ptx]
    have h1 : (ptx (prl s f q (e :: es))).length ≤ s.size + 100000 + (ptx (prl s e.t.toNat (q + (e.f.toNat - f) + e.x.size) es)).length := by
      simp [ptx, prl, sb_len]; omega
    have h2 := ih (f := e.t.toNat) (q := q + (e.f.toNat - f) + e.x.size) (fun x hx => h x (by simp [hx])) _ (List.prefix_refl _)
    simp only [List.length_cons]
    rw [Nat.add_mul (es.length + 1) 1]
    omega

set_option maxRecDepth 100000 in
set_option maxHeartbeats 1000000 in
theorem papply_any (s : ByteArray) (a : Option Addr) (cap : Nat) (es : List Er) (w : World) (hs : s.size ≤ 10000000) (hn : es.length ≤ 1000) (hfit : ∀ e ∈ es, e.Fit) (hS : ES w.heap.size w a cap es) :
    Calls Tryz.prog 25 #[.string s, .slice a es.length cap] w fun e w' => e = .returned (.tuple #[.string (apS s es), .int .i64 (vErr (s.size : Int) es)]) ∧ Below w.heap.size w w' := by
  have CV := Lib.hid (pvalid_any s a cap es w hs hn hfit hS)
  have HS := Lib.hid hS; have HF := Lib.hid hfit
  obtain ⟨n, hn'⟩ : ∃ n, es.length = n := ⟨_, rfl⟩
  rw [hn'] at CV hn ⊢
  by_cases hv : vErr (s.size : Int) es = 0
  · have HV := Lib.hid hv
    rw [hv] at CV ⊢
    have HN := Lib.hid hn'
    clear hv hn' hS hfit
    refine (callsIn_wide (n := 0)).1 ?_
    refine callsIn_of_wp_marks Tryz.func25 rfl trivial ?_ rfl
    simp only [Tryz.ntmps25, List.size_toArray, List.length_cons, List.length_nil, Nat.reduceAdd, Nat.reduceSub, Array.replicate_succ, Array.replicate_zero, List.push_toArray, List.append_toArray, List.nil_append, List.cons_append]
    gi_wp2_with (first | (refine ⟨trivial, rfl, ?_⟩; gi_at_call 52; refine (callsIn_wide.2 CV.out).mono ?_; rintro e w1 ⟨rfl, hb1⟩) | (refine ⟨trivial, rfl, ?_⟩; gi_at_call 53; refine (callsIn_wide.2 (parts_any _ _ _ _ _)).mono ?_; rintro e w' ⟨rfl, rfl⟩))
    obtain ⟨b0, hb0⟩ : ∃ b, w1.heap.size = b := ⟨_, rfl⟩
    obtain ⟨W0, hW0⟩ : ∃ W, ((w1.alloc (.cells #[.pointer none, .slice none 0 0] 98)).alloc (.cells #[.string s] 9)).alloc (.cells #[.slice a n cap] 38) = W := ⟨_, rfl⟩
    have hs0 : W0.heap.size = b0 + 3 := by rw [← hW0, ← hb0]; simp
    have hB0 : Below b0 w1 W0 := by rw [← hW0, ← hb0]; exact (((Below.refl _ _).alloc (Nat.le_refl _) _).alloc (by simp) _).alloc (by simp; omega) _
    have bB : Blk W0 b0 98 #[.pointer none, .slice none 0 0] := by rw [← hW0, ← hb0]; exact ((Blk.new _ _ _).alloc _).alloc _
    have bS : Boxed W0 (b0 + 1) 9 (.string s) := by
      rw [← hW0, ← hb0]
      have := Boxed.new (w1.alloc (.cells #[.pointer none, .slice none 0 0] 98)) 9 (.string s)
      rw [World.size_alloc] at this; exact this.alloc _
    have bL : Boxed W0 (b0 + 2) 38 (.slice a n cap) := by
      rw [← hW0, ← hb0]
      have := Boxed.new ((w1.alloc (.cells #[.pointer none, .slice none 0 0] 98)).alloc (.cells #[.string s] 9)) 38 (.slice a n cap)
      rw [World.size_alloc, World.size_alloc] at this; exact this
    rw [hW0, hb0]
    have hwb : w.heap.size ≤ b0 := by rw [← hb0]; exact hb1.size
    have hbw0 : Below w.heap.size w W0 := hb1.trans (hB0.mono hwb)
    have hBl0 : Bl b0 (fun j => j = b0) (ptx ((prl s 0 0 es).take 0)) W0 := ⟨_, _, bB, World.ownsRow_nil _ _ _ _, .inl rfl, fun j => by simp [Value.ownBlock], fun _ => rfl⟩
    obtain ⟨hlim, hvld, hbd⟩ := vErr_ok HV.out
    have hxs : ∀ e ∈ es, e.x.size ≤ 100000 := fun e he => (HF.out e he).x
    have hnl := HN.out
    have hG := part_giv s (b0 + 2) (b0 + 1) a cap es W0 hs HV.out hxs (by rw [hnl]; exact bL) bS ((HS.out.on hbw0))
    have hRa : ∀ k, (k = b0 + 1 ∨ 0 < es.length ∧ ∃ off, a = some ⟨k, off, none⟩) → k ≠ b0 := by
      rintro k (rfl | ⟨hp, off, rfl⟩)
      · omega
      · rcases HS.out.cells with h0 | ⟨g, o, hg, hlt, _⟩
        · omega
        · cases hg; omega
    refine wpIn_giv (gf := 71) (lb := #[.pointer (some ⟨b0 + 1 + 1, 0, none⟩), .pointer (some ⟨b0 + 1, 0, none⟩)]) rfl (enters_of Tryz.func71 (by kernel_rfl) rfl)
      hG (fun _ => rfl)
      (fun k T A => Bl b0 T (ptx ((prl s 0 0 es).take k)) A ∧ Below w.heap.size w A)
      (fun k T A C hi ho => ⟨hi.1.oth ho, hi.2.trans (ho.below (by omega) hi.2.size)⟩)
      (fun k T A hi => hi.1.lt)
      (fun j => j = b0) (fun k hk => ⟨by omega, fun h => hRa k h hk⟩) ⟨hBl0, hbw0⟩
      (fun k B => { tmps := #[.string s, .slice a n cap, undef, undef, .string ⟨#[]⟩, .int .i64 0, .int .i64 0, .pointer (some ⟨b0, 0, none⟩), .pointer (some ⟨B, 0, none⟩), .string s, .slice a n cap, .int .i64 0, .int .i64 0, .bool false, undef,
        .string s, .slice a n cap, .func (.func 71) #[] #[.pointer (some ⟨b0 + 1 + 1, 0, none⟩), .pointer (some ⟨b0 + 1, 0, none⟩)], (pg (prl s 0 0 es) k).val, undef, undef, undef, undef], defers := [] })
      (fun k => (pg (prl s 0 0 es) k).cells) 103 ?assign ?body ?done
    case assign =>
      intro l' k A K hK
      simp only [Pc.val, Pc.cells] at hK ⊢
      gi_wp2
      exact hK
    case body =>
      rintro l' k T B A hk hl hlB hBk hTB hl' hTl ⟨hBl, hBA⟩
      have hkl : k < (prl s 0 0 es).length := by rw [prl_len]; exact hk
      obtain ⟨p, hp⟩ : ∃ p, pg (prl s 0 0 es) k = p := ⟨_, rfl⟩
      simp only [hp] at hBk ⊢
      have c3 : A.cell? ⟨B, 3, none⟩ = some (.string p.x) := by simpa [Pc.cells] using hBk.cell 3
      have hxl : (ptx ((prl s 0 0 es).take k)).length + p.x.size ≤ 70000000000 := by
        have h1 := ptx_len (s := s) (f := 0) (q := 0) hxs _ (List.take_prefix (k + 1) (prl s 0 0 es))
        rw [ptx_take hkl, hp, List.length_append, sb_len] at h1
        have h2 : (es.length + 1) * (s.size + 100000) ≤ 65 * 10100000 := Nat.mul_le_mul (by omega) (by omega)
        omega
      have CW := Lib.hid (write_any b0 T _ p.x A hBl hxl)
      have HBA := Lib.hid hBA; have HP := Lib.hid hp; have HT := Lib.hid (ptx_take hkl)
      clear hBk hBl hBA hxl hp
      gi_wp2_with (refine ⟨trivial, rfl, ?_⟩; gi_at_call 54; refine (CallsIn.inRound l' (callsIn_wide.2 CW.out)).mono ?_; rintro e w' ⟨⟨r, rfl⟩, ⟨T', hb', hr'⟩, hbw⟩)
      refine ⟨T', ⟨?_, HBA.out.trans (hbw.mono hwb)⟩, hr'⟩
      rw [HT.out, HP.out]
      exact hb'
    case done =>
      rintro T A hA ⟨hBl, hBA⟩ hTw hK
      have htx : ptx ((prl s 0 0 es).take (2 * es.length + 1)) = appl (sb s) 0 (ees es) := by
        rw [List.take_of_length_le (by rw [prl_len]; exact Nat.le_refl _)]
        exact ptx_prl s es 0 0 (fun e he => (hbd e he).1)
      have hln : (ptx ((prl s 0 0 es).take (2 * es.length + 1))).length ≤ 70000000000 := by
        have h1 := ptx_len (s := s) (f := 0) (q := 0) hxs _ (List.take_prefix (2 * es.length + 1) (prl s 0 0 es))
        have h2 : (es.length + 1) * (s.size + 100000) ≤ 65 * 10100000 := Nat.mul_le_mul (by omega) (by omega)
        omega
      have CS := string_any b0 T _ A hBl (ptx_byt _) hln
      rw [htx] at CS
      have hap : bs (appl (sb s) 0 (ees es)) = apS s es := by unfold apS; rw [if_pos HV.out]
      rw [hap] at CS
      have CS := Lib.hid CS; have HBA := Lib.hid hBA; have HKK := Lib.hid hK
      clear hBl hBA htx hln hap hK
      gi_wp2_with (refine ⟨trivial, rfl, ?_⟩; gi_at_call 55; refine (callsIn_wide.2 CS.out).mono ?_; rintro e w' ⟨rfl, hbw, hrw⟩)
      have hK2 : w'.heap[W0.heap.size]? = some (.deferred (some [])) := (hrw.block _ (by omega) hTw).trans HKK.out
      have hF : Below w.heap.size w (w'.putObj W0.heap.size (.deferred none)) := (HBA.out.trans (hbw.mono hwb)).trans ⟨rfl, rfl, rfl, by simp, fun k hk => World.putObj_heap_other (by omega)⟩
      rw [hs0] at hK2 hF
      refine ⟨by simp, .inl ⟨_, _, rfl, run_takeDeferred hK2, ?_⟩⟩
      exact ⟨_, results_tmp2 rfl _ _ _, rfl, hF⟩
  · have hap : apS s es = ⟨#[]⟩ := apS_bad hv
    have HV := Lib.hid hv
    have hq : (vErr (s.size : Int) es != 0) = true := by simp [hv]
    generalize vErr (s.size : Int) es = er at CV HV hq hv ⊢
    rw [hap]
    clear hv hn' hS hfit hap
    go_enter Tryz.func25, Tryz.ntmps25
    go_wp2_with fail
    refine CV.out.mono ?_
    rintro e w1 ⟨rfl, hb1⟩
    go_wp2
    go_ret2
    exact ⟨rfl, hb1⟩

end Go.Proofs.YtkehgoailhpenaaGreat

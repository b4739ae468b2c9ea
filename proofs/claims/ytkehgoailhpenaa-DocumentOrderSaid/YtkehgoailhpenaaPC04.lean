/- Texts of one claim, put together: POrd, PCnt, PEd6, PJoin, EMath, EVal, ENorm, ECmp, EInv, EdE. Each part says what it proves and under which conditions. -/
import Derived.Test.YtkehgoailhpenaaPC03

/- The mathematics of positions: their order, and borders. It has no conditions. -/
namespace Go.Proofs.Ytkehgoailhpenaa
open Go.RowKit
set_option linter.unusedVariables false

theorem at_border {Z : List Int} {x l u : Nat} {e : Int} {U : Nat} (h : AtSpec Z (x : Int) l u e) (hb : Bord Z x U) : e = 0 ∧ Pos Z x l u := by
  rcases h with ⟨rfl, rfl, rfl, h⟩ | ⟨rfl, rfl, rfl, i, hi, h1, h2⟩ | ⟨rfl, i, hi, h⟩
  · have := hb.le; omega
  · obtain rfl : x = i := by omega
    exact absurd ⟨U, hb⟩ h2
  · obtain rfl : x = i := by omega
    exact ⟨rfl, h⟩
theorem pos_lt {Z : List Int} {x y l u m v : Nat} (h : Pos Z x l u) (k : Pos Z y m v) (hxy : x < y) : l < m ∨ (l = m ∧ u < v) := by
  obtain ⟨n, rfl⟩ : ∃ n, y = x + n := ⟨y - x, by omega⟩
  have hm := lf_mono Z x n
  rw [← h.2.1, ← k.2.1] at hm
  rcases Nat.lt_or_ge l m with h1 | h1
  · exact .inl h1
  · obtain rfl : l = m := by omega
    refine .inr ⟨rfl, ?_⟩
    have e := h.same k
    have a := h.2.2
    have b := k.2.2
    have c := (lf_le Z x).1
    rw [e] at a c
    exact a.lt b (by omega)
/-- How two positions compare. -/
theorem pos_cmp {Z : List Int} {x y l u m v : Nat} (h : Pos Z x l u) (k : Pos Z y m v) :
    (x < y ∧ l < m) ∨ (x < y ∧ l = m ∧ u < v) ∨ (x = y ∧ l = m ∧ u = v) ∨ (y < x ∧ l = m ∧ v < u) ∨ (y < x ∧ m < l) := by
  rcases Nat.lt_trichotomy x y with h1 | rfl | h1
  · rcases pos_lt h k h1 with h2 | ⟨h2, h3⟩
    · exact .inl ⟨h1, h2⟩
    · exact .inr (.inl ⟨h1, h2, h3⟩)
  · exact .inr (.inr (.inl ⟨rfl, h.det k⟩))
  · rcases pos_lt k h h1 with h2 | ⟨h2, h3⟩
    · exact .inr (.inr (.inr (.inr ⟨h1, h2⟩)))
    · exact .inr (.inr (.inr (.inl ⟨h1, h2.symm, h3⟩)))
theorem bordI_pos (Z : List Int) : 1 ≤ (bordI Z).length := by
  obtain ⟨i, hi, _⟩ := bordI_has (Bord.zero Z)
  omega

end Go.Proofs.Ytkehgoailhpenaa

/- The mathematics of borders: how many there are. It has no conditions. -/
namespace Go.Proofs.Ytkehgoailhpenaa
open Go.RowKit
set_option linter.unusedVariables false

theorem bords_pair (Z : List Int) : ∀ i, (bords i Z).Pairwise (· < ·) := by
  induction hn : Z.length using Nat.strongRecOn generalizing Z with
  | _ n ih =>
    intro i
    by_cases h : Z = []
    · subst h; rw [bords_nil]; simp
    · have h1 := chr_pos Z
      have h2 := List.length_pos_iff.2 h
      rw [bords_cons i h, List.pairwise_cons]
      refine ⟨fun x hx => ?_, ih _ (by rw [List.length_drop]; omega) _ rfl _⟩
      obtain ⟨j, u, _, rfl⟩ := mem_bords.1 hx
      omega
/-- How many of the numbers are less than k. -/
def lesser (Q : List Nat) (k : Nat) : Nat := Q.countP (fun x => decide (x < k))
theorem lesser_zero (Q : List Nat) : lesser Q 0 = 0 := by unfold lesser; rw [List.countP_eq_zero]; intro x _; simp
theorem lesser_le (Q : List Nat) (k : Nat) : lesser Q k ≤ Q.length := List.countP_le_length
theorem lesser_all {Q : List Nat} {k : Nat} (h : ∀ x ∈ Q, x < k) : lesser Q k = Q.length := by
  unfold lesser
  rw [List.countP_eq_length]
  intro x hx
  exact decide_eq_true (h x hx)
theorem lesser_step {Q : List Nat} (h : Q.Pairwise (· < ·)) (k : Nat) : lesser Q (k + 1) = lesser Q k + (if k ∈ Q then 1 else 0) := by
  induction Q with
  | nil => rfl
  | cons c Q ih =>
    rw [List.pairwise_cons] at h
    have hi := ih h.2
    unfold lesser at hi ⊢
    rw [List.countP_cons, List.countP_cons, hi]
    rcases Nat.lt_trichotomy c k with h1 | h1 | h1
    · have : (k ∈ c :: Q) ↔ (k ∈ Q) := by rw [List.mem_cons]; exact ⟨fun h => h.resolve_left (by omega), Or.inr⟩
      simp only [this]
      rw [if_pos (decide_eq_true (by omega)), if_pos (decide_eq_true h1)]; omega
    · have hk : k ∉ Q := fun hm => by have := h.1 k hm; omega
      have e1 : decide (c < k + 1) = true := decide_eq_true (by omega)
      have e2 : decide (c < k) = false := decide_eq_false (by omega)
      rw [e1, e2]
      simp [hk, h1]
    · have hk : k ∉ Q := fun hm => by have := h.1 k hm; omega
      have hk2 : k ∉ c :: Q := by rw [List.mem_cons]; rintro (e | e); · omega
                                  · exact hk e
      have e1 : decide (c < k + 1) = false := decide_eq_false (by omega)
      have e2 : decide (c < k) = false := decide_eq_false (by omega)
      rw [e1, e2]
      simp [hk, hk2]
theorem lesser_border {Z : List Int} {k U : Nat} (h : Bord Z k U) : lesser (bords 0 Z) (k + 1) = lesser (bords 0 Z) k + 1 := by
  rw [lesser_step (bords_pair Z 0), if_pos (mem_bords.2 ⟨k, U, h, by omega⟩)]
theorem lesser_none {Z : List Int} {k : Nat} (h : ¬ ∃ U, Bord Z k U) : lesser (bords 0 Z) (k + 1) = lesser (bords 0 Z) k := by
  rw [lesser_step (bords_pair Z 0), if_neg (fun hm => by obtain ⟨j, u, hb, e⟩ := mem_bords.1 hm; obtain rfl : k = j := by omega
                                                         exact h ⟨u, hb⟩)]
  rfl
theorem lesser_end (Z : List Int) : lesser (bords 0 Z) (Z.length + 1) = (bordI Z).length := by
  rw [lesser_all, bordI, List.length_map]
  intro x hx
  obtain ⟨j, u, hb, rfl⟩ := mem_bords.1 hx
  have := hb.le
  omega
theorem at_none {Z : List Int} {x l u : Nat} {e : Int} (h : AtSpec Z (x : Int) l u e) (hx : x ≤ Z.length) (hb : ¬ ∃ U, Bord Z x U) : e = 1 := by
  rcases h with ⟨rfl, rfl, rfl, h⟩ | ⟨rfl, rfl, rfl, i, hi, h1, h2⟩ | ⟨rfl, i, hi, h⟩
  · omega
  · rfl
  · obtain rfl : x = i := by omega
    exact absurd h.1 hb

end Go.Proofs.Ytkehgoailhpenaa

/- The contract of Bytes at one edit, and what two borders make of it. Conditions: texts of at most 100000 bytes. -/
namespace Go.Proofs.Ytkehgoailhpenaa
open Go.RowKit Go.Shelf
set_option linter.unusedVariables false

theorem pbytes_one (s : ByteArray) (p : PE) (d : Ed) (er : Int) (q : Nat) (w : World) (hs : s.size ≤ 100000) (hp : p.fit) (hq : Blk w q 59 p.vals.toArray) (h : EdS (sb s) p d er) :
    Calls Try.prog 30 #[.string s, .slice (some ⟨q, 0, none⟩) 1 1] w fun e w' => Below w.heap.size w w' ∧
      ((er ≠ 0 ∧ e = .returned (.tuple #[.slice none 0 0, .int .i64 er])) ∨
       (er = 0 ∧ ∃ a cap, e = .returned (.tuple #[.slice a 1 cap, .int .i64 0]) ∧ 1 ≤ cap ∧ cap ≤ 9223372036854775807 ∧ ECells w'.heap.size w' a 1 (fun _ => d))) := by
  refine (pbytes_any s (some ⟨q, 0, none⟩) 1 1 (fun _ => p) (fun _ => d) (fun _ => er) w hs (by omega) (by omega) (fun _ _ => hp) (.inr ⟨q, 0, rfl, hq.lt, fun k hk i hi => ?_⟩) (fun _ _ => h)).mono ?_
  · obtain rfl : k = 0 := by omega
    rw [hq.cell]
    simp
  · rintro e w' (⟨hl, _⟩ | ⟨_, hb, ⟨er', ⟨k, _, h1, h2, _⟩, rfl⟩ | ⟨hz, a, cap, rfl, h1, h2, h3⟩⟩)
    · omega
    · simp only at h1
      subst h1
      exact ⟨hb, .inl ⟨h2, rfl⟩⟩
    · exact ⟨hb, .inr ⟨hz 0 (by omega), a, cap, rfl, h1, h2, h3⟩⟩
theorem border_mono {Z : List Int} {i j x y : Nat} (hj : j < (bordI Z).length) (h1 : (bordI Z)[i]?.getD 0 = (x : Int)) (h2 : (bordI Z)[j]?.getD 0 = (y : Int)) (hij : i ≤ j) : x ≤ y := by
  rcases Nat.lt_or_ge i j with h | h
  · have hl : (bordI Z).length = (bords 0 Z).length := by simp [bordI]
    have hp := List.pairwise_iff_getElem.1 (bords_pair Z 0) i j (by omega) (by omega) h
    have e1 : (bordI Z)[i]?.getD 0 = (((bords 0 Z)[i]'(by omega) : Nat) : Int) := by simp [bordI, show i < (bords 0 Z).length by omega]
    have e2 : (bordI Z)[j]?.getD 0 = (((bords 0 Z)[j]'(by omega) : Nat) : Int) := by simp [bordI, show j < (bords 0 Z).length by omega]
    rw [e1] at h1
    rw [e2] at h2
    omega
  · obtain rfl : i = j := by omega
    omega
theorem ed_there {Z : List Int} {l1 u1 l2 u2 x y : Nat} (t : ByteArray) (h1 : Pos Z x l1 u1) (h2 : Pos Z y l2 u2) (h : x ≤ y) : EdS Z ⟨l1, u1, l2, u2, t⟩ ⟨x, y, t⟩ 0 :=
  ⟨x, 0, y, 0, .inl ⟨rfl, l1, u1, rfl, rfl, h1⟩, .inl ⟨rfl, l2, u2, rfl, rfl, h2⟩, .inr (.inr (.inr ⟨rfl, rfl, h, rfl, rfl⟩))⟩
theorem ed_back {Z : List Int} {l1 u1 l2 u2 x y : Nat} (t : ByteArray) (h1 : Pos Z x l1 u1) (h2 : Pos Z y l2 u2) (h : y < x) : EdS Z ⟨l1, u1, l2, u2, t⟩ Ed.zero 1 :=
  ⟨x, 0, y, 0, .inl ⟨rfl, l1, u1, rfl, rfl, h1⟩, .inl ⟨rfl, l2, u2, rfl, rfl, h2⟩, .inr (.inr (.inl ⟨rfl, rfl, h, rfl, rfl⟩))⟩

end Go.Proofs.Ytkehgoailhpenaa

/- The mathematics of joined texts: their units, lines and positions. It has no conditions. -/
namespace Go.Proofs.Ytkehgoailhpenaa
open Go.RowKit
set_option linter.unusedVariables false

theorem lnsF_append (A B : List Int) : ∀ i, lnsF i (A ++ B) = lnsF i A ++ lnsF (i + A.length) B := by
  induction A with
  | nil => intro i; simp [lnsF]
  | cons c A ih =>
    intro i
    have h : i + (c :: A).length = i + 1 + A.length := by simp; omega
    rw [List.cons_append, lnsF, lnsF, ih (i + 1), h]
    split <;> simp
theorem lnsF_shift (n : Nat) (B : List Int) : ∀ i, lnsF (n + i) B = (lnsF i B).map (fun x => (n : Int) + x) := by
  induction B with
  | nil => intro i; rfl
  | cons c B ih =>
    intro i
    rw [lnsF, lnsF, Nat.add_assoc, ih (i + 1)]
    split
    · simp
    · rfl
theorem lns_join (A B : List Int) : lns (A ++ B) = lns A ++ (lns B).tail.map (fun x => (A.length : Int) + x) := by
  have := lnsF_shift A.length B 0
  rw [Nat.add_zero] at this
  simp only [lns, lnsF_append, Nat.zero_add, List.tail_cons, this, List.cons_append]
theorem unis_join {A B : List Int} (w : Whl A) : unis (A ++ B) = unis A + unis B := by
  have h := Bord.join w (Bord.full B)
  have := h.unis_take
  rwa [List.take_of_length_le (by rw [List.length_append]; exact Nat.le_refl _)] at this
theorem ab_right (A B : List Int) (k : Nat) : ab (A ++ B) (A.length + k) = ab B k := by unfold ab; rw [List.getElem?_append_right (by omega)]; congr 2; omega
theorem lf_left (A B : List Int) (i : Nat) (hi : i ≤ A.length) : lf (A ++ B) i = lf A i := by
  induction i with
  | zero => rfl
  | succ i ih =>
    have h := ab_append (A := A) (B := B) (j := i) (by omega)
    rw [lf, lf, h, ih (by omega)]
theorem lf_join (A B : List Int) (k : Nat) : lf (A ++ B) (A.length + k) = ((lf A A.length).1 + (lf B k).1, if (lf B k).1 = 0 then (lf A A.length).2 else A.length + (lf B k).2) := by
  induction k with
  | zero => rw [Nat.add_zero, lf_left A B _ (Nat.le_refl _)]; rfl
  | succ k ih =>
    have h := ab_right A B k
    rw [← Nat.add_assoc]
    by_cases h10 : ab B k = 10
    · rw [lf_nl h10, lf_nl (h.trans h10), ih]
      simp only
      rw [if_neg (by omega)]
      congr 1
    · rw [lf_no h10, lf_no (fun e => h10 (h.symm.trans e)), ih]
theorem lf_zero_start (Z : List Int) (k : Nat) (h : (lf Z k).1 = 0) : (lf Z k).2 = 0 := by
  have := lf_line (Z := Z) (i := 0) k (by rw [Nat.zero_add, h]; rfl)
  rw [Nat.zero_add] at this
  rw [this]; rfl
/-- A position in the second one of two texts, found behind the first one. -/
theorem pos_join {A B : List Int} (w : Whl A) {L U k l u : Nat} (hA : Pos A A.length L U) (hB : Pos B k l u) : Pos (A ++ B) (A.length + k) (L + l) (if l = 0 then U + u else u) := by
  obtain ⟨V, hV⟩ := hB.1
  have hl := lf_join A B k
  have hj := Bord.join w hV
  rw [← hA.2.1, ← hB.2.1] at hl
  refine ⟨⟨_, hj⟩, by rw [hl], ?_⟩
  rw [hl]
  simp only
  by_cases h0 : l = 0
  · rw [if_pos h0, if_pos h0]
    have hs := lf_zero_start B k (by rw [← hB.2.1]; exact h0)
    have hb := hB.2.2
    rw [hs, List.drop_zero, Nat.sub_zero] at hb
    obtain ⟨UF, hF⟩ := lf_bord (Z := A) (i := A.length) (Nat.le_refl _)
    have hle := (lf_le A A.length).1
    obtain ⟨w1, h1, h2⟩ := hF.diff (Bord.full A) hle
    obtain ⟨w2, h3, h4⟩ := (hF.append (B := B) w).diff (Bord.join w hb) (by omega)
    have := h1.det hA.2.2
    have e : w2 = U + u := by omega
    rwa [← e]
  · rw [if_neg h0, if_neg h0]
    have hb := hB.2.2
    have hle := (lf_le B k).1
    rw [← List.drop_drop, List.drop_left, show A.length + k - (A.length + (lf B k).2) = k - (lf B k).2 by omega]
    exact hb

end Go.Proofs.Ytkehgoailhpenaa

/- The mathematics of edits of texts: what Apply and Invert make, and that the inverse leads back. It has no conditions. -/
namespace Go.Proofs.Ytkehgoailhpenaa
open Go.RowKit
set_option linter.unusedVariables false

/-- An edit by offsets. -/
structure Ee where
  f : Nat
  t : Nat
  x : List Int
/-- The edits are valid for a text of n bytes, behind offset p. -/
def Vld (n p : Nat) : List Ee → Prop
  | [] => p ≤ n
  | e :: l => p ≤ e.f ∧ e.f ≤ e.t ∧ e.t ≤ n ∧ Vld n e.t l
theorem Vld.le {n p : Nat} {l : List Ee} (h : Vld n p l) : p ≤ n := by
  cases l with
  | nil => exact h
  | cons e l => obtain ⟨h1, h2, h3, _⟩ := h; omega
/-- The new text from offset p of the old one on. -/
def appl (s : List Int) (p : Nat) : List Ee → List Int
  | [] => s.drop p
  | e :: l => (s.drop p).take (e.f - p) ++ (e.x ++ appl s e.t l)
/-- The inverse; q is the offset in the new text that belongs to p. -/
def invl (s : List Int) (p q : Nat) : List Ee → List Ee
  | [] => []
  | e :: l => ⟨q + (e.f - p), q + (e.f - p) + e.x.length, (s.drop e.f).take (e.t - e.f)⟩ :: invl s e.t (q + (e.f - p) + e.x.length) l
theorem mid_len {s : List Int} {p f : Nat} (h1 : p ≤ f) (h2 : f ≤ s.length) : ((s.drop p).take (f - p)).length = f - p := by
  rw [List.length_take, List.length_drop]; omega
theorem glue {s : List Int} {p f t : Nat} (h1 : p ≤ f) (h2 : f ≤ t) : (s.drop p).take (f - p) ++ ((s.drop f).take (t - f) ++ s.drop t) = s.drop p := by
  have e1 : s.drop t = (s.drop f).drop (t - f) := by rw [List.drop_drop]; congr 1; omega
  have e2 : s.drop f = (s.drop p).drop (f - p) := by rw [List.drop_drop]; congr 1; omega
  rw [e1, List.take_append_drop, e2, List.take_append_drop]
/-- Applying the inverse returns the old text. -/
theorem appl_invl {s : List Int} : ∀ {l : List Ee} {p q : Nat} {pre : List Int}, Vld s.length p l → pre.length = q → appl (pre ++ appl s p l) q (invl s p q l) = s.drop p := by
  intro l
  induction l with
  | nil =>
    intro p q pre h hq
    simp only [invl, appl]
    rw [← hq, List.drop_left]
  | cons e l ih =>
    intro p q pre h hq
    obtain ⟨h1, h2, h3, h4⟩ := h
    have hm := mid_len (s := s) h1 (by omega)
    simp only [invl, appl]
    have hd : (pre ++ ((s.drop p).take (e.f - p) ++ (e.x ++ appl s e.t l))).drop q = (s.drop p).take (e.f - p) ++ (e.x ++ appl s e.t l) := by rw [← hq, List.drop_left]
    rw [hd, Nat.add_sub_cancel_left]
    have ht : ((s.drop p).take (e.f - p) ++ (e.x ++ appl s e.t l)).take (e.f - p) = (s.drop p).take (e.f - p) := by
      conv => lhs; arg 1; rw [← hm]
      rw [List.take_left]
    rw [ht]
    have hi := ih (p := e.t) (q := q + (e.f - p) + e.x.length) (pre := pre ++ ((s.drop p).take (e.f - p) ++ e.x)) h4 (by rw [List.length_append, List.length_append, hm]; omega)
    rw [show pre ++ ((s.drop p).take (e.f - p) ++ (e.x ++ appl s e.t l)) = (pre ++ ((s.drop p).take (e.f - p) ++ e.x)) ++ appl s e.t l by simp, hi]
    exact glue h1 h2
/-- The inverse is valid for the new text. -/
theorem invl_vld {s : List Int} : ∀ {l : List Ee} {p q : Nat}, Vld s.length p l → Vld (q + (appl s p l).length) q (invl s p q l) := by
  intro l
  induction l with
  | nil => intro p q h; simp only [invl, Vld]; omega
  | cons e l ih =>
    intro p q h
    obtain ⟨h1, h2, h3, h4⟩ := h
    have hm := mid_len (s := s) h1 (by omega)
    have hi := ih (q := q + (e.f - p) + e.x.length) h4
    simp only [invl, appl, Vld, List.length_append, hm]
    refine ⟨by omega, by omega, by omega, ?_⟩
    rw [show q + (e.f - p + (e.x.length + (appl s e.t l).length)) = q + (e.f - p) + e.x.length + (appl s e.t l).length by omega]
    exact hi
theorem invl_len (s : List Int) : ∀ (l : List Ee) (p q : Nat), (invl s p q l).length = l.length := by
  intro l
  induction l with
  | nil => intro p q; rfl
  | cons e l ih => intro p q; simp [invl, ih]

end Go.Proofs.Ytkehgoailhpenaa

/- The mathematics of Valid: the error of a list of edits, and what no error means. It has no conditions. -/
namespace Go.Proofs.Ytkehgoailhpenaa
open Go.RowKit
set_option linter.unusedVariables false

/-- An edit as it comes in. -/
structure Er where
  f : Int
  t : Int
  x : ByteArray
def Er.ee (e : Er) (sb : ByteArray → List Int) : Ee := ⟨e.f.toNat, e.t.toNat, sb e.x⟩
/-- The error of the first edit that has one, behind an edit that ends at p. -/
def vE (n p : Int) : List Er → Int
  | [] => 0
  | e :: l => if e.f < 0 ∨ e.t < e.f ∨ n < e.t then 5 else if e.f < p then 1 else vE n e.t l
def vErr (n : Int) (l : List Er) : Int := if 64 < l.length then 4 else vE n 0 l
theorem vE_ways (n : Int) : ∀ (l : List Er) (p : Int), vE n p l = 0 ∨ vE n p l = 1 ∨ vE n p l = 5 := by
  intro l
  induction l with
  | nil => intro p; exact .inl rfl
  | cons e l ih =>
    intro p
    simp only [vE]
    split
    · exact .inr (.inr rfl)
    · split
      · exact .inr (.inl rfl)
      · exact ih e.t
/-- No error: the edits are valid. -/
theorem vE_ok {n : Nat} (sb : ByteArray → List Int) : ∀ {l : List Er} {p : Nat}, vE (n : Int) (p : Int) l = 0 → p ≤ n → Vld n p (l.map (fun e => e.ee sb)) ∧ ∀ e ∈ l, 0 ≤ e.f ∧ e.f ≤ e.t ∧ e.t ≤ (n : Int) := by
  intro l
  induction l with
  | nil => intro p _ hp; exact ⟨hp, by simp⟩
  | cons e l ih =>
    intro p h hp
    simp only [vE] at h
    split at h
    · omega
    · rename_i h1
      split at h
      · omega
      · rename_i h2
        have ht : ((e.t.toNat : Nat) : Int) = e.t := by omega
        have hi := ih (p := e.t.toNat) (by rw [ht]; exact h) (by omega)
        refine ⟨⟨?_, ?_, ?_, hi.1⟩, fun x hx => ?_⟩
        · show p ≤ e.f.toNat; omega
        · show e.f.toNat ≤ e.t.toNat; omega
        · show e.t.toNat ≤ n; omega
        · rcases List.mem_cons.1 hx with rfl | hx
          · omega
          · exact hi.2 x hx
/-- Valid edits have no error. -/
theorem vE_of_vld {n : Nat} (sb : ByteArray → List Int) : ∀ {l : List Er} {p : Nat}, (∀ e ∈ l, 0 ≤ e.f ∧ 0 ≤ e.t) → Vld n p (l.map (fun e => e.ee sb)) → vE (n : Int) (p : Int) l = 0 := by
  intro l
  induction l with
  | nil => intro p _ _; rfl
  | cons e l ih =>
    intro p hc h
    have h0 := hc e (by simp)
    obtain ⟨h1, h2, h3, h4⟩ := h
    have g1 : p ≤ e.f.toNat := h1
    have g2 : e.f.toNat ≤ e.t.toNat := h2
    have g3 : e.t.toNat ≤ n := h3
    have hi := ih (p := e.t.toNat) (fun x hx => hc x (by simp [hx])) h4
    rw [show ((e.t.toNat : Nat) : Int) = e.t by omega] at hi
    simp only [vE]
    rw [if_neg (by omega), if_neg (by omega)]
    exact hi

end Go.Proofs.Ytkehgoailhpenaa

/- The mathematics of normal forms: neighbors joined, edits that change nothing removed. It has no conditions. -/
namespace Go.Proofs.Ytkehgoailhpenaa
open Go.RowKit
set_option linter.unusedVariables false

/-- The edits with neighbors joined; c is the last one so far. -/
def jn (c : Ee) : List Ee → List Ee
  | [] => [c]
  | e :: l => if c.t = e.f then jn ⟨c.f, e.t, c.x ++ e.x⟩ l else c :: jn e l
def joinl : List Ee → List Ee
  | [] => []
  | e :: l => jn e l
/-- The edit changes something. -/
def Chg (s : List Int) (e : Ee) : Bool := decide ((s.drop e.f).take (e.t - e.f) ≠ e.x)
def norml (s : List Int) (l : List Ee) : List Ee := (joinl l).filter (Chg s)
theorem jn_vld {n : Nat} : ∀ {l : List Ee} {p : Nat} {c : Ee}, p ≤ c.f → c.f ≤ c.t → c.t ≤ n → Vld n c.t l → Vld n p (jn c l) := by
  intro l
  induction l with
  | nil => intro p c h1 h2 h3 h; exact ⟨h1, h2, h3, h3⟩
  | cons e l ih =>
    intro p c h1 h2 h3 h
    obtain ⟨k1, k2, k3, k4⟩ := h
    simp only [jn]
    split
    · rename_i heq
      exact ih (c := ⟨c.f, e.t, c.x ++ e.x⟩) h1 (by simp only; omega) k3 k4
    · exact ⟨h1, h2, h3, ih (c := e) k1 k2 k3 k4⟩
theorem joinl_vld {n p : Nat} {l : List Ee} (h : Vld n p l) : Vld n p (joinl l) := by
  cases l with
  | nil => exact h
  | cons e l => exact jn_vld h.1 h.2.1 h.2.2.1 h.2.2.2
theorem jn_appl {s : List Int} : ∀ {l : List Ee} {p : Nat} {c : Ee}, appl s p (jn c l) = (s.drop p).take (c.f - p) ++ (c.x ++ appl s c.t l) := by
  intro l
  induction l with
  | nil => intro p c; rfl
  | cons e l ih =>
    intro p c
    simp only [jn]
    split
    · rename_i heq
      rw [ih]
      simp only [appl, heq, Nat.sub_self, List.take_zero, List.nil_append, List.append_assoc]
    · simp only [appl]
      rw [ih]
/-- Joining neighbors leads to the same text. -/
theorem joinl_appl (s : List Int) (p : Nat) (l : List Ee) : appl s p (joinl l) = appl s p l := by
  cases l with
  | nil => rfl
  | cons e l => exact jn_appl
theorem Vld.low {n : Nat} {l : List Ee} {p q : Nat} (h : Vld n p l) (hq : q ≤ p) : Vld n q l := by
  cases l with
  | nil => have : p ≤ n := h; show q ≤ n; omega
  | cons e l => obtain ⟨h1, h2⟩ := h; exact ⟨by omega, h2⟩
theorem filter_vld {n : Nat} (f : Ee → Bool) : ∀ {l : List Ee} {p : Nat}, Vld n p l → Vld n p (l.filter f) := by
  intro l
  induction l with
  | nil => intro p h; exact h
  | cons e l ih =>
    intro p h
    obtain ⟨h1, h2, h3, h4⟩ := h
    rw [List.filter_cons]
    split
    · exact ⟨h1, h2, h3, ih h4⟩
    · exact ih (h4.low (by omega))
/-- The bytes up to the next edit come first. -/
theorem appl_low {s : List Int} {l : List Ee} {p q : Nat} (h : Vld s.length q l) (hp : p ≤ q) : appl s p l = (s.drop p).take (q - p) ++ appl s q l := by
  have hd : ∀ r, q ≤ r → s.drop q = (s.drop p).drop (q - p) := by intro r _; rw [List.drop_drop]; congr 1; omega
  cases l with
  | nil =>
    have hq : q ≤ s.length := h
    simp only [appl]
    rw [hd q (Nat.le_refl _), List.take_append_drop]
  | cons e l =>
    obtain ⟨h1, _, _, _⟩ := h
    simp only [appl]
    have e1 : e.f - p = (q - p) + (e.f - q) := by omega
    rw [e1, List.take_add, List.append_assoc, hd q (Nat.le_refl _)]
/-- Removing what changes nothing leads to the same text. -/
theorem filter_appl {s : List Int} : ∀ {l : List Ee} {p : Nat}, Vld s.length p l → appl s p (l.filter (Chg s)) = appl s p l := by
  intro l
  induction l with
  | nil => intro p _; rfl
  | cons e l ih =>
    intro p h
    obtain ⟨h1, h2, h3, h4⟩ := h
    rw [List.filter_cons]
    split
    · simp only [appl]; rw [ih h4]
    · rename_i hc
      have hx : (s.drop e.f).take (e.t - e.f) = e.x := by
        unfold Chg at hc
        simpa using hc
      rw [appl_low (filter_vld (Chg s) h4) (by omega), ih h4]
      simp only [appl]
      rw [← hx, ← List.append_assoc]
      congr 1
      have e1 : e.t - p = (e.f - p) + (e.t - e.f) := by omega
      rw [e1, List.take_add, List.drop_drop, show p + (e.f - p) = e.f by omega]
theorem norml_appl {s : List Int} {p : Nat} {l : List Ee} (h : Vld s.length p l) : appl s p (norml s l) = appl s p l := by
  unfold norml
  rw [filter_appl (joinl_vld h), joinl_appl]
theorem norml_vld {s : List Int} {p : Nat} {l : List Ee} (h : Vld s.length p l) : Vld s.length p (norml s l) := filter_vld _ (joinl_vld h)
/-- No two edits are neighbors. -/
def Sep : List Ee → Prop
  | [] => True
  | e :: l => (∀ e' ∈ l, e.t < e'.f) ∧ Sep l
theorem Vld.mem {n : Nat} : ∀ {l : List Ee} {p : Nat}, Vld n p l → ∀ e ∈ l, p ≤ e.f ∧ e.f ≤ e.t ∧ e.t ≤ n := by
  intro l
  induction l with
  | nil => intro p _ e he; simp at he
  | cons c l ih =>
    intro p h e he
    obtain ⟨h1, h2, h3, h4⟩ := h
    rcases List.mem_cons.1 he with rfl | he
    · exact ⟨h1, h2, h3⟩
    · obtain ⟨a, b, c⟩ := ih h4 e he; exact ⟨by omega, b, c⟩
theorem jn_sep {n : Nat} : ∀ {l : List Ee} {c : Ee}, c.f ≤ c.t → c.t ≤ n → Vld n c.t l → Sep (jn c l) := by
  intro l
  induction l with
  | nil => intro c _ _ _; exact ⟨by simp, trivial⟩
  | cons e l ih =>
    intro c h1 h2 h
    obtain ⟨k1, k2, k3, k4⟩ := h
    simp only [jn]
    split
    · rename_i heq
      exact ih (c := ⟨c.f, e.t, c.x ++ e.x⟩) (by simp only; omega) k3 k4
    · rename_i hne
      refine ⟨?_, ih k2 k3 k4⟩
      intro e' he'
      have := (jn_vld (p := e.f) (Nat.le_refl _) k2 k3 k4).mem e' he'
      omega
theorem joinl_sep {n p : Nat} {l : List Ee} (h : Vld n p l) : Sep (joinl l) := by
  cases l with
  | nil => trivial
  | cons e l => exact jn_sep h.2.1 h.2.2.1 h.2.2.2
theorem filter_sep (f : Ee → Bool) : ∀ {l : List Ee}, Sep l → Sep (l.filter f) := by
  intro l
  induction l with
  | nil => intro h; exact h
  | cons e l ih =>
    intro h
    rw [List.filter_cons]
    split
    · exact ⟨fun e' he' => h.1 e' (List.mem_filter.1 he').1, ih h.2⟩
    · exact ih h.2
theorem jn_of_sep : ∀ {l : List Ee} {c : Ee}, Sep (c :: l) → jn c l = c :: l := by
  intro l
  induction l with
  | nil => intro c _; rfl
  | cons e l ih =>
    intro c h
    simp only [jn]
    have := h.1 e (by simp)
    rw [if_neg (by omega), ih h.2]
theorem joinl_of_sep {l : List Ee} (h : Sep l) : joinl l = l := by
  cases l with
  | nil => rfl
  | cons e l => exact jn_of_sep h
/-- A normal form is its own normal form, and has no neighbors. -/
theorem norml_again {s : List Int} {p : Nat} {l : List Ee} (h : Vld s.length p l) : norml s (norml s l) = norml s l ∧ Sep (norml s l) := by
  have hs := filter_sep (Chg s) (joinl_sep h)
  refine ⟨?_, hs⟩
  show (joinl ((joinl l).filter (Chg s))).filter (Chg s) = (joinl l).filter (Chg s)
  rw [joinl_of_sep hs, List.filter_filter]
  simp
theorem jn_len : ∀ (l : List Ee) (c : Ee), (jn c l).length ≤ l.length + 1 := by
  intro l
  induction l with
  | nil => intro c; simp [jn]
  | cons e l ih =>
    intro c
    simp only [jn]
    split
    · have := ih ⟨c.f, e.t, c.x ++ e.x⟩; simp; omega
    · have := ih e; simp; omega
theorem norml_len (s : List Int) (l : List Ee) : (norml s l).length ≤ l.length := by
  have h1 : (norml s l).length ≤ (joinl l).length := List.length_filter_le _ _
  cases l with
  | nil => simpa [joinl] using h1
  | cons e l => have := jn_len l e; simp only [joinl] at h1; simp; omega

end Go.Proofs.Ytkehgoailhpenaa

/- The mathematics of Compose: texts whose bytes know where they come from, the list of edits that they make, and composition. It has no conditions. -/
namespace Go.Proofs.Ytkehgoailhpenaa
open Go.RowKit
set_option linter.unusedVariables false

/-- Bytes with their sources: what is kept of s comes in order, from offset at on. -/
def Src (s : List Int) : Nat → List (Int × Option Nat) → Prop
  | at_, [] => at_ ≤ s.length
  | at_, (c, none) :: r => Src s at_ r
  | at_, (c, some k) :: r => at_ ≤ k ∧ s[k]? = some c ∧ Src s (k + 1) r
theorem Src.le {s : List Int} : ∀ {r : List (Int × Option Nat)} {a : Nat}, Src s a r → a ≤ s.length := by
  intro r
  induction r with
  | nil => intro a h; exact h
  | cons z r ih =>
    intro a h
    obtain ⟨c, k⟩ := z
    cases k with
    | none => exact ih h
    | some k => have := ih h.2.2; have h1 := h.1; omega
/-- The edits that such a text makes of s. -/
def canon (n : Nat) : Nat → List Int → List (Int × Option Nat) → List Ee
  | a, x, [] => if a < n ∨ x ≠ [] then [⟨a, n, x⟩] else []
  | a, x, (c, none) :: r => canon n a (x ++ [c]) r
  | a, x, (c, some k) :: r => if a < k ∨ x ≠ [] then ⟨a, k, x⟩ :: canon n (k + 1) [] r else canon n (k + 1) [] r
theorem canon_vld {s : List Int} : ∀ {r : List (Int × Option Nat)} {a : Nat} {x : List Int}, Src s a r → Vld s.length a (canon s.length a x r) := by
  intro r
  induction r with
  | nil =>
    intro a x h
    have ha : a ≤ s.length := h
    simp only [canon]
    split
    · exact ⟨Nat.le_refl _, ha, Nat.le_refl _, Nat.le_refl _⟩
    · exact ha
  | cons z r ih =>
    intro a x h
    obtain ⟨c, k⟩ := z
    cases k with
    | none => exact ih h
    | some k =>
      obtain ⟨h1, h2, h3⟩ := h
      have := h3.le
      simp only [canon]
      split
      · exact ⟨Nat.le_refl _, h1, by simp only; omega, (ih h3).low (by show k ≤ k + 1; omega)⟩
      · exact (ih h3).low (by omega)
/-- The edits lead to the text. -/
theorem canon_appl {s : List Int} : ∀ {r : List (Int × Option Nat)} {a : Nat} {x : List Int}, Src s a r → appl s a (canon s.length a x r) = x ++ r.map Prod.fst := by
  intro r
  induction r with
  | nil =>
    intro a x h
    have ha : a ≤ s.length := h
    simp only [canon, List.map_nil, List.append_nil]
    split
    · simp [appl]
    · rename_i hn
      have h1 : a = s.length := by omega
      have h2 : x = [] := Classical.byContradiction (fun hx => hn (.inr hx))
      simp [appl, h1, h2]
  | cons z r ih =>
    intro a x h
    obtain ⟨c, k⟩ := z
    cases k with
    | none =>
      have := ih (x := x ++ [c]) h
      simpa [canon] using this
    | some k =>
      obtain ⟨h1, h2, h3⟩ := h
      have hk := h3.le
      have hi := ih (x := []) h3
      have hv := canon_vld (x := []) h3
      have one : appl s k (canon s.length (k + 1) [] r) = c :: r.map Prod.fst := by
        rw [appl_low hv (by omega), hi, Nat.add_sub_cancel_left]
        have hg : s[k]'(by omega) = c := by rw [List.getElem?_eq_getElem (by omega)] at h2; exact Option.some.inj h2
        rw [List.drop_eq_getElem_cons (by omega), hg]
        simp
      simp only [canon, List.map_cons]
      split
      · simp only [appl, Nat.sub_self, List.take_zero, List.nil_append]
        rw [one]
      · rename_i hn
        have e1 : a = k := by omega
        have e2 : x = [] := Classical.byContradiction (fun hx => hn (.inr hx))
        rw [e1, e2, one]; rfl

/-- The text after edits, with the source of each byte. -/
def srcl (s : List Int) (p : Nat) : List Ee → List (Int × Option Nat)
  | [] => (s.drop p).zipIdx p |>.map fun z => (z.1, some z.2)
  | e :: l => (((s.drop p).take (e.f - p)).zipIdx p |>.map fun z => (z.1, some z.2)) ++ (e.x.map (fun c => (c, none)) ++ srcl s e.t l)
theorem zip_fst (x : List Int) : ∀ p : Nat, ((x.zipIdx p).map fun z => ((z.1, some z.2) : Int × Option Nat)).map Prod.fst = x := by
  induction x with
  | nil => intro p; rfl
  | cons c x ih => intro p; simp [List.zipIdx_cons, ih]
theorem srcl_fst (s : List Int) : ∀ (l : List Ee) (p : Nat), (srcl s p l).map Prod.fst = appl s p l := by
  intro l
  induction l with
  | nil => intro p; exact zip_fst _ p
  | cons e l ih =>
    intro p
    have hx : (e.x.map (fun c => ((c, none) : Int × Option Nat))).map Prod.fst = e.x := by
      rw [List.map_map]
      exact List.map_id _
    simp only [srcl, appl, List.map_append, ih]
    rw [zip_fst, hx]
/-- A piece of s in front. -/
theorem src_piece {s : List Int} {r : List (Int × Option Nat)} : ∀ (n p : Nat), p + n ≤ s.length → Src s (p + n) r → Src s p ((((s.drop p).take n).zipIdx p |>.map fun z => (z.1, some z.2)) ++ r) := by
  intro n
  induction n with
  | zero => intro p _ h; simpa using h
  | succ n ih =>
    intro p hp h
    rw [List.drop_eq_getElem_cons (by omega), List.take_succ_cons, List.zipIdx_cons]
    refine ⟨Nat.le_refl _, ?_, ?_⟩
    · rw [List.getElem?_eq_getElem (by omega)]
    · exact ih (p + 1) (by omega) (by rwa [show p + 1 + n = p + (n + 1) by omega])
theorem src_new {s : List Int} {r : List (Int × Option Nat)} (x : List Int) {p : Nat} (h : Src s p r) : Src s p (x.map (fun c => ((c, none) : Int × Option Nat)) ++ r) := by
  induction x with
  | nil => exact h
  | cons c x ih => exact ih
theorem Src.low {s : List Int} {r : List (Int × Option Nat)} : ∀ {a b : Nat}, Src s a r → b ≤ a → Src s b r := by
  induction r with
  | nil => intro a b h hb; have : a ≤ s.length := h; show b ≤ s.length; omega
  | cons z r ih =>
    intro a b h hb
    obtain ⟨c, k⟩ := z
    cases k with
    | none => exact ih h hb
    | some k => exact ⟨by have := h.1; omega, h.2⟩
theorem srcl_src {s : List Int} : ∀ {l : List Ee} {p : Nat}, Vld s.length p l → Src s p (srcl s p l) := by
  intro l
  induction l with
  | nil =>
    intro p h
    have hp : p ≤ s.length := h
    have := src_piece (s := s) (r := []) (s.length - p) p (by omega) (by show p + (s.length - p) ≤ s.length; omega)
    rw [List.append_nil, List.take_of_length_le (by rw [List.length_drop]; exact Nat.le_refl _)] at this
    exact this
  | cons e l ih =>
    intro p h
    obtain ⟨h1, h2, h3, h4⟩ := h
    refine src_piece (e.f - p) p (by omega) (src_new e.x ((ih h4).low ?_))
    omega

/-- Sources in order, by places. -/
theorem src_iff {s : List Int} : ∀ {r : List (Int × Option Nat)} {a : Nat}, Src s a r ↔ a ≤ s.length ∧ (∀ (i k : Nat) (c : Int), r[i]? = some (c, some k) → a ≤ k ∧ s[k]? = some c) ∧ (∀ (i j k m : Nat) (c d : Int), i < j → r[i]? = some (c, some k) → r[j]? = some (d, some m) → k < m) := by
  intro r
  induction r with
  | nil => intro a; simp [Src]
  | cons z r ih =>
    intro a
    obtain ⟨c0, k0⟩ := z
    constructor
    · intro h
      cases k0 with
      | none =>
        obtain ⟨h1, h2, h3⟩ := ih.1 h
        refine ⟨h1, fun i k c hi => ?_, fun i j k m c d hij hi hj => ?_⟩
        · cases i with
          | zero => simp at hi
          | succ i => exact h2 i k c (by simpa using hi)
        · cases i with
          | zero => simp at hi
          | succ i =>
            cases j with
            | zero => omega
            | succ j => exact h3 i j k m c d (by omega) (by simpa using hi) (by simpa using hj)
      | some k0 =>
        obtain ⟨g1, g2, g3⟩ := h
        obtain ⟨h1, h2, h3⟩ := ih.1 g3
        refine ⟨by omega, fun i k c hi => ?_, fun i j k m c d hij hi hj => ?_⟩
        · cases i with
          | zero => simp at hi; obtain ⟨rfl, rfl⟩ := hi; exact ⟨g1, g2⟩
          | succ i => obtain ⟨x, y⟩ := h2 i k c (by simpa using hi); exact ⟨by omega, y⟩
        · cases j with
          | zero => omega
          | succ j =>
            have hj' := h2 j m d (by simpa using hj)
            cases i with
            | zero => simp at hi; obtain ⟨rfl, rfl⟩ := hi; omega
            | succ i => exact h3 i j k m c d (by omega) (by simpa using hi) (by simpa using hj)
    · rintro ⟨h1, h2, h3⟩
      have t2 : ∀ (i k : Nat) (c : Int), r[i]? = some (c, some k) → a ≤ k ∧ s[k]? = some c := fun i k c hi => h2 (i + 1) k c (by simpa using hi)
      have t3 : ∀ (i j k m : Nat) (c d : Int), i < j → r[i]? = some (c, some k) → r[j]? = some (d, some m) → k < m := fun i j k m c d hij hi hj => h3 (i + 1) (j + 1) k m c d (by omega) (by simpa using hi) (by simpa using hj)
      cases k0 with
      | none => exact ih.2 ⟨h1, t2, t3⟩
      | some k0 =>
        obtain ⟨g1, g2⟩ := h2 0 k0 c0 (by simp)
        have hlt : k0 < s.length := by have := (List.getElem?_eq_some_iff.1 g2).1; exact this
        refine ⟨g1, g2, ih.2 ⟨by omega, fun i k c hi => ⟨?_, (t2 i k c hi).2⟩, t3⟩⟩
        have := h3 0 (i + 1) k0 k c0 c (by omega) (by simp) (by simpa using hi)
        omega
/-- The sources in s of a text whose sources in t are known. -/
def thru (z1 z2 : List (Int × Option Nat)) : List (Int × Option Nat) := z2.map fun z => (z.1, z.2.bind fun k => (z1[k]?).bind Prod.snd)
theorem thru_fst (z1 z2 : List (Int × Option Nat)) : (thru z1 z2).map Prod.fst = z2.map Prod.fst := by unfold thru; rw [List.map_map]; rfl
theorem thru_src {s t : List Int} {z1 z2 : List (Int × Option Nat)} (h1 : Src s 0 z1) (ht : z1.map Prod.fst = t) (h2 : Src t 0 z2) : Src s 0 (thru z1 z2) := by
  obtain ⟨_, a2, a3⟩ := src_iff.1 h1
  obtain ⟨_, b2, b3⟩ := src_iff.1 h2
  have get : ∀ (i k : Nat) (c : Int), (thru z1 z2)[i]? = some (c, some k) → ∃ m, z2[i]? = some (c, some m) ∧ z1[m]? = some (c, some k) := by
    intro i k c hi
    unfold thru at hi
    rw [List.getElem?_map] at hi
    cases hz : z2[i]? with
    | none => simp [hz] at hi
    | some z =>
      obtain ⟨c2, m⟩ := z
      rw [hz] at hi
      simp only [Option.map_some, Option.some.injEq, Prod.mk.injEq] at hi
      obtain ⟨rfl, hm⟩ := hi
      cases m with
      | none => simp at hm
      | some m =>
        refine ⟨m, rfl, ?_⟩
        simp only [Option.bind_some] at hm
        cases hz1 : z1[m]? with
        | none => simp [hz1] at hm
        | some y =>
          obtain ⟨c1, k1⟩ := y
          rw [hz1] at hm
          simp only [Option.bind_some] at hm
          subst hm
          have hb := (b2 i m c2 hz).2
          rw [← ht, List.getElem?_map, hz1] at hb
          simp at hb
          rw [hb]
  refine src_iff.2 ⟨Nat.zero_le _, fun i k c hi => ?_, fun i j k m c d hij hi hj => ?_⟩
  · obtain ⟨m, _, hm⟩ := get i k c hi
    exact a2 m k c hm
  · obtain ⟨x, hx, hx1⟩ := get i k c hi
    obtain ⟨y, hy, hy1⟩ := get j m d hj
    exact a3 x y k m c d (b3 i j x y c d hij hx hy) hx1 hy1
/-- The composition, before its size is looked at. -/
def cmpl (s : List Int) (a b : List Ee) : List Ee := norml s (canon s.length 0 [] (thru (srcl s 0 a) (srcl (appl s 0 a) 0 b)))
/-- Composition leads to the same text as both lists, one after the other. -/
theorem cmpl_appl {s : List Int} {a b : List Ee} (ha : Vld s.length 0 a) (hb : Vld (appl s 0 a).length 0 b) : Vld s.length 0 (cmpl s a b) ∧ appl s 0 (cmpl s a b) = appl (appl s 0 a) 0 b := by
  have hs := thru_src (srcl_src ha) (srcl_fst s a 0) (srcl_src hb)
  have hv := canon_vld (x := []) hs
  refine ⟨norml_vld hv, ?_⟩
  unfold cmpl
  rw [norml_appl hv, canon_appl hs, thru_fst, srcl_fst]
  rfl

end Go.Proofs.Ytkehgoailhpenaa

/- The mathematics of Compose: a list composed with its inverse has the empty normal form. It has no conditions. -/
namespace Go.Proofs.Ytkehgoailhpenaa
open Go.RowKit
set_option linter.unusedVariables false

/-- The bytes of s from i on; those with a source lie where they lay. -/
def Stay (s : List Int) : Nat → List (Int × Option Nat) → Prop
  | i, [] => i = s.length
  | i, (c, none) :: r => s[i]? = some c ∧ Stay s (i + 1) r
  | i, (c, some k) :: r => k = i ∧ s[i]? = some c ∧ Stay s (i + 1) r
theorem canon_stay {s : List Int} : ∀ {r : List (Int × Option Nat)} {a : Nat} {x : List Int}, Stay s (a + x.length) r → (s.drop a).take x.length = x → ∀ e ∈ canon s.length a x r, Chg s e = false := by
  intro r
  induction r with
  | nil =>
    intro a x h hx e he
    have h0 : a + x.length = s.length := h
    simp only [canon] at he
    split at he
    · simp only [List.mem_singleton] at he
      subst he
      unfold Chg
      simp only [decide_eq_false_iff_not, ne_eq, Classical.not_not]
      rw [show s.length - a = x.length by omega]; exact hx
    · simp at he
  | cons z r ih =>
    intro a x h hx e he
    obtain ⟨c, k⟩ := z
    cases k with
    | none =>
      obtain ⟨h1, h2⟩ := h
      refine ih (a := a) (x := x ++ [c]) (by rw [List.length_append]; exact h2) ?_ e he
      rw [List.length_append, List.length_singleton, List.take_add_one, hx, List.getElem?_drop, h1]
      rfl
    | some k =>
      obtain ⟨rfl, h1, h2⟩ := h
      have hrest := ih (a := a + x.length + 1) (x := []) (by simpa using h2) (by simp)
      simp only [canon] at he
      split at he
      · rcases List.mem_cons.1 he with rfl | he
        · unfold Chg
          simp only [decide_eq_false_iff_not, ne_eq, Classical.not_not, Nat.add_sub_cancel_left]
          exact hx
        · exact hrest e he
      · exact hrest e he
theorem canon_sep {s : List Int} : ∀ {r : List (Int × Option Nat)} {a : Nat} {x : List Int}, Src s a r → Sep (canon s.length a x r) := by
  intro r
  induction r with
  | nil => intro a x h; simp only [canon]; split <;> simp [Sep]
  | cons z r ih =>
    intro a x h
    obtain ⟨c, k⟩ := z
    cases k with
    | none => exact ih h
    | some k =>
      obtain ⟨h1, h2, h3⟩ := h
      simp only [canon]
      split
      · refine ⟨fun e he => ?_, ih h3⟩
        have := (canon_vld (x := []) h3).mem e he
        show k < e.f
        omega
      · exact ih h3
theorem stay_piece {s : List Int} {r : List (Int × Option Nat)} (f : Nat → Option Nat) : ∀ (n p q : Nat) (t : List Int), (∀ i, i < n → t[q + i]? = s[p + i]? ∧ (f (q + i) = none ∨ f (q + i) = some (p + i))) → q + n ≤ t.length → Stay s (p + n) r →
    Stay s p (((((t.drop q).take n).zipIdx q).map fun z => (z.1, f z.2)) ++ r) := by
  intro n
  induction n with
  | zero => intro p q t _ _ h; simpa using h
  | succ n ih =>
    intro p q t ht hq h
    have h0 := ht 0 (by omega)
    rw [Nat.add_zero, Nat.add_zero] at h0
    rw [List.drop_eq_getElem_cons (by omega), List.take_succ_cons, List.zipIdx_cons, List.map_cons, List.cons_append]
    have hs : s[p]? = some (t[q]'(by omega)) := by rw [← h0.1, List.getElem?_eq_getElem (by omega)]
    have hi := ih (p + 1) (q + 1) t (fun i hi => by have := ht (i + 1) (by omega); rwa [show q + (i + 1) = q + 1 + i by omega, show p + (i + 1) = p + 1 + i by omega] at this) (by omega) (by rwa [show p + 1 + n = p + (n + 1) by omega])
    simp only
    rcases h0.2 with hf | hf
    · rw [hf]; exact ⟨hs, hi⟩
    · rw [hf]; exact ⟨rfl, hs, hi⟩

theorem stay_new {s : List Int} {r : List (Int × Option Nat)} : ∀ (x : List Int) (i : Nat), (∀ j, j < x.length → s[i + j]? = x[j]?) → Stay s (i + x.length) r → Stay s i (x.map (fun c => ((c, none) : Int × Option Nat)) ++ r) := by
  intro x
  induction x with
  | nil => intro i _ h; simpa using h
  | cons c x ih =>
    intro i hx h
    refine ⟨by simpa using hx 0 (by simp), ih (i + 1) (fun j hj => ?_) (by rwa [List.length_cons, show i + (x.length + 1) = i + 1 + x.length by omega] at h)⟩
    have := hx (j + 1) (by simp; omega)
    rw [show i + (j + 1) = i + 1 + j by omega] at this
    simpa using this
theorem piece_at (x : List Int) : ∀ (p i : Nat), ((x.zipIdx p).map fun z => ((z.1, some z.2) : Int × Option Nat))[i]? = (x[i]?).map fun c => (c, some (p + i)) := by
  induction x with
  | nil => intro p i; simp
  | cons c x ih =>
    intro p i
    rw [List.zipIdx_cons, List.map_cons]
    cases i with
    | zero => simp
    | succ i => simp only [List.getElem?_cons_succ]; rw [ih (p + 1) i]; congr 1; funext c; congr 2; omega
theorem thru_append (z a b : List (Int × Option Nat)) : thru z (a ++ b) = thru z a ++ thru z b := by unfold thru; rw [List.map_append]
theorem thru_piece (z : List (Int × Option Nat)) (x : List Int) (q : Nat) : thru z ((x.zipIdx q).map fun y => (y.1, some y.2)) = (x.zipIdx q).map fun y => (y.1, (z[y.2]?).bind Prod.snd) := by
  unfold thru
  rw [List.map_map]
  rfl
theorem thru_none (z : List (Int × Option Nat)) (x : List Int) : thru z (x.map fun c => (c, none)) = x.map fun c => (c, none) := by
  unfold thru
  rw [List.map_map]
  rfl
/-- The bytes of the text, seen through the edits and their inverse, lie where they lay. -/
theorem stay_inv {s : List Int} : ∀ {l : List Ee} {p q : Nat} {pre z1 : List (Int × Option Nat)}, Vld s.length p l → pre.length = q → z1 = pre ++ srcl s p l → Stay s p (thru z1 (srcl (z1.map Prod.fst) q (invl s p q l))) := by
  have key : ∀ {z1 pre r : List (Int × Option Nat)} {q p n : Nat}, pre.length = q → p + n ≤ s.length → z1 = pre ++ (((((s.drop p).take n).zipIdx p).map fun z => (z.1, some z.2)) ++ r) →
      ∀ i, i < n → (z1.map Prod.fst)[q + i]? = s[p + i]? ∧ ((z1[q + i]?).bind Prod.snd = none ∨ (z1[q + i]?).bind Prod.snd = some (p + i)) := by
    intro z1 pre r q p n hq hpn hz i hi
    have hl : (((s.drop p).take n).zipIdx p |>.map fun z => ((z.1, some z.2) : Int × Option Nat)).length = n := by
      rw [List.length_map, List.length_zipIdx, List.length_take, List.length_drop]; omega
    have hg : s[p + i]? = some (s[p + i]'(by omega)) := List.getElem?_eq_getElem (by omega)
    have h1 : z1[q + i]? = some (s[p + i]'(by omega), some (p + i)) := by
      rw [hz, List.getElem?_append_right (by omega), hq, Nat.add_sub_cancel_left, List.getElem?_append_left (by omega), piece_at, List.getElem?_take, if_pos hi, List.getElem?_drop, hg]
      rfl
    rw [List.getElem?_map, h1, hg]
    exact ⟨rfl, .inr rfl⟩
  intro l
  induction l with
  | nil =>
    intro p q pre z1 h hq hz
    have hp : p ≤ s.length := h
    have hz2 : z1 = pre ++ (((((s.drop p).take (s.length - p)).zipIdx p).map fun z => (z.1, some z.2)) ++ []) := by
      rw [hz, List.append_nil, List.take_of_length_le (by rw [List.length_drop]; exact Nat.le_refl _)]; rfl
    have hlen : (z1.map Prod.fst).length = q + (s.length - p) := by
      rw [hz2, List.length_map, List.length_append, List.length_append, List.length_map, List.length_zipIdx, List.length_take, List.length_drop, hq]; simp
    simp only [invl, srcl]
    rw [thru_piece]
    have hs := stay_piece (s := s) (r := []) (fun k => (z1[k]?).bind Prod.snd) (s.length - p) p q (z1.map Prod.fst) (key hq (by omega) hz2) (by omega) (by show p + (s.length - p) = s.length; omega)
    rw [List.append_nil, List.take_of_length_le (by rw [List.length_drop]; omega)] at hs
    exact hs
  | cons e l ih =>
    intro p q pre z1 h hq hz
    obtain ⟨h1, h2, h3, h4⟩ := h
    have hm := mid_len (s := s) h1 (by omega)
    have hz2 : z1 = pre ++ (((((s.drop p).take (e.f - p)).zipIdx p).map fun z => (z.1, some z.2)) ++ (e.x.map (fun c => (c, none)) ++ srcl s e.t l)) := hz
    have hlen : q + (e.f - p) ≤ (z1.map Prod.fst).length := by
      rw [hz2, List.length_map, List.length_append, List.length_append, List.length_map, List.length_zipIdx, hm, hq]; omega
    have hi := ih (p := e.t) (q := q + (e.f - p) + e.x.length) (pre := pre ++ ((((s.drop p).take (e.f - p)).zipIdx p |>.map fun z => (z.1, some z.2)) ++ e.x.map (fun c => (c, none)))) (z1 := z1) h4
      (by rw [List.length_append, List.length_append, List.length_map, List.length_map, List.length_zipIdx, hm, hq]; omega) (by rw [hz2]; simp)
    simp only [invl, srcl, Nat.add_sub_cancel_left]
    rw [thru_append, thru_append, thru_piece, thru_none]
    refine stay_piece (fun k => (z1[k]?).bind Prod.snd) (e.f - p) p q _ (key hq (by omega) hz2) hlen ?_
    rw [show p + (e.f - p) = e.f by omega]
    refine stay_new _ _ (fun j hj => ?_) ?_
    · rw [mid_len h2 h3] at hj
      rw [List.getElem?_take, if_pos hj, List.getElem?_drop]
    · rw [mid_len h2 h3, show e.f + (e.t - e.f) = e.t by omega]
      exact hi
/-- A list composed with its inverse gives the empty list. -/
theorem cmpl_inv {s : List Int} {l : List Ee} (h : Vld s.length 0 l) : cmpl s l (invl s 0 0 l) = [] := by
  have hst := stay_inv (pre := []) (z1 := srcl s 0 l) h rfl rfl
  rw [srcl_fst] at hst
  have hv : Vld (appl s 0 l).length 0 (invl s 0 0 l) := by have := invl_vld (q := 0) h; rwa [Nat.zero_add] at this
  have hsrc := thru_src (srcl_src h) (srcl_fst s l 0) (srcl_src hv)
  unfold cmpl norml
  rw [joinl_of_sep (canon_sep (x := []) hsrc), List.filter_eq_nil_iff]
  intro e he
  rw [canon_stay (a := 0) (x := []) (by simpa using hst) (by simp) e he]
  decide

end Go.Proofs.Ytkehgoailhpenaa

/- Lists of edits by offsets in memory, and edits as they come in. It has no conditions. -/
namespace Go.Proofs.Ytkehgoailhpenaa
open Go.RowKit Go.Shelf
set_option linter.unusedVariables false

/-! Bytes of texts. -/
theorem sb_cut (s : ByteArray) (f t : Nat) : sb (s.extract f t) = ((sb s).drop f).take (t - f) := by
  simp only [sb, ByteArray.data_extract, Array.toList_extract, List.map_take, List.map_drop, List.extract_eq_take_drop]
theorem sb_add (a b : ByteArray) : sb (a ++ b) = sb a ++ sb b := by simp [sb, ByteArray.data_append]
theorem bs_sb (s : ByteArray) : bs (sb s) = s := by
  unfold bs sb
  rw [List.map_map]
  have : ((fun c : Int => UInt8.ofNat c.toNat) ∘ fun c : UInt8 => (c.toNat : Int)) = id := by funext c; simp
  rw [this, List.map_id]
theorem sb_inj {a b : ByteArray} (h : sb a = sb b) : a = b := by rw [← bs_sb a, ← bs_sb b, h]
theorem bs_add {a b : List Int} : bs (a ++ b) = bs a ++ bs b := by
  apply ByteArray.ext; simp [bs, ByteArray.data_append]
theorem bs_cut (s : ByteArray) (f t : Nat) : bs (((sb s).drop f).take (t - f)) = s.extract f t := by rw [← sb_cut, bs_sb]

/-! Edits as they come in. -/
def Er.vals (e : Er) : List Value := [.int .i64 e.f, .int .i64 e.t, .string e.x]
structure Er.Fit (e : Er) : Prop where
  f1 : -9223372036854775808 ≤ e.f
  f2 : e.f ≤ 9223372036854775807
  t1 : -9223372036854775808 ≤ e.t
  t2 : e.t ≤ 9223372036854775807
  x : e.x.size ≤ 100000
def dE : Er := ⟨0, 0, ⟨#[]⟩⟩
def eg (es : List Er) (k : Nat) : Er := es[k]?.getD dE
theorem eg_eq {es : List Er} {k : Nat} (h : k < es.length) : es[k]? = some (eg es k) := by simp [eg, List.getElem?_eq_getElem h]
theorem eg_drop {es : List Er} {k : Nat} (h : k < es.length) : es.drop k = eg es k :: es.drop (k + 1) := by
  rw [List.drop_eq_getElem_cons h]; simp [eg, List.getElem?_eq_getElem h]
theorem eg_mem {es : List Er} {k : Nat} (h : k < es.length) : eg es k ∈ es := List.mem_of_getElem? (eg_eq h)
theorem eg_left {es ys : List Er} {k : Nat} (h : k < es.length) : eg (es ++ ys) k = eg es k := by simp [eg, List.getElem?_append_left h]
theorem take_eg {es : List Er} {k : Nat} (h : k < es.length) : es.take (k + 1) = es.take k ++ [eg es k] := by rw [List.take_add_one, eg_eq h]; rfl

/-- The cells of edits, one after the other. -/
def rv (es : List Er) : List Value := es.flatMap Er.vals
theorem rv_nil : rv [] = [] := rfl
theorem rv_cons (e : Er) (es : List Er) : rv (e :: es) = e.vals ++ rv es := rfl
theorem rv_add (a b : List Er) : rv (a ++ b) = rv a ++ rv b := by simp [rv]
theorem rv_snoc (a : List Er) (e : Er) : rv (a ++ [e]) = rv a ++ e.vals := by simp [rv]
theorem rv_len (es : List Er) : (rv es).length = es.length * 3 := by
  induction es with
  | nil => rfl
  | cons e es ih => rw [rv_cons, List.length_append, ih]; simp [Er.vals]; omega
theorem rv_get : ∀ (es : List Er) (k i : Nat), k < es.length → i < 3 → (rv es)[k * 3 + i]? = (eg es k).vals[i]? := by
  intro es
  induction es with
  | nil => intro k i h; simp at h
  | cons e es ih =>
    intro k i hk hi
    rw [rv_cons]
    cases k with
    | zero => rw [List.getElem?_append_left (by simp [Er.vals]; omega)]; simp [eg]
    | succ k =>
      rw [List.getElem?_append_right (by simp [Er.vals]; omega), show (k + 1) * 3 + i - e.vals.length = k * 3 + i by simp [Er.vals]; omega, ih k i (by simpa using hk) hi]
      simp [eg]

/-- The edits' cells lie in memory, below block B. -/
def RC (B : Nat) (w : World) (a : Option Addr) (es : List Er) : Prop :=
  es.length = 0 ∨ ∃ b off, a = some ⟨b, off, none⟩ ∧ b < B ∧ ∀ k, k < es.length → ∀ i, i < 3 → w.cell? ⟨b, off + k * 3 + i, none⟩ = (eg es k).vals[i]?
/-- A slice of edits lies in memory, below block B. -/
structure ES (B : Nat) (w : World) (a : Option Addr) (cap : Nat) (es : List Er) : Prop where
  le : es.length ≤ cap
  mx : cap ≤ 9223372036854775807
  nil : a = none → es.length = 0
  cells : RC B w a es
theorem ES.keep {B : Nat} {w w' : World} {a : Option Addr} {cap : Nat} {es : List Er} (h : ES B w a cap es) (hb : ∀ b, b < B → w'.heap[b]? = w.heap[b]?) : ES B w' a cap es := by
  refine ⟨h.le, h.mx, h.nil, ?_⟩
  rcases h.cells with h0 | ⟨b, off, ha, hlt, hc⟩
  · exact .inl h0
  · refine .inr ⟨b, off, ha, hlt, fun k hk i hi => ?_⟩
    rw [← hc k hk i hi]
    simp only [World.cell?, hb b hlt]
theorem ES.below {B : Nat} {w w' : World} {a : Option Addr} {cap : Nat} {es : List Er} (h : ES B w a cap es) (hb : Below B w w') : ES B w' a cap es := h.keep hb.block
theorem ES.mono {B B' : Nat} {w : World} {a : Option Addr} {cap : Nat} {es : List Er} (h : ES B w a cap es) (hb : B ≤ B') : ES B' w a cap es := by
  refine ⟨h.le, h.mx, h.nil, ?_⟩
  rcases h.cells with h0 | ⟨b, off, ha, hlt, hc⟩
  · exact .inl h0
  · exact .inr ⟨b, off, ha, by omega, hc⟩
theorem ES.on {w w' : World} {a : Option Addr} {cap : Nat} {es : List Er} (h : ES w.heap.size w a cap es) (hb : Below w.heap.size w w') : ES w'.heap.size w' a cap es := (h.below hb).mono hb.size
theorem ES.none (B : Nat) (w : World) : ES B w none 0 [] := ⟨by simp, by omega, fun _ => by simp, .inl rfl⟩
theorem RC.core {B : Nat} {w : World} {a : Option Addr} {es : List Er} (h : RC B w a es) :
    ∃ b off, (es.length = 0 ∨ (a = some ⟨b, off, none⟩ ∧ b < B)) ∧ ∀ k, k < es.length → ∀ W : World, W.heap[b]? = w.heap[b]? →
      W.cell? ⟨b, off + k * 3, none⟩ = some (.int .i64 (eg es k).f) ∧ W.cell? ⟨b, off + k * 3 + 1, none⟩ = some (.int .i64 (eg es k).t) ∧ W.cell? ⟨b, off + k * 3 + 2, none⟩ = some (.string (eg es k).x) := by
  rcases h with h0 | ⟨b, off, ha, hlt, hc⟩
  · exact ⟨0, 0, .inl h0, fun k hk => by omega⟩
  · refine ⟨b, off, .inr ⟨ha, hlt⟩, fun k hk W hW => ?_⟩
    have hh : ∀ i, i < 3 → W.cell? ⟨b, off + k * 3 + i, none⟩ = (eg es k).vals[i]? := by
      intro i hi; rw [← hc k hk i hi]; simp only [World.cell?, hW]
    exact ⟨hh 0 (by omega), hh 1 (by omega), hh 2 (by omega)⟩

theorem infoEd : (Try.prog.info? 82).map (fun i => (i.zero, i.size, i.bytes)) = some (some (.agg #[.int .i64 0, .int .i64 0, .string ⟨#[]⟩]), 3, 32) := by kernel_rfl
theorem es_of_own {w : World} {lo n : Nat} {v : Value} {es : List Er} (h : w.ownsRow lo 82 3 v n (rv es)) : n = es.length ∧ ∃ a cap, v = .slice a es.length cap ∧ ES w.heap.size w a cap es := by
  obtain ⟨a, cap, rfl⟩ := own_slice h
  have hn : n = es.length := by have := h.1; rw [rv_len] at this; omega
  subst hn
  refine ⟨rfl, a, cap, rfl, ?_⟩
  rcases h.2 with ⟨hv, h0⟩ | ⟨g, cp, cur, hv, _, hg, h1, h2, _, _⟩
  · simp only [Value.slice.injEq] at hv
    obtain ⟨rfl, _, rfl⟩ := hv
    exact ⟨by omega, by omega, fun _ => h0, .inl h0⟩
  · simp only [Value.slice.injEq, true_and] at hv
    obtain ⟨rfl, rfl⟩ := hv
    refine ⟨h1, by unfold maxLen at h2; omega, (fun h => by cases h), .inr ⟨g, 0, rfl, (Array.getElem?_eq_some_iff.1 hg).1, fun j hj i hi => ?_⟩⟩
    rw [Nat.zero_add, h.cellAt (j * 3 + i) (by omega)]
    exact rv_get es j i hj hi

/-- A call hands back a slice of these edits and an error. -/
def NewES (w : World) (es : List Er) (er : Int) (e : Ending) (w' : World) : Prop :=
  ∃ a cap, e = .returned (.tuple #[.slice a es.length cap, .int .i64 er]) ∧ ES w'.heap.size w' a cap es ∧ Below w.heap.size w w'
/-- A call hands back a slice of these edits. -/
def NewE1 (w : World) (es : List Er) (e : Ending) (w' : World) : Prop :=
  ∃ a cap, e = .returned (.slice a es.length cap) ∧ ES w'.heap.size w' a cap es ∧ Below w.heap.size w w'

/-! From edits as they come in to edits by offsets, and back. -/
def ees (es : List Er) : List Ee := es.map fun e => e.ee sb
def er (e : Ee) : Er := ⟨e.f, e.t, bs e.x⟩
def ers (l : List Ee) : List Er := l.map er
theorem ers_len (l : List Ee) : (ers l).length = l.length := by simp [ers]
theorem ees_len (l : List Er) : (ees l).length = l.length := by simp [ees]
theorem ees_ers {l : List Ee} (h : ∀ e ∈ l, Byt e.x) : ees (ers l) = l := by
  unfold ees ers
  rw [List.map_map]
  conv => rhs; rw [← List.map_id l]
  refine List.map_congr_left fun e he => ?_
  obtain ⟨f, t, x⟩ := e
  simp only [Function.comp, er, Er.ee, sb_bs (h _ he), Int.toNat_natCast, id]
theorem ees_cons (e : Er) (l : List Er) : ees (e :: l) = e.ee sb :: ees l := rfl
theorem ees_drop (es : List Er) (k : Nat) : ees (es.drop k) = (ees es).drop k := by simp [ees, List.map_drop]
theorem ees_byt (es : List Er) : ∀ e ∈ ees es, Byt e.x := by
  intro e he
  obtain ⟨x, _, rfl⟩ := List.mem_map.1 he
  exact sb_byt _
theorem vErr_ok {n : Nat} {es : List Er} (h : vErr (n : Int) es = 0) : es.length ≤ 64 ∧ Vld n 0 (ees es) ∧ ∀ e ∈ es, 0 ≤ e.f ∧ e.f ≤ e.t ∧ e.t ≤ (n : Int) := by
  unfold vErr at h
  split at h
  · omega
  · have := vE_ok sb (n := n) (p := 0) h (by omega)
    exact ⟨by omega, this.1, this.2⟩
theorem vErr_ways (n : Int) (es : List Er) : vErr n es = 0 ∨ vErr n es = 1 ∨ vErr n es = 4 ∨ vErr n es = 5 := by
  unfold vErr
  split
  · simp
  · rcases vE_ways n es 0 with h | h | h <;> simp [h]
theorem vErr_ers {n : Nat} {l : List Ee} (h : Vld n 0 l) (hl : l.length ≤ 64) (hb : ∀ e ∈ l, Byt e.x) : vErr (n : Int) (ers l) = 0 := by
  unfold vErr
  rw [if_neg (by rw [ers_len]; omega)]
  refine vE_of_vld sb (p := 0) (fun e he => ?_) ?_
  · obtain ⟨x, _, rfl⟩ := List.mem_map.1 he
    exact ⟨Int.natCast_nonneg _, Int.natCast_nonneg _⟩
  · rw [show (ers l).map (fun e => e.ee sb) = ees (ers l) from rfl, ees_ers hb]; exact h
theorem appl_byt {s : List Int} (hs : Byt s) : ∀ {l : List Ee} {p : Nat}, (∀ e ∈ l, Byt e.x) → Byt (appl s p l) := by
  intro l
  induction l with
  | nil => intro p _; exact hs.drop p
  | cons e l ih =>
    intro p h c hc
    simp only [appl, List.mem_append] at hc
    rcases hc with hc | hc | hc
    · exact (hs.drop p).take _ c hc
    · exact h e (by simp) c hc
    · exact ih (fun x hx => h x (by simp [hx])) c hc
/-- The new text, or the empty one if the edits are not valid. -/
def apS (s : ByteArray) (es : List Er) : ByteArray := if vErr (s.size : Int) es = 0 then bs (appl (sb s) 0 (ees es)) else ⟨#[]⟩
theorem apS_ok {s : ByteArray} {es : List Er} (h : vErr (s.size : Int) es = 0) : sb (apS s es) = appl (sb s) 0 (ees es) := by
  unfold apS
  rw [if_pos h, sb_bs (appl_byt (sb_byt s) (ees_byt es))]
theorem apS_bad {s : ByteArray} {es : List Er} (h : vErr (s.size : Int) es ≠ 0) : apS s es = ⟨#[]⟩ := by unfold apS; rw [if_neg h]

end Go.Proofs.Ytkehgoailhpenaa

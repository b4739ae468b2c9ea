/- EOw, with the texts that only it needs in front of it: EMap, EMq. It has no conditions. -/
import Derived.Test.YtfhpllcdlejfjaaEMath
import Derived.Test.YtfhpllcdlejfjaaEMp
import Derived.BigQuiet
import Derived.Deep.QuietTactic
import Derived.Test.YtfhpllcdlejfjaaEIw

/- The mathematics of Map: where an offset is behind valid edits. It has no conditions. -/
namespace Go.Proofs.Ytfhpllcdlejfjaa
open Go.RowKit
set_option linter.unusedVariables false

/-- The edit lies before the offset. -/
def Bef (e : Ee) (off : Nat) : Prop := e.t < off ∨ (e.t = off ∧ e.f < e.t)
instance (e : Ee) (off : Nat) : Decidable (Bef e off) := by unfold Bef; exact inferInstance
/-- The offset in the new text, before insertions; q belongs to p. -/
def lowF : List Ee → Nat → Nat → Nat → Nat
  | [], p, q, off => q + (off - p)
  | e :: l, p, q, off => if Bef e off then lowF l e.t (q + (e.f - p) + e.x.length) off else if e.f < off then q + (e.f - p) else q + (off - p)
/-- The offset in the new text, after insertions. -/
def highF : List Ee → Nat → Nat → Nat → Nat
  | [], p, q, off => q + (off - p)
  | e :: l, p, q, off => if Bef e off then highF l e.t (q + (e.f - p) + e.x.length) off else if e.f < off then q + (e.f - p) + e.x.length else if e.t = off then highF l e.t (q + (e.f - p) + e.x.length) off else q + (off - p)
theorem lowF_ge {n : Nat} : ∀ {l : List Ee} {p q off : Nat}, Vld n p l → q ≤ lowF l p q off := by
  intro l
  induction l with
  | nil => intro p q off _; simp only [lowF]; omega
  | cons e l ih =>
    intro p q off h
    simp only [lowF]
    split
    · have := ih (q := q + (e.f - p) + e.x.length) (off := off) h.2.2.2; omega
    · split <;> omega
theorem highF_ge {n : Nat} : ∀ {l : List Ee} {p q off : Nat}, Vld n p l → q ≤ highF l p q off := by
  intro l
  induction l with
  | nil => intro p q off _; simp only [highF]; omega
  | cons e l ih =>
    intro p q off h
    have := ih (q := q + (e.f - p) + e.x.length) (off := off) h.2.2.2
    simp only [highF]
    split
    · omega
    · split
      · omega
      · split <;> omega
theorem lowF_mono {n : Nat} : ∀ {l : List Ee} {p q a b : Nat}, Vld n p l → p ≤ a → a ≤ b → lowF l p q a ≤ lowF l p q b := by
  intro l
  induction l with
  | nil => intro p q a b _ _ _; simp only [lowF]; omega
  | cons e l ih =>
    intro p q a b h hp hab
    obtain ⟨h1, h2, h3, h4⟩ := h
    simp only [lowF]
    by_cases ha : Bef e a
    · have hb : Bef e b := by unfold Bef at ha ⊢; omega
      have hta : e.t ≤ a := by unfold Bef at ha; omega
      rw [if_pos ha, if_pos hb]
      exact ih h4 hta hab
    · rw [if_neg ha]
      by_cases hb : Bef e b
      · rw [if_pos hb]
        have := lowF_ge (n := n) (q := q + (e.f - p) + e.x.length) (off := b) h4
        split <;> omega
      · rw [if_neg hb]
        split <;> split <;> omega
theorem highF_mono {n : Nat} : ∀ {l : List Ee} {p q a b : Nat}, Vld n p l → p ≤ a → a ≤ b → highF l p q a ≤ highF l p q b := by
  intro l
  induction l with
  | nil => intro p q a b _ _ _; simp only [highF]; omega
  | cons e l ih =>
    intro p q a b h hp hab
    obtain ⟨h1, h2, h3, h4⟩ := h
    have hg := highF_ge (n := n) (q := q + (e.f - p) + e.x.length) (off := b) h4
    simp only [highF]
    by_cases ha : Bef e a
    · have hb : Bef e b := by unfold Bef at ha ⊢; omega
      have hta : e.t ≤ a := by unfold Bef at ha; omega
      rw [if_pos ha, if_pos hb]
      exact ih h4 hta hab
    · rw [if_neg ha]
      by_cases hb : Bef e b
      · rw [if_pos hb]
        split
        · omega
        · split
          · rename_i h5 h6
            exact ih h4 (by omega) hab
          · omega
      · rw [if_neg hb]
        by_cases hfa : e.f < a
        · rw [if_pos hfa, if_pos (by omega)]; omega
        · rw [if_neg hfa]
          by_cases hta : e.t = a
          · rw [if_pos hta]
            by_cases hab2 : a = b
            · subst hab2; rw [if_neg hfa, if_pos hta]; exact Nat.le_refl _
            · exfalso; unfold Bef at hb; omega
          · rw [if_neg hta]
            split
            · omega
            · split <;> omega
theorem low_le_high {n : Nat} : ∀ {l : List Ee} {p q off : Nat}, Vld n p l → p ≤ off → lowF l p q off ≤ highF l p q off := by
  intro l
  induction l with
  | nil => intro p q off _ _; exact Nat.le_refl _
  | cons e l ih =>
    intro p q off h hp
    obtain ⟨h1, h2, h3, h4⟩ := h
    have hg := highF_ge (n := n) (q := q + (e.f - p) + e.x.length) (off := off) h4
    simp only [lowF, highF]
    by_cases ha : Bef e off
    · rw [if_pos ha, if_pos ha]
      exact ih h4 (by unfold Bef at ha; omega)
    · rw [if_neg ha, if_neg ha]
      split
      · omega
      · split <;> omega
/-- No offset leads behind the new text, and the end leads to the end. -/
theorem high_le {s : List Int} : ∀ {l : List Ee} {p q off : Nat}, Vld s.length p l → p ≤ off → off ≤ s.length → highF l p q off ≤ q + (appl s p l).length := by
  intro l
  induction l with
  | nil => intro p q off _ hp ho; simp only [highF, appl, List.length_drop]; omega
  | cons e l ih =>
    intro p q off h hp ho
    obtain ⟨h1, h2, h3, h4⟩ := h
    have hm := mid_len (s := s) h1 (by omega)
    simp only [highF, appl, List.length_append, hm]
    by_cases ha : Bef e off
    · rw [if_pos ha]
      have := ih (q := q + (e.f - p) + e.x.length) h4 (by unfold Bef at ha; omega) ho
      omega
    · rw [if_neg ha]
      split
      · omega
      · split
        · have := ih (q := q + (e.f - p) + e.x.length) h4 (by omega) ho
          omega
        · unfold Bef at ha; omega
theorem high_end {s : List Int} : ∀ {l : List Ee} {p q : Nat}, Vld s.length p l → highF l p q s.length = q + (appl s p l).length := by
  intro l
  induction l with
  | nil => intro p q h; simp only [highF, appl, List.length_drop]
  | cons e l ih =>
    intro p q h
    obtain ⟨h1, h2, h3, h4⟩ := h
    have hm := mid_len (s := s) h1 (by omega)
    have hi := ih (q := q + (e.f - p) + e.x.length) h4
    simp only [highF, appl, List.length_append, hm]
    by_cases ha : Bef e s.length
    · rw [if_pos ha, hi]; omega
    · rw [if_neg ha]
      have hte : e.t = s.length ∧ e.f = s.length := by unfold Bef at ha; omega
      rw [if_neg (by omega), if_pos hte.1, hi]; omega
theorem low_start {n : Nat} {l : List Ee} {q : Nat} (h : Vld n 0 l) : lowF l 0 q 0 = q := by
  cases l with
  | nil => simp [lowF]
  | cons e l =>
    simp only [lowF]
    rw [if_neg (by unfold Bef; omega), if_neg (by omega)]; omega
/-- A byte that no edit replaces is found at its image. -/
theorem kept_image {s : List Int} : ∀ {l : List Ee} {p q off : Nat}, Vld s.length p l → p ≤ off → off < s.length → (∀ e ∈ l, off < e.f ∨ e.t ≤ off) → highF l p q off < q + (appl s p l).length ∧ (appl s p l)[highF l p q off - q]? = s[off]? := by
  intro l
  induction l with
  | nil =>
    intro p q off _ hp ho _
    simp only [highF, appl, List.length_drop, List.getElem?_drop]
    exact ⟨by omega, by congr 1; omega⟩
  | cons e l ih =>
    intro p q off h hp ho hk
    obtain ⟨h1, h2, h3, h4⟩ := h
    have hm := mid_len (s := s) h1 (by omega)
    have hke := hk e (by simp)
    have hkl : ∀ e' ∈ l, off < e'.f ∨ e'.t ≤ off := fun e' he' => hk e' (by simp [he'])
    have step : e.t ≤ off → highF l e.t (q + (e.f - p) + e.x.length) off < q + (appl s p (e :: l)).length ∧ (appl s p (e :: l))[highF l e.t (q + (e.f - p) + e.x.length) off - q]? = s[off]? := by
      intro ht
      obtain ⟨a, b⟩ := ih (q := q + (e.f - p) + e.x.length) h4 ht ho hkl
      have hg := highF_ge (n := s.length) (q := q + (e.f - p) + e.x.length) (off := off) h4
      simp only [appl, List.length_append, hm]
      refine ⟨by omega, ?_⟩
      rw [List.getElem?_append_right (by rw [hm]; omega), List.getElem?_append_right (by rw [hm]; omega), hm, ← b]
      congr 1; omega
    simp only [highF]
    by_cases ha : Bef e off
    · rw [if_pos ha]
      exact step (by unfold Bef at ha; omega)
    · rw [if_neg ha]
      by_cases hf : e.f < off
      · exfalso; unfold Bef at ha; omega
      · rw [if_neg hf]
        by_cases ht : e.t = off
        · rw [if_pos ht]; exact step (by omega)
        · rw [if_neg ht]
          simp only [appl, List.length_append, hm]
          refine ⟨by omega, ?_⟩
          rw [Nat.add_sub_cancel_left, List.getElem?_append_left (by rw [hm]; omega), List.getElem?_take, if_pos (by omega), List.getElem?_drop]
          congr 1; omega

/-- The reference's loop. -/
def mapl (off : Int) (af : Bool) : List Ee → Int → Int → Int
  | [], d, m => if af then off + d + m else off + d
  | e :: l, d, m =>
    if (e.t : Int) < off ∨ ((e.t : Int) = off ∧ (e.f : Int) < (e.t : Int)) then mapl off af l (d + e.x.length - ((e.t : Int) - (e.f : Int))) m
    else if (e.f : Int) < off then (if af then (e.f : Int) + d + e.x.length else (e.f : Int) + d)
    else if (e.t : Int) = off then mapl off af l d (m + e.x.length) else mapl off af l d m
/-- Edits behind the offset leave it, but for insertions. -/
theorem mapl_behind_low {n : Nat} : ∀ {l : List Ee} {p : Nat} {off : Nat} {d m : Int}, Vld n p l → off ≤ p → mapl (off : Int) false l d m = (off : Int) + d := by
  intro l
  induction l with
  | nil => intro p off d m _ _; simp [mapl]
  | cons e l ih =>
    intro p off d m h hp
    obtain ⟨h1, h2, h3, h4⟩ := h
    simp only [mapl]
    rw [if_neg (by omega), if_neg (by omega)]
    split
    · exact ih h4 (by omega)
    · exact ih h4 (by omega)
theorem mapl_low {n : Nat} : ∀ {l : List Ee} {p q off : Nat} {m : Int}, Vld n p l → p ≤ off → mapl (off : Int) false l ((q : Int) - (p : Int)) m = (lowF l p q off : Int) := by
  intro l
  induction l with
  | nil => intro p q off m _ hp; simp only [mapl, lowF]; rw [if_neg (by simp)]; omega
  | cons e l ih =>
    intro p q off m h hp
    obtain ⟨h1, h2, h3, h4⟩ := h
    simp only [mapl, lowF]
    by_cases ha : Bef e off
    · have ha2 := ha
      unfold Bef at ha2
      rw [if_pos ha, if_pos (by omega), ← ih (q := q + (e.f - p) + e.x.length) (m := m) h4 (by omega)]
      congr 1; omega
    · have ha2 := ha
      unfold Bef at ha2
      rw [if_neg ha, if_neg (by omega)]
      by_cases hf : e.f < off
      · rw [if_pos hf, if_pos (by omega)]; simp; omega
      · rw [if_neg hf, if_neg (by omega)]
        split
        · rw [mapl_behind_low (n := n) h4 (by omega)]; omega
        · rw [mapl_behind_low (n := n) h4 (by omega)]; omega
theorem mapl_behind_high {n : Nat} : ∀ {l : List Ee} {p : Nat} {off : Nat} {d m : Int}, Vld n p l → off < p → mapl (off : Int) true l d m = (off : Int) + d + m := by
  intro l
  induction l with
  | nil => intro p off d m _ _; simp [mapl]
  | cons e l ih =>
    intro p off d m h hp
    obtain ⟨h1, h2, h3, h4⟩ := h
    simp only [mapl]
    rw [if_neg (by omega), if_neg (by omega), if_neg (by omega)]
    exact ih h4 (by omega)
theorem highF_shift : ∀ (l : List Ee) (p q k off : Nat), highF l p (q + k) off = highF l p q off + k := by
  intro l
  induction l with
  | nil => intro p q k off; simp only [highF]; omega
  | cons e l ih =>
    intro p q k off
    have h1 : q + k + (e.f - p) + e.x.length = (q + (e.f - p) + e.x.length) + k := by omega
    simp only [highF]
    rw [h1, ih]
    split
    · rfl
    · split
      · omega
      · split <;> omega
theorem mapl_high {n : Nat} : ∀ {l : List Ee} {p q off : Nat} {m : Int}, Vld n p l → p ≤ off → (m ≠ 0 → p = off) → mapl (off : Int) true l ((q : Int) - (p : Int)) m = (highF l p q off : Int) + m := by
  intro l
  induction l with
  | nil => intro p q off m _ hp _; simp only [mapl, highF]; rw [if_pos (by trivial)]; omega
  | cons e l ih =>
    intro p q off m h hp hm
    obtain ⟨h1, h2, h3, h4⟩ := h
    simp only [mapl, highF]
    by_cases ha : Bef e off
    · have ha2 := ha
      unfold Bef at ha2
      rw [if_pos ha, if_pos (by omega), ← ih (q := q + (e.f - p) + e.x.length) (m := m) h4 (by omega) (fun h => by have := hm h; omega)]
      congr 1; omega
    · have ha2 := ha
      unfold Bef at ha2
      rw [if_neg ha, if_neg (by omega)]
      by_cases hf : e.f < off
      · have hm0 : m = 0 := by
          apply Classical.byContradiction
          intro h
          have := hm h
          omega
        rw [if_pos hf, if_pos (by omega), if_pos (by trivial)]; omega
      · rw [if_neg hf, if_neg (by omega)]
        by_cases ht : e.t = off
        · rw [if_pos ht, if_pos (by omega)]
          have h5 := ih (q := q + (e.f - p)) (m := m + e.x.length) h4 (by omega) (fun _ => ht)
          rw [highF_shift, show (q : Int) - (p : Int) = ((q + (e.f - p) : Nat) : Int) - (e.t : Int) by omega, h5]
          omega
        · rw [if_neg ht, if_neg (by omega), mapl_behind_high (n := n) h4 (by omega)]
          omega

end Go.Proofs.Ytfhpllcdlejfjaa

/- The contracts of the reference's sound and Map. Conditions: lists of at most 1000 edits whose offsets, like the offset, lie within 2^42 of 0. -/
namespace Go.Proofs.Ytfhpllcdlejfjaa
open Go.RowKit Go.Shelf
set_option linter.unusedVariables false

/-- The reference's loop. -/
def mqR (off : Int) (af : Bool) : List Er → Int → Int → Int
  | [], d, m => if af then off + d + m else off + d
  | e :: l, d, m =>
    if e.t < off ∨ (e.t = off ∧ e.f < e.t) then mqR off af l (d + e.x.size - (e.t - e.f)) m
    else if e.f < off then (if af then e.f + d + e.x.size else e.f + d)
    else if e.t = off then mqR off af l d (m + e.x.size) else mqR off af l d m
/-- Both loops lead to the same offset. -/
theorem mq_mp (off : Int) (af : Bool) : ∀ (l : List Er) (p d m : Int), vE 9223372036854775807 p l = 0 → (m ≠ 0 → off ≤ p) → mqR off af l d m = mpP off af l (if af then d + m else d) := by
  intro l
  induction l with
  | nil => intro p d m _ _; cases af <;> simp [mqR, mpP] <;> omega
  | cons e l ih =>
    intro p d m h hm
    simp only [vE] at h
    by_cases h1 : e.f < 0 ∨ e.t < e.f ∨ 9223372036854775807 < e.t
    · rw [if_pos h1] at h; omega
    rw [if_neg h1] at h
    by_cases h2 : e.f < p
    · rw [if_pos h2] at h; omega
    rw [if_neg h2] at h
    simp only [mqR, mpP]
    by_cases h3 : e.t < off ∨ (e.t = off ∧ e.f < e.t)
    · rw [if_pos h3, if_neg (by omega), if_neg (by omega), if_pos (by omega), ih e.t _ m h (fun x => by have := hm x; omega)]
      refine congrArg (mpP off af l) ?_
      cases af <;> simp <;> omega
    · rw [if_neg h3]
      by_cases h4 : e.f < off
      · rw [if_pos h4, if_pos (show e.f < off ∧ off < e.t by omega)]
        have hm0 : m = 0 := by
          by_cases h0 : m = 0
          · exact h0
          · have := hm h0; omega
        subst hm0
        cases af <;> simp
      · by_cases h5 : e.t = off
        · rw [if_neg h4, if_pos h5, if_neg (by omega), if_pos (by omega), ih e.t d _ h (fun _ => by omega)]
          cases af
          · rfl
          · simp only [if_true]
            refine congrArg (mpP off true l) ?_
            omega
        · rw [if_neg h4, if_neg h5, if_neg (by omega), if_neg (by omega), if_neg (by omega), ih e.t d m h (fun x => by have := hm x; omega)]

def snd? (es : List Er) : Bool := decide (vErr 9223372036854775807 es = 0)
theorem vE_rest {n p : Int} : ∀ {l : List Er}, vE n p l = 0 → ∀ k, k < l.length → vE n (eg l k).t (l.drop (k + 1)) = 0 := by
  intro l
  induction l generalizing p with
  | nil => intro _ k h; simp at h
  | cons e l ih =>
    intro h k hk
    simp only [vE] at h
    split at h
    · omega
    · split at h
      · omega
      · cases k with
        | zero => simpa [eg] using h
        | succ k =>
          have := ih h k (by simpa using hk)
          simpa [eg] using this

set_option maxRecDepth 100000 in
set_option maxHeartbeats 2000000 in
theorem rsound_any (a : Option Addr) (cap : Nat) (es : List Er) (w : World) (hn : es.length ≤ 1000) (hfit : ∀ e ∈ es, e.Fit) (hS : ES w.heap.size w a cap es) :
    Calls Try.prog 50 #[.slice a es.length cap] w fun e w' => e = .returned (.bool (snd? es)) ∧ Below w.heap.size w w' := by
  obtain ⟨n, hn'⟩ : ∃ n, es.length = n := ⟨_, rfl⟩
  obtain ⟨R, hR⟩ : ∃ R, snd? es = R := ⟨_, rfl⟩
  have hcap := hS.le
  rw [hR]
  rw [hn'] at hn hcap ⊢
  obtain ⟨B, hB⟩ : ∃ B, w.heap.size = B := ⟨_, rfl⟩
  have hRv : R = ((vE 9223372036854775807 0 es == 0) && decide (n ≤ 64)) := by
    rw [← hR, ← hn']
    unfold snd? vErr
    by_cases h : 64 < es.length
    · rw [if_pos h]; simp [show ¬ es.length ≤ 64 by omega]
    · rw [if_neg h, show decide (es.length ≤ 64) = true from decide_eq_true (by omega), Bool.and_true]; rfl
  obtain ⟨b, off, hab, hcell⟩ := hS.cells.core
  rw [hn'] at hab hcell
  rw [hB] at hab
  have HE := Lib.hid hn'; have HAB := Lib.hid hab; have HC := Lib.hid hcell; have HB := Lib.hid hB; have HF := Lib.hid hfit
  have H0 : Hid (R = ((vE 9223372036854775807 0 (es.drop 0) == 0) && decide (n ≤ 64))) := hRv
  clear hS hfit hR hRv hab hcell hB hn'
  go_enter Try.func50, Try.ntmps50
  go_wp2_with fail
  go_loopw [3, 4] (fun u q wr => ∃ (k : Nat) (p : Int), k ≤ n ∧ 0 ≤ p ∧ u = .int .i64 p ∧ q = .int .i64 (k : Int) ∧ Hid (R = ((vE 9223372036854775807 p (es.drop k) == 0) && decide (n ≤ 64))) ∧ Hid (Below B w wr)) (fun _ q _ => n - (intOf q).toNat)
  case atStart => exact ⟨0, 0, by omega, by omega, rfl, rfl, H0, Below.refl _ _⟩
  case round =>
    obtain ⟨k, p, hk, hp, rfl, rfl, HI, HR⟩ := hrel
    by_cases hlt : k < n
    · obtain ⟨ha, hbB⟩ := HAB.out.resolve_left (by omega)
      subst ha
      obtain ⟨c0, c1, c2⟩ := HC.out k hlt wr (HR.out.block b hbB)
      have hkk : (k : Int) < (n : Int) := by omega
      have hBr : B ≤ wr.heap.size := by have := HR.out.size; have := HB.out; omega
      have hstep := HI.out
      rw [eg_drop (by rw [HE.out]; exact hlt)] at hstep
      simp only [vE] at hstep
      obtain ⟨fit1, fit2, fit3, fit4, _⟩ := HF.out _ (eg_mem (es := es) (k := k) (by rw [HE.out]; exact hlt))
      obtain ⟨x, hx⟩ : ∃ x, (eg es k).f = x := ⟨_, rfl⟩
      obtain ⟨y, hy⟩ : ∃ y, (eg es k).t = y := ⟨_, rfl⟩
      obtain ⟨s, hs⟩ : ∃ s, (eg es k).x = s := ⟨_, rfl⟩
      rw [hx, hy] at hstep
      rw [hx] at c0 fit1 fit2
      rw [hy] at c1 fit3 fit4
      rw [hs] at c2
      clear hx hy hs c2
      by_cases h1 : x < p
      · have hr : R = false := by
          rw [hstep]
          by_cases h0 : x < 0 ∨ y < x ∨ 9223372036854775807 < y
          · rw [if_pos h0]; rfl
          · rw [if_neg h0, if_pos h1]; rfl
        have hd : decide (x < p) = true := by simp [h1]
        clear hstep
        go_wp2_with fail
        go_quiet (fail)
        go_wp2
        go_ret
        exact ⟨by rw [hr]; rfl, by rw [HB.out]; exact below_drewN HR.out _⟩
      · have hd : decide (x < p) = false := by simp; omega
        by_cases h2 : y < x
        · have hr : R = false := by rw [hstep, if_pos (.inr (.inl h2))]; rfl
          have hd2 : decide (y < x) = true := by simp [h2]
          clear hstep
          go_wp2_with fail
          go_quiet (fail)
          go_wp2
          go_ret
          exact ⟨by rw [hr]; rfl, by rw [HB.out]; exact below_drewN HR.out _⟩
        · have hd2 : decide (y < x) = false := by simp; omega
          rw [if_neg (by omega), if_neg (by omega)] at hstep
          have HS : Hid (R = ((vE 9223372036854775807 y (es.drop (k + 1)) == 0) && decide (n ≤ 64))) := hstep
          clear hstep
          go_wp2_with fail
          go_quiet (fail)
          go_wp2
          go_roundw
          case rel => exact ⟨k + 1, y, by omega, by omega, rfl, by go_num, HS, below_drewN HR.out _⟩
          case measure => simp [intOf]; omega
    · obtain rfl : n = k := by omega
      have hr := HI.out
      rw [List.drop_eq_nil_of_le (by rw [HE.out]; omega)] at hr
      have HS : Hid (R = decide ((n : Int) ≤ 64)) := by
        have : R = decide (n ≤ 64) := by rw [hr]; simp [vE]
        rw [this]; exact (by simp only [decide_eq_decide]; omega : decide (n ≤ 64) = decide ((n : Int) ≤ 64))
      clear hr
      go_wp2
      go_ret
      exact ⟨by rw [HS.out]; rfl, by rw [HB.out]; exact HR.out⟩

set_option maxRecDepth 100000 in
set_option maxHeartbeats 4000000 in
theorem rmap_any (a : Option Addr) (cap : Nat) (es : List Er) (off : Int) (af : Bool) (w : World) (hn : es.length ≤ 1000) (hfit : ∀ e ∈ es, e.Fit) (hnear : ∀ e ∈ es, Near e.f ∧ Near e.t) (hoff : Near off) (hS : ES w.heap.size w a cap es) :
    Calls Try.prog 29 #[.slice a es.length cap, .int .i64 off, .bool af] w fun e w' => e = .returned (.int .i64 (mpV es off af)) ∧ Below w.heap.size w w' := by
  have CV := Lib.hid (rsound_any a cap es w hn hfit hS)
  obtain ⟨n, hn'⟩ : ∃ n, es.length = n := ⟨_, rfl⟩
  obtain ⟨R, hR⟩ : ∃ R, mpV es off af = R := ⟨_, rfl⟩
  have hcap := hS.le
  rw [hR]
  rw [hn'] at hn hcap CV ⊢
  obtain ⟨B, hB⟩ : ∃ B, w.heap.size = B := ⟨_, rfl⟩
  by_cases hv : vErr 9223372036854775807 es = 0
  · obtain ⟨hlim, hpos⟩ := vErr_max hv
    have hv0 : vE 9223372036854775807 0 es = 0 := by have := hv; unfold vErr at this; rwa [if_neg (by omega)] at this
    have hRv : mqR off af es 0 0 = R := by rw [mq_mp off af es 0 0 0 hv0 (fun h => absurd rfl h), ← hR]; unfold mpV; rw [if_pos hv]; cases af <;> rfl
    obtain ⟨b, addr, hab, hcell⟩ := hS.cells.core
    rw [hn'] at hab hcell hlim
    rw [hB] at hab CV
    obtain ⟨ho1, ho2⟩ := hoff
    have hsn : snd? es = true := by unfold snd?; rw [hv]; rfl
    rw [hsn] at CV
    have HE := Lib.hid hn'; have HAB := Lib.hid hab; have HC := Lib.hid hcell; have HB := Lib.hid hB; have HF := Lib.hid hfit; have HP := Lib.hid hpos; have HNR := Lib.hid hnear
    have H0 : Hid (mqR off af (es.drop 0) 0 0 = R) := hRv
    clear hS hfit hR hRv hab hcell hB hn' hpos hnear hv hv0 hsn
    go_enter Try.func29, Try.ntmps29
    go_wp2_with fail
    refine CV.out.mono ?_
    rintro e w0 ⟨rfl, hb0⟩
    have HB0 := Lib.hid hb0
    clear hb0 CV
    go_wp2_with fail
    go_loopw [7, 8, 9] (fun u v q wr => ∃ (k : Nat) (d m : Int), k ≤ n ∧ u = .int .i64 d ∧ v = .int .i64 m ∧ q = .int .i64 (k : Int) ∧ -8796093122208 * (k : Int) ≤ d ∧ d ≤ 8796093122208 * (k : Int) ∧ 0 ≤ m ∧ m ≤ 8796093122208 * (k : Int) ∧ Hid (mqR off af (es.drop k) d m = R) ∧ Hid (Below B w wr)) (fun _ _ q _ => n - (intOf q).toNat)
    case atStart => exact ⟨0, 0, 0, by omega, rfl, rfl, rfl, by omega, by omega, by omega, by omega, H0, HB0.out⟩
    case round =>
      obtain ⟨k, d, m, hk, rfl, rfl, rfl, hg1, hg2, hm1, hm2, HI, HR⟩ := hrel
      by_cases hlt : k < n
      · obtain ⟨ha, hbB⟩ := HAB.out.resolve_left (by omega)
        subst ha
        have hkl : k < es.length := by rw [HE.out]; exact hlt
        obtain ⟨c0, c1, c2⟩ := HC.out k hlt wr (HR.out.block b hbB)
        have hkk : (k : Int) < (n : Int) := by omega
        have hBr : B ≤ wr.heap.size := by have := HR.out.size; have := HB.out; omega
        have hstep := HI.out
        rw [eg_drop hkl] at hstep
        simp only [mqR] at hstep
        have fit5 := (HF.out _ (eg_mem hkl)).x
        obtain ⟨hp0, hp1⟩ := HP.out _ (eg_mem hkl)
        obtain ⟨⟨_, nx⟩, ⟨_, ny⟩⟩ := HNR.out _ (eg_mem hkl)
        obtain ⟨x, hx⟩ : ∃ x, (eg es k).f = x := ⟨_, rfl⟩
        obtain ⟨y, hy⟩ : ∃ y, (eg es k).t = y := ⟨_, rfl⟩
        obtain ⟨s, hs⟩ : ∃ s, (eg es k).x = s := ⟨_, rfl⟩
        rw [hx, hy, hs] at hstep
        rw [hx] at c0 hp0 hp1 nx
        rw [hy] at c1 hp1 ny
        rw [hs] at c2 fit5
        have hHA := (HR.out.alloc hBr (.cells #[.int .i64 x, .int .i64 y, .string s] 32))
        have HA := Lib.hid hHA
        clear hx hy hs hHA
        by_cases h1 : y < off
        · rw [if_pos (.inl h1)] at hstep
          have HS := Lib.hid hstep
          clear hstep
          go_wp2
          go_roundw
          case rel => exact ⟨k + 1, _, _, by omega, rfl, rfl, by go_num, by omega, by omega, by omega, by omega, HS, HA.out⟩
          case measure => simp [intOf]; omega
        · by_cases h2 : y = off
          · by_cases h3 : x < y
            · rw [if_pos (.inr ⟨h2, h3⟩)] at hstep
              subst h2
              have HS := Lib.hid hstep
              clear hstep
              go_wp2
              go_roundw
              case rel => exact ⟨k + 1, _, _, by omega, rfl, rfl, by go_num, by omega, by omega, by omega, by omega, HS, HA.out⟩
              case measure => simp [intOf]; omega
            · rw [if_neg (by omega), if_neg (by omega), if_pos h2] at hstep
              subst h2
              have h4 : ¬ x < y := h3
              have HS := Lib.hid hstep
              clear hstep
              go_wp2
              go_roundw
              case rel => exact ⟨k + 1, _, _, by omega, rfl, rfl, by go_num, by omega, by omega, by omega, by omega, HS, HA.out⟩
              case measure => simp [intOf]; omega
          · have h4 : (y == off) = false := by simp; omega
            by_cases h3 : x < off
            · rw [if_neg (by omega), if_pos h3] at hstep
              cases af
              · have HS := Lib.hid hstep
                clear hstep
                go_wp2
                go_ret
                exact ⟨by have := HS.out; simp at this; rw [← this]; rfl, by rw [HB.out]; exact HA.out⟩
              · have HS := Lib.hid hstep
                clear hstep
                go_wp2
                go_ret
                exact ⟨by have := HS.out; simp at this; rw [← this]; rfl, by rw [HB.out]; exact HA.out⟩
            · rw [if_neg (by omega), if_neg h3, if_neg h2] at hstep
              have HS := Lib.hid hstep
              clear hstep
              go_wp2
              go_roundw
              case rel => exact ⟨k + 1, _, _, by omega, rfl, rfl, by go_num, by omega, by omega, by omega, by omega, HS, HA.out⟩
              case measure => simp [intOf]; omega
      · obtain rfl : n = k := by omega
        have hr := HI.out
        rw [List.drop_eq_nil_of_le (by rw [HE.out]; omega)] at hr
        simp only [mqR] at hr
        cases af
        · have HS := Lib.hid hr
          clear hr
          go_wp2
          go_ret
          exact ⟨by have := HS.out; simp at this; rw [← this]; rfl, by rw [HB.out]; exact HR.out⟩
        · have HS := Lib.hid hr
          clear hr
          go_wp2
          go_ret
          exact ⟨by have := HS.out; simp at this; rw [← this]; rfl, by rw [HB.out]; exact HR.out⟩
  · have hRv : off = R := by rw [← hR]; unfold mpV; rw [if_neg hv]
    subst hRv
    have hsn : snd? es = false := by unfold snd?; simp [hv]
    rw [hsn] at CV
    clear hS hfit hR hn' hnear hv hsn
    go_enter Try.func29, Try.ntmps29
    go_wp2_with fail
    refine CV.out.mono ?_
    rintro e w0 ⟨rfl, hb0⟩
    go_wp2
    go_ret
    exact ⟨rfl, hb0⟩

end Go.Proofs.Ytfhpllcdlejfjaa

/- The walk of EditOrder. It has no conditions. -/
namespace Go.Proofs.Ytfhpllcdlejfjaa
open Go.RowKit Go.Shelf
set_option linter.unusedVariables false

theorem mq_mapl (off : Int) (af : Bool) : ∀ (es : List Er) (d m : Int), (∀ e ∈ es, 0 ≤ e.f ∧ e.f ≤ e.t) → mqR off af es d m = mapl off af (ees es) d m := by
  intro es
  induction es with
  | nil => intro d m _; rfl
  | cons e es ih =>
    intro d m h
    obtain ⟨h0, h1⟩ := h e (by simp)
    have hf : ((e.f.toNat : Nat) : Int) = e.f := by omega
    have ht : ((e.t.toNat : Nat) : Int) = e.t := by omega
    have hi := fun d m => ih d m (fun x hx => h x (by simp [hx]))
    simp only [mqR, ees_cons, mapl, Er.ee, hf, ht, sb_len, hi]
theorem vE_more {n m : Int} (hnm : n ≤ m) : ∀ {es : List Er} {p : Int}, vE n p es = 0 → vE m p es = 0 := by
  intro es
  induction es with
  | nil => intro p _; rfl
  | cons e es ih =>
    intro p h
    simp only [vE] at h ⊢
    split at h
    · omega
    · split at h
      · omega
      · rename_i k1 k2
        rw [if_neg (by omega), if_neg k2]
        exact ih h
theorem vErr_more {n : Nat} {es : List Er} (h : vErr (n : Int) es = 0) (hn : n ≤ 9223372036854775807) : vErr 9223372036854775807 es = 0 := by
  have hl := (vErr_ok h).1
  unfold vErr at h ⊢
  rw [if_neg (by omega)] at h ⊢
  exact vE_more (by omega) h
theorem mpV_mapl {n : Nat} {es : List Er} (off : Int) (af : Bool) (h : vErr (n : Int) es = 0) (hn : n ≤ 9223372036854775807) : mpV es off af = mapl off af (ees es) 0 0 := by
  have hv := vErr_more h hn
  have hok := vErr_ok h
  have hv0 : vE 9223372036854775807 0 es = 0 := by have := hv; unfold vErr at this; rwa [if_neg (by omega)] at this
  unfold mpV
  rw [if_pos hv]
  have h1 := mq_mp off af es 0 0 0 hv0 (fun h => absurd rfl h)
  rw [← mq_mapl off af es 0 0 (fun e he => ⟨(hok.2.2 e he).1, (hok.2.2 e he).2.1⟩), h1]
  cases af <;> rfl
theorem map_low {n : Nat} {es : List Er} {off : Nat} (h : vErr (n : Int) es = 0) (hn : n ≤ 9223372036854775807) : mpV es (off : Int) false = ((lowF (ees es) 0 0 off : Nat) : Int) := by
  rw [mpV_mapl _ _ h hn]
  have := mapl_low (n := n) (l := ees es) (p := 0) (q := 0) (off := off) (m := 0) (vErr_ok h).2.1 (Nat.zero_le _)
  exact this
theorem map_high {n : Nat} {es : List Er} {off : Nat} (h : vErr (n : Int) es = 0) (hn : n ≤ 9223372036854775807) : mpV es (off : Int) true = ((highF (ees es) 0 0 off : Nat) : Int) := by
  rw [mpV_mapl _ _ h hn]
  have := mapl_high (n := n) (l := ees es) (p := 0) (q := 0) (off := off) (m := 0) (vErr_ok h).2.1 (Nat.zero_le _) (fun h => absurd rfl h)
  rw [Int.add_zero] at this
  exact this

set_option maxRecDepth 100000 in
set_option maxHeartbeats 8000000 in
theorem walkOrder (s : ByteArray) (hs : s.size ≤ 9223372036854775807) (a1 : Option Addr) (cap1 : Nat) (ls : List Int) (w : World)
    (h1 : Sli .i64 w a1 cap1 ls) (hi : ∀ n ∈ ls, -9223372036854775808 ≤ n ∧ n ≤ 9223372036854775807) :
    Calls Try.prog 9 #[.string s, .slice a1 ls.length cap1] w fun e w' => e = .returned (.bool true) ∧ Below w.heap.size w w' := by
  obtain ⟨t, ht⟩ : ∃ t, shS s 40 = t := ⟨_, rfl⟩
  have htl : t.size ≤ 40 := by rw [← ht]; exact shS_size s 40
  have cS := fun W => short_any s 40 W hs (by omega)
  rw [ht] at cS
  obtain ⟨n1, hn1⟩ : ∃ n, ls.length = n := ⟨_, rfl⟩
  have hsl : SlI w.heap.size w a1 n1 := by have := SlI.of h1 hi; rwa [hn1] at this
  have cR := raw_any t a1 n1 cap1 w (by omega) hsl (by have := h1.le; omega) h1.mx
  rw [hn1]
  have CS := Lib.hid cS; have CR := Lib.hid cR
  clear cS cR h1 hi ht hsl
  go_enter Try.func9, Try.ntmps9
  go_wp2_with fail
  refine (CS.out _).mono ?_
  rintro e w' ⟨rfl, rfl⟩
  go_wp2_with fail
  refine CR.out.mono ?_
  rintro e w1 ⟨xs, v1, rfl, hx1, hx2, hx3, hown1, hb1⟩
  obtain ⟨_, ax, cx, rfl, hX⟩ := es_of_own hown1
  have hfx := fit_of hx2 (by omega) (fun e he => by have := (hx3 e he).1; omega)
  have hz := apS_size (c := 7) hx2 (fun e he => (hx3 e he).1)
  have hz2 : (apS t xs).size ≤ 1000 := by have := Nat.mul_le_mul_left 7 hx1; omega
  have hok := vErr_ok hx2
  have hnear : ∀ e ∈ xs, Near e.f ∧ Near e.t := fun e he => by have := hok.2.2 e he; exact ⟨⟨by omega, by omega⟩, ⟨by omega, by omega⟩⟩
  have hvl : Vld (sb t).length 0 (ees xs) := by rw [sb_len]; exact hok.2.1
  have hap := apS_ok hx2
  have P1 := papply_any t ax cx xs w1 (by omega) (by omega) hfx hX
  have PL := fun (off : Nat) (ho : off ≤ 40) W (hW : Below w1.heap.size w1 W) => pmap_any ax cx xs (off : Int) false W (by omega) hfx hnear ⟨by omega, by omega⟩ (hX.on hW)
  have PH := fun (off : Nat) (ho : off ≤ 40) W (hW : Below w1.heap.size w1 W) => pmap_any ax cx xs (off : Int) true W (by omega) hfx hnear ⟨by omega, by omega⟩ (hX.on hW)
  have hlow : ∀ off : Nat, mpV xs (off : Int) false = ((lowF (ees xs) 0 0 off : Nat) : Int) := fun off => map_low hx2 (by omega)
  have hhigh : ∀ off : Nat, mpV xs (off : Int) true = ((highF (ees xs) 0 0 off : Nat) : Int) := fun off => map_high hx2 (by omega)
  simp only [hlow] at PL
  simp only [hhigh] at PH
  obtain ⟨z, hzz⟩ : ∃ z, apS t xs = z := ⟨_, rfl⟩
  rw [hzz] at hap hz2
  have hzl : (sb z).length = z.size := sb_len z
  obtain ⟨lo, hlo⟩ : ∃ f : Nat → Nat, (fun off => lowF (ees xs) 0 0 off) = f := ⟨_, rfl⟩
  obtain ⟨hg, hhg⟩ : ∃ f : Nat → Nat, (fun off => highF (ees xs) 0 0 off) = f := ⟨_, rfl⟩
  have hlo' : ∀ off, lowF (ees xs) 0 0 off = lo off := fun off => by rw [← hlo]
  have hhg' : ∀ off, highF (ees xs) 0 0 off = hg off := fun off => by rw [← hhg]
  simp only [hlo'] at PL
  simp only [hhg'] at PH
  have F1 : Hid (∀ off, off ≤ t.size → lo off ≤ hg off ∧ hg off ≤ z.size) := fun off ho => by
    have k1 := low_le_high (q := 0) (off := off) hvl (Nat.zero_le _)
    have k2 := high_le (q := 0) (off := off) hvl (Nat.zero_le _) (by rw [sb_len]; exact ho)
    rw [hlo', hhg'] at k1
    rw [hhg', ← hap, hzl] at k2
    exact ⟨k1, by omega⟩
  have F2 : Hid (∀ off, lo off ≤ lo (off + 1) ∧ hg off ≤ hg (off + 1)) := fun off => by
    have k1 := lowF_mono (q := 0) (a := off) (b := off + 1) hvl (Nat.zero_le _) (by omega)
    have k2 := highF_mono (q := 0) (a := off) (b := off + 1) hvl (Nat.zero_le _) (by omega)
    rw [hlo', hlo'] at k1
    rw [hhg', hhg'] at k2
    exact ⟨k1, k2⟩
  have F3 : Hid (∀ off, off < t.size → (∀ j, j < xs.length → (off : Int) < (eg xs j).f ∨ (eg xs j).t ≤ (off : Int)) → hg off < z.size ∧ (sb z)[hg off]? = (sb t)[off]?) := fun off ho hk => by
    have k1 := kept_image (q := 0) (off := off) hvl (Nat.zero_le _) (by rw [sb_len]; exact ho) (fun e he => by
      obtain ⟨x, hx, rfl⟩ := List.mem_map.1 he
      obtain ⟨j, hj, rfl⟩ := List.mem_iff_getElem.1 hx
      have h0 := hok.2.2 _ hx
      have := hk j hj
      simp only [eg, List.getElem?_eq_getElem hj, Option.getD_some] at this
      simp only [Er.ee]
      omega)
    rw [hhg', ← hap, hzl, Nat.zero_add, Nat.sub_zero] at k1
    exact k1
  have F4 : lo 0 = 0 := by rw [← hlo']; exact low_start hok.2.1
  have F5 : hg t.size = z.size := by
    have := high_end (q := 0) hvl
    rw [sb_len, ← hap, hzl, Nat.zero_add] at this
    rw [← hhg']; exact this
  obtain ⟨nx, hnx⟩ : ∃ n, xs.length = n := ⟨_, rfl⟩
  obtain ⟨bb, off0, hab, hcell⟩ := hX.cells.core
  rw [hx2, hzz] at P1
  simp only [hnx] at P1 PL PH hab hcell F3 hx1 ⊢
  have hcx : nx ≤ cx := by have := hX.le; omega
  have H1 := Lib.hid hb1; have HP1 := Lib.hid P1; have HPL := Lib.hid PL; have HPH := Lib.hid PH; have HAB := Lib.hid hab; have HC := Lib.hid hcell; have HF4 := Lib.hid F4; have HF5 := Lib.hid F5
  have hposj : Hid (∀ j, j < nx → 0 ≤ (eg xs j).f ∧ (eg xs j).f ≤ (eg xs j).t ∧ (eg xs j).t ≤ 40) := fun j hj => by
    have := hok.2.2 _ (eg_mem (es := xs) (k := j) (by omega)); omega
  clear hown1 hX hb1 P1 PL PH hab hcell hlow hhigh hlo hhg hlo' hhg' hzz hap hok hvl hfx hnear hz hx2 hx3 F4 F5
  go_wp2_with fail
  refine HP1.out.mono ?_
  rintro e w2 ⟨rfl, b2⟩
  have K2 := Lib.hid b2
  clear b2
  go_wp2_with fail
  go_loopw [9] (fun q wr => ∃ (p : Nat), p ≤ t.size + 1 ∧ q = .int .i64 (p : Int) ∧ Hid (Below w1.heap.size w1 wr)) (fun q _ => t.size + 1 - (intOf q).toNat)
  case atStart => exact ⟨0, by omega, rfl, K2.out⟩
  case round =>
    obtain ⟨p, hp, rfl, HR⟩ := hrel
    by_cases hlt : p ≤ t.size
    · have hlt2 : (p : Int) ≤ (t.size : Int) := by omega
      obtain ⟨g1, g2⟩ := F1.out p hlt
      have f1 : ¬ ((hg p : Nat) : Int) < ((lo p : Nat) : Int) := by omega
      have f2 : ¬ ((lo p : Nat) : Int) < 0 := by omega
      have f3 : ¬ (z.size : Int) < ((hg p : Nat) : Int) := by omega
      go_wp2_with fail
      refine (HPL.out p (by omega) _ HR.out).mono ?_
      rintro e u1 ⟨rfl, b3⟩
      have K3 := Lib.hid (HR.out.trans (b3.mono HR.out.size))
      clear b3
      go_wp2_with fail
      refine (HPH.out p (by omega) _ K3.out).mono ?_
      rintro e u2 ⟨rfl, b4⟩
      have K4 := Lib.hid (K3.out.trans (b4.mono K3.out.size))
      clear b4
      by_cases hp0 : p = 0
      case' pos =>
        have f4 : ¬ (0 : Int) < (p : Int) := by omega
        obtain ⟨u4, hu4⟩ : ∃ u4 : World, u4 = u2 := ⟨_, rfl⟩
        subst hu4
        have K6 : Hid (Below w1.heap.size w1 u4) := K4.out
        clear hp0
        go_wp2_with fail
      case' neg =>
        obtain ⟨p', hpp⟩ : ∃ p', p = p' + 1 := ⟨p - 1, by omega⟩
        obtain ⟨g3, g4⟩ := F2.out p'
        rw [← hpp] at g3 g4
        have f4 : (0 : Int) < (p : Int) := by omega
        have f5 : IntKind.i64.wrap ((p : Int) - 1) = (p' : Int) := by simp [IntKind.wrap, IntKind.signed, IntKind.bits]; omega
        have HPP := Lib.hid hpp
        clear hpp
        have f6 : ¬ ((lo p : Nat) : Int) < ((lo p' : Nat) : Int) := by omega
        have f7 : ¬ ((hg p : Nat) : Int) < ((hg p' : Nat) : Int) := by omega
        go_wp2_with fail
        refine (HPL.out p' (by have := HPP.out; omega) _ K4.out).mono ?_
        rintro e u3 ⟨rfl, b5⟩
        have K5 := Lib.hid (K4.out.trans (b5.mono K4.out.size))
        clear b5
        go_wp2_with fail
        refine (HPH.out p' (by have := HPP.out; omega) _ K5.out).mono ?_
        rintro e u4 ⟨rfl, b6⟩
        have K6 := Lib.hid (K5.out.trans (b6.mono K5.out.size))
        clear b6
        go_wp2_with fail
      all_goals
        go_loopw [12, 13] (fun u q wr => ∃ (i : Nat) (kb : Bool), i ≤ nx ∧ u = .bool kb ∧ q = .int .i64 (i : Int) ∧ Hid (kb = true → p < t.size ∧ ∀ j, j < i → ((p : Nat) : Int) < (eg xs j).f ∨ (eg xs j).t ≤ ((p : Nat) : Int)) ∧ Hid (Below w1.heap.size w1 wr)) (fun _ q _ => nx - (intOf q).toNat)
        case atStart => exact ⟨0, _, by omega, rfl, rfl, Lib.hid (fun h => ⟨by simpa using h, fun j hj => by omega⟩), K6.out⟩
        case round =>
          obtain ⟨i, kb, hi, rfl, rfl, HK, HR6⟩ := hrel
          by_cases hin : i < nx
          · have hin2 : (i : Int) < (nx : Int) := by omega
            obtain ⟨rfl, hbb⟩ := HAB.out.resolve_left (by omega)
            obtain ⟨c0, c1, _⟩ := HC.out i hin wr (HR6.out.block bb hbb)
            obtain ⟨j1, j2, j3⟩ := hposj.out i hin
            obtain ⟨x, hx⟩ : ∃ x, (eg xs i).f = x := ⟨_, rfl⟩
            obtain ⟨y, hy⟩ : ∃ x, (eg xs i).t = x := ⟨_, rfl⟩
            rw [hx] at c0 j1 j2
            rw [hy] at c1 j2 j3
            have HXY := Lib.hid (And.intro hx hy)
            clear hx hy
            cases kb
            · have HK2 : Hid (false = true → p < t.size ∧ ∀ j, j < i + 1 → ((p : Nat) : Int) < (eg xs j).f ∨ (eg xs j).t ≤ ((p : Nat) : Int)) := Lib.hid (fun h => by cases h)
              go_wp2
              go_roundw
              case rel => first | exact ⟨i + 1, false, by omega, rfl, by go_num, HK2, HR6.out⟩ | exact ⟨i + 1, by omega, by go_num, HK2.out rfl, HR6.out⟩ | exact ⟨i + 1, by omega, by go_num, HR6.out⟩ | exact ⟨i + 1, by omega, by go_num, trivial, HR6.out⟩
              case measure => first | (simp [intOf]; omega) | simp [intOf]
            · have hpre := HK.out rfl
              by_cases hx1 : ((p : Nat) : Int) < x
              · have HK2 : Hid (true = true → p < t.size ∧ ∀ j, j < i + 1 → ((p : Nat) : Int) < (eg xs j).f ∨ (eg xs j).t ≤ ((p : Nat) : Int)) := Lib.hid (fun _ => ⟨hpre.1, fun j hj => by
                  by_cases e : j = i
                  · subst e; left; rw [HXY.out.1]; exact hx1
                  · exact hpre.2 j (by omega)⟩)
                clear hpre
                go_wp2
                go_roundw
                case rel => first | exact ⟨i + 1, true, by omega, rfl, by go_num, HK2, HR6.out⟩ | exact ⟨i + 1, by omega, by go_num, HK2.out rfl, HR6.out⟩ | exact ⟨i + 1, by omega, by go_num, HR6.out⟩ | exact ⟨i + 1, by omega, by go_num, trivial, HR6.out⟩
                case measure => first | (simp [intOf]; omega) | simp [intOf]
              · by_cases hy1 : y ≤ ((p : Nat) : Int)
                · have HK2 : Hid (true = true → p < t.size ∧ ∀ j, j < i + 1 → ((p : Nat) : Int) < (eg xs j).f ∨ (eg xs j).t ≤ ((p : Nat) : Int)) := Lib.hid (fun _ => ⟨hpre.1, fun j hj => by
                    by_cases e : j = i
                    · subst e; right; rw [HXY.out.2]; exact hy1
                    · exact hpre.2 j (by omega)⟩)
                  clear hpre
                  go_wp2
                  go_roundw
                  case rel => first | exact ⟨i + 1, true, by omega, rfl, by go_num, HK2, HR6.out⟩ | exact ⟨i + 1, by omega, by go_num, HK2.out rfl, HR6.out⟩ | exact ⟨i + 1, by omega, by go_num, HR6.out⟩ | exact ⟨i + 1, by omega, by go_num, trivial, HR6.out⟩
                  case measure => first | (simp [intOf]; omega) | simp [intOf]
                · have HK2 : Hid (false = true → p < t.size ∧ ∀ j, j < i + 1 → ((p : Nat) : Int) < (eg xs j).f ∨ (eg xs j).t ≤ ((p : Nat) : Int)) := Lib.hid (fun h => by cases h)
                  clear hpre
                  go_wp2
                  go_roundw
                  case rel => first | exact ⟨i + 1, false, by omega, rfl, by go_num, HK2, HR6.out⟩ | exact ⟨i + 1, by omega, by go_num, HK2.out rfl, HR6.out⟩ | exact ⟨i + 1, by omega, by go_num, HR6.out⟩ | exact ⟨i + 1, by omega, by go_num, trivial, HR6.out⟩
                  case measure => first | (simp [intOf]; omega) | simp [intOf]
          · obtain rfl : nx = i := by omega
            have HRN : Hid (∀ n, Below w1.heap.size w1 (wr.drewN n)) := fun n => below_drewN HR6.out n
            cases kb
            · go_wp2_with fail
              go_quiet (fail)
              go_wp2
              go_roundw
              case rel => exact ⟨p + 1, by omega, by go_num, HRN.out _⟩
              case measure => first | (simp [intOf]; omega) | simp [intOf]
            · obtain ⟨k1, k2⟩ := HK.out rfl
              obtain ⟨k3, k4⟩ := F3.out p k1 k2
              obtain ⟨h, hh⟩ : ∃ h, hg p = h := ⟨_, rfl⟩
              rw [hh] at k3 k4
              have n1 : ¬ (z.size : Int) ≤ (h : Int) := by omega
              have n2 : (h : Int) < (z.size : Int) := by omega
              have n3 : ((p : Nat) : Int) < (t.size : Int) := by omega
              have hd : decide ((z.size : Int) ≤ (h : Int)) = false := by simp; omega
              rw [sb_get z h k3, sb_get t p k1] at k4
              have hq : ((((z[h]'k3).toNat : Nat) : Int) != (((t[p]'k1).toNat : Nat) : Int)) = false := by simpa using k4
              clear k2 k4
              go_wp2_with fail
              go_quiet (fail)
              go_wp2
              go_roundw
              case rel => exact ⟨p + 1, by omega, by go_num, HRN.out _⟩
              case measure => first | (simp [intOf]; omega) | simp [intOf]
    · obtain rfl : p = t.size + 1 := by omega
      have hend : ¬ ((t.size + 1 : Nat) : Int) ≤ (t.size : Int) := by omega
      have P1 := HPL.out 0 (by omega)
      have P2 := HPH.out t.size (by omega)
      rw [HF4.out] at P1
      rw [HF5.out] at P2
      have q1 : ((z.size : Int) == (z.size : Int)) = true := by simp
      have HP2 := Lib.hid P2; have HP3 := Lib.hid P1
      clear P1 P2
      go_wp2_with fail
      refine (HP3.out _ HR.out).mono ?_
      rintro e u1 ⟨rfl, b3⟩
      have K3 := Lib.hid (HR.out.trans (b3.mono HR.out.size))
      clear b3
      go_wp2_with fail
      refine (HP2.out _ K3.out).mono ?_
      rintro e u2 ⟨rfl, b4⟩
      have K4 := Lib.hid (K3.out.trans (b4.mono K3.out.size))
      clear b4
      go_wp2_with fail
      refine (lives_any _).mono ?_
      rintro e u3 ⟨rfl, b5⟩
      have K5 := Lib.hid (H1.out.trans ((K4.out.trans (b5.mono K4.out.size)).mono H1.out.size))
      clear b5
      go_wp2
      go_ret
      exact ⟨rfl, K5.out⟩

end Go.Proofs.Ytfhpllcdlejfjaa

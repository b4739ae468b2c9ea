/- The mathematics of Compose: how many edits a composition has. It has no conditions. -/
import Derived.Test.YtfhpllcdlejfjaaECp
namespace Go.Proofs.Ytfhpllcdlejfjaa
open Go.RowKit Go.Shelf
set_option linter.unusedVariables false

theorem comm_k (p1 p2 : Pc) : (comm p1 p2).k = true ↔ (p1.k = true ∧ p2.k = true ∧ max p1.q p2.f < min (p1.q + p1.x.size) p2.t) := by
  unfold comm
  split
  · rename_i h; exact ⟨fun _ => h, fun _ => rfl⟩
  · rename_i h; exact ⟨fun e => (by cases e), fun e => absurd e h⟩
theorem cnt_disj {A B C : Pc → Bool} (h1 : ∀ x, A x = true → C x = true ∧ B x = false) (h2 : ∀ x, B x = true → C x = true) (P : List Pc) : P.countP A + P.countP B ≤ P.countP C := by
  induction P with
  | nil => simp
  | cons x P ih =>
    rw [List.countP_cons, List.countP_cons, List.countP_cons]
    have a := h1 x
    have b := h2 x
    cases hA : A x
    · cases hB : B x
      · simp only [Bool.false_eq_true, if_false]; omega
      · have := b hB
        rw [this]
        simp only [Bool.false_eq_true, if_false, if_true]; omega
    · obtain ⟨c1, c2⟩ := a hA
      rw [c1, c2]
      simp only [Bool.false_eq_true, if_false, if_true]; omega
/-- How much one part of the second list keeps. -/
theorem in_len {s : ByteArray} {p2 : Pc} : ∀ {P : List Pc} {r : Nat}, Chn s r P →
    ((P.map fun p1 => comm p1 p2).filter (·.k)).length ≤ P.countP (fun p => p.k && decide (p2.f < p.q) && decide (p.q < p2.t)) + (if (r : Int) ≤ p2.f then 1 else 0) := by
  intro P
  induction P with
  | nil => intro r _; simp
  | cons p P ih =>
    intro r h
    obtain ⟨h1, _, h3⟩ := h
    have hi := ih h3
    rw [List.map_cons, List.filter_cons, List.countP_cons]
    by_cases hc : p.k = true ∧ p2.k = true ∧ max p.q p2.f < min (p.q + p.x.size) p2.t
    · rw [if_pos ((comm_k p p2).2 hc), List.length_cons]
      obtain ⟨c1, c2, c3⟩ := hc
      rw [if_neg (by omega)] at hi
      by_cases hr : (r : Int) ≤ p2.f
      · rw [if_pos hr]; omega
      · rw [if_neg hr]
        have : (p.k && decide (p2.f < p.q) && decide (p.q < p2.t)) = true := by
          rw [c1, decide_eq_true (by omega), decide_eq_true (by omega)]; rfl
        rw [if_pos this]; omega
    · rw [if_neg (fun e => hc ((comm_k p p2).1 e))]
      by_cases hr : ((r + p.x.size : Nat) : Int) ≤ p2.f
      · rw [if_pos hr] at hi
        have e1 : (if (r : Int) ≤ p2.f then 1 else 0) = (1 : Nat) := if_pos (by omega)
        rw [e1]; omega
      · rw [if_neg hr] at hi; omega
theorem out_len {s t : ByteArray} {P1 : List Pc} (h1 : Chn s 0 P1) : ∀ {es : List Er} {f q : Nat}, Vld t.size f (ees es) → (∀ e ∈ es, 0 ≤ e.f ∧ e.f ≤ e.t ∧ e.t ≤ (t.size : Int)) →
    ((kbl P1 (prl t f q es)).filter (·.k)).length ≤ P1.countP (fun p => p.k && decide ((f : Int) < p.q)) + es.length + 1 := by
  intro es
  induction es with
  | nil =>
    intro f q _ _
    have := in_len (p2 := ⟨f, t.size, q, t.extract f t.size, true⟩) h1
    simp only [prl, kbl, List.flatMap_cons, List.flatMap_nil, List.append_nil, List.length_nil]
    rw [if_pos (by simp only; omega)] at this
    have hm := cnt_disj (A := fun p : Pc => p.k && decide ((f : Int) < p.q) && decide (p.q < (t.size : Int))) (B := fun _ => false) (C := fun p => p.k && decide ((f : Int) < p.q)) (fun x hx => ⟨by simp only [Bool.and_eq_true] at hx ⊢; exact hx.1, rfl⟩) (fun x hx => by cases hx) P1
    simp only at this
    omega
  | cons e l ih =>
    intro f q hv hok
    obtain ⟨o1, o2, o3⟩ := hok e (by simp)
    obtain ⟨v1, v2, v3, v4⟩ := hv
    simp only [Er.ee] at v1 v2 v3 v4
    have hi := ih (f := e.t.toNat) (q := q + (e.f.toNat - f) + e.x.size) v4 (fun x hx => hok x (by simp [hx]))
    have ha := in_len (p2 := ⟨f, e.f, q, t.extract f e.f.toNat, true⟩) h1
    rw [if_pos (by simp only; omega)] at ha
    have hb : ((P1.map fun p1 => comm p1 ⟨e.f, e.t, (q : Int) + (e.f - f), e.x, false⟩).filter (·.k)) = [] := by
      rw [List.filter_eq_nil_iff]
      intro c hc
      obtain ⟨p1, _, rfl⟩ := List.mem_map.1 hc
      intro hk
      have := ((comm_k _ _).1 hk).2.1
      cases this
    have hk : kbl P1 (prl t f q (e :: l)) = (P1.map fun p1 => comm p1 ⟨f, e.f, q, t.extract f e.f.toNat, true⟩) ++ ((P1.map fun p1 => comm p1 ⟨e.f, e.t, (q : Int) + (e.f - f), e.x, false⟩) ++ kbl P1 (prl t e.t.toNat (q + (e.f.toNat - f) + e.x.size) l)) := rfl
    rw [hk, List.filter_append, List.filter_append, hb, List.nil_append, List.length_append, List.length_cons]
    have hm := cnt_disj (A := fun p : Pc => p.k && decide ((f : Int) < p.q) && decide (p.q < e.f)) (B := fun p => p.k && decide (((e.t.toNat : Nat) : Int) < p.q)) (C := fun p => p.k && decide ((f : Int) < p.q))
      (fun x hx => by
        simp only [Bool.and_eq_true, decide_eq_true_eq] at hx ⊢
        refine ⟨hx.1, ?_⟩
        rw [decide_eq_false (by omega), Bool.and_false])
      (fun x hx => by
        simp only [Bool.and_eq_true, decide_eq_true_eq] at hx ⊢
        exact ⟨hx.1, by omega⟩) P1
    simp only at ha
    omega
theorem prl_kept (s : ByteArray) : ∀ (es : List Er) (f q : Nat), (prl s f q es).countP (fun p => p.k) = es.length + 1 := by
  intro es
  induction es with
  | nil => intro f q; rfl
  | cons e l ih => intro f q; simp only [prl, List.countP_cons, ih, List.length_cons]; simp
/-- A composition has few edits. -/
theorem cmpl_len {s t : ByteArray} {a b : List Er} (ha : vErr (s.size : Int) a = 0) (hb : vErr (t.size : Int) b = 0) (ht : sb t = appl (sb s) 0 (ees a)) : (cmpl (sb s) (ees a) (ees b)).length ≤ a.length + b.length + 3 := by
  obtain ⟨u, hu⟩ : ∃ u, apS t b = u := ⟨_, rfl⟩
  obtain ⟨K, k1, k2, k3⟩ := kept_comp (s := s) (t := t) (u := u) ha hb ht (by rw [← hu]; exact apS_ok hb)
  rw [← k3, ees_len]
  have h1 := arl_len (s := s) (u := u) (K := K) (f := 0) (q := 0)
  have h2 := congrArg List.length k1
  rw [List.length_map] at h2
  obtain ⟨_, va, oa⟩ := vErr_ok ha
  obtain ⟨_, vb, ob⟩ := vErr_ok hb
  obtain ⟨_, c1⟩ := prl_seg (q := 0) va oa
  have h3 := out_len (t := t) c1 (q := 0) vb ob
  have h4 := cnt_disj (A := fun p : Pc => p.k && decide (((0 : Nat) : Int) < p.q)) (B := fun _ => false) (C := fun p => p.k) (fun x hx => ⟨by simp only [Bool.and_eq_true] at hx; exact hx.1, rfl⟩) (fun x hx => by cases hx) (prl s 0 0 a)
  rw [prl_kept] at h4
  omega

end Go.Proofs.Ytfhpllcdlejfjaa

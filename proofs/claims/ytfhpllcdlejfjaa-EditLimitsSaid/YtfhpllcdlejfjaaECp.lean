/- The contract of the program's Compose. Conditions: texts of at most 1000000 bytes, lists of at most 1000 edits. -/
import Derived.Test.YtfhpllcdlejfjaaEAr
namespace Go.Proofs.Ytfhpllcdlejfjaa
open Go.RowKit Go.Shelf
set_option linter.unusedVariables false

/-- The error of a composition, and its edits. -/
def cmE (s : ByteArray) (es1 es2 : List Er) : Int :=
  if vErr (s.size : Int) es1 = 0 then (if vErr ((apS s es1).size : Int) es2 = 0 then (if 64 < (cmpl (sb s) (ees es1) (ees es2)).length then 4 else 0) else vErr ((apS s es1).size : Int) es2) else vErr (s.size : Int) es1
def cmS (s : ByteArray) (es1 es2 : List Er) : List Er := if cmE s es1 es2 = 0 then ers (cmpl (sb s) (ees es1) (ees es2)) else []
theorem ers_ees {l : List Er} (h : ∀ e ∈ l, 0 ≤ e.f ∧ 0 ≤ e.t) : ers (ees l) = l := by
  unfold ers ees
  rw [List.map_map]
  conv => rhs; rw [← List.map_id l]
  refine List.map_congr_left fun e he => ?_
  obtain ⟨f, t, x⟩ := e
  obtain ⟨h1, h2⟩ := h _ he
  simp only at h1 h2
  simp only [Function.comp, er, Er.ee, bs_sb, id]
  congr 1 <;> omega
theorem arl_pos {s u : ByteArray} : ∀ {K : List Kp} {f q : Nat}, ∀ e ∈ arl s u f q K, 0 ≤ e.f ∧ 0 ≤ e.t := by
  have hg : ∀ f t q r, ∀ e ∈ gap s u f t q r, 0 ≤ e.f ∧ 0 ≤ e.t := by
    intro f t q r e he
    unfold gap at he
    split at he
    · simp at he
    · simp only [List.mem_singleton] at he
      subst he
      exact ⟨by simp only; omega, by simp only; omega⟩
  intro K
  induction K with
  | nil => intro f q e he; exact hg _ _ _ _ e he
  | cons p K ih =>
    intro f q e he
    simp only [arl, List.mem_append] at he
    exact he.elim (hg _ _ _ _ e) (ih e)
theorem apS_sb {s : ByteArray} {es : List Er} (h : vErr (s.size : Int) es = 0) : sb (apS s es) = appl (sb s) 0 (ees es) := apS_ok h

set_option maxRecDepth 100000 in
set_option maxHeartbeats 4000000 in
theorem pcompose_any (s : ByteArray) (a b : Option Addr) (c1 c2 : Nat) (es1 es2 : List Er) (w : World) (hs : s.size ≤ 1000000) (ht : (apS s es1).size ≤ 1000000) (hu : (apS (apS s es1) es2).size ≤ 1000000) (hn1 : es1.length ≤ 1000) (hn2 : es2.length ≤ 1000)
    (hf1 : ∀ e ∈ es1, e.Fit) (hf2 : ∀ e ∈ es2, e.Fit) (hS1 : ES w.heap.size w a c1 es1) (hS2 : ES w.heap.size w b c2 es2) :
    Calls Try.prog 19 #[.string s, .slice a es1.length c1, .slice b es2.length c2] w fun e w' => NewES w (cmS s es1 es2) (cmE s es1 es2) e w' := by
  have A1 := papply_any s a c1 es1 w (by omega) hn1 hf1 hS1
  obtain ⟨t, htt⟩ : ∃ t, apS s es1 = t := ⟨_, rfl⟩
  obtain ⟨u, huu⟩ : ∃ u, apS t es2 = u := ⟨_, rfl⟩
  have A2 := fun W (hW : Below w.heap.size w W) => papply_any t b c2 es2 W (by rw [← htt]; omega) hn2 hf2 (hS2.on hW)
  obtain ⟨v1, hv1⟩ : ∃ v, vErr (s.size : Int) es1 = v := ⟨_, rfl⟩
  obtain ⟨v2, hv2⟩ : ∃ v, vErr (t.size : Int) es2 = v := ⟨_, rfl⟩
  rw [htt] at ht hu
  rw [huu] at hu
  simp only [huu, hv2] at A2
  rw [htt, hv1] at A1
  obtain ⟨n1, hl1⟩ : ∃ n, es1.length = n := ⟨_, rfl⟩
  obtain ⟨n2, hl2⟩ : ∃ n, es2.length = n := ⟨_, rfl⟩
  simp only [hl2] at A2
  rw [hl1] at A1
  rw [hl1, hl2]
  obtain ⟨E, hE⟩ : ∃ E, cmE s es1 es2 = E := ⟨_, rfl⟩
  obtain ⟨C, hC⟩ : ∃ C, cmS s es1 es2 = C := ⟨_, rfl⟩
  rw [hE, hC]
  have hE2 := hE
  unfold cmE at hE2
  rw [hv1, htt, hv2] at hE2
  have CA1 := Lib.hid A1; have CA2 := Lib.hid A2
  clear A1 A2
  by_cases h1 : v1 = 0
  · subst h1
    rw [if_pos rfl] at hE2
    by_cases h2 : v2 = 0
    · subst h2
      rw [if_pos rfl] at hE2
      obtain ⟨K, k1, k2, k3⟩ := kept_comp (s := s) (t := t) (u := u) hv1 hv2 (by rw [← htt]; exact apS_ok hv1) (by rw [← huu]; exact apS_ok hv2)
      have hKl : K.length ≤ 20000 := by
        have h3 := congrArg List.length k1
        rw [List.length_map] at h3
        have h4 := List.length_filter_le (·.k) (kbl (prl s 0 0 es1) (prl t 0 0 es2))
        rw [kbl_len, prl_len, prl_len, hl1, hl2] at h4
        have g1 := (vErr_ok hv1).1
        have g2 := (vErr_ok hv2).1
        have h5 : (2 * n2 + 1) * (2 * n1 + 1) ≤ 129 * 129 := Nat.mul_le_mul (by omega) (by omega)
        omega
      have hcm : arl s u 0 0 K = ers (cmpl (sb s) (ees es1) (ees es2)) := by rw [← k3, ers_ees arl_pos]
      obtain ⟨D, hD⟩ : ∃ D, arl s u 0 0 K = D := ⟨_, rfl⟩
      have hDl : (cmpl (sb s) (ees es1) (ees es2)).length = D.length := by rw [← ers_len, ← hcm, hD]
      rw [hDl] at hE2
      have hC2 : C = if E = 0 then D else [] := by rw [← hC]; unfold cmS; rw [hE, ← hcm, hD]
      have hx1 : ∀ e ∈ es1, e.x.size ≤ 100000 := fun e he => (hf1 e he).x
      have hx2 : ∀ e ∈ es2, e.x.size ≤ 100000 := fun e he => (hf2 e he).x
      have HG : Hid (∀ W, Below w.heap.size w W → ∀ V, ((((W.alloc (.cells #[.string s] 9)).alloc (.cells #[.slice a n1 c1] 22)).alloc (.cells #[.string t] 9)).alloc (.cells #[.slice b n2 c2] 22)) = V →
          Calls Try.prog 41 #[.string s, .string u, .func (.func 64) #[] #[.pointer (some ⟨W.heap.size + 2, 0, none⟩), .pointer (some ⟨W.heap.size + 3, 0, none⟩), .pointer (some ⟨W.heap.size, 0, none⟩), .pointer (some ⟨W.heap.size + 1, 0, none⟩)]] V fun e w' => ∃ ad cd, e = .returned (.slice ad D.length cd) ∧ ES w'.heap.size w' ad cd D ∧ Below w.heap.size w w') := fun W hW V hV => by
        have hVs : V.heap.size = W.heap.size + 4 := by rw [← hV]; simp
        have hB : Below W.heap.size W V := by rw [← hV]; exact ((((Below.refl _ _).alloc (Nat.le_refl _) _).alloc (by simp) _).alloc (by simp; omega) _).alloc (by simp; omega) _
        have q0 : Boxed V W.heap.size 9 (.string s) := by rw [← hV]; exact (((Boxed.new _ _ _).alloc _).alloc _).alloc _
        have q1 : Boxed V (W.heap.size + 1) 22 (.slice a n1 c1) := by
          rw [← hV]
          have := Boxed.new (W.alloc (.cells #[.string s] 9)) 22 (.slice a n1 c1)
          rw [World.size_alloc] at this
          exact (this.alloc _).alloc _
        have q2 : Boxed V (W.heap.size + 2) 9 (.string t) := by
          rw [← hV]
          have := Boxed.new ((W.alloc (.cells #[.string s] 9)).alloc (.cells #[.slice a n1 c1] 22)) 9 (.string t)
          rw [World.size_alloc, World.size_alloc] at this
          exact this.alloc _
        have q3 : Boxed V (W.heap.size + 3) 22 (.slice b n2 c2) := by
          rw [← hV]
          have := Boxed.new (((W.alloc (.cells #[.string s] 9)).alloc (.cells #[.slice a n1 c1] 22)).alloc (.cells #[.string t] 9)) 22 (.slice b n2 c2)
          rw [World.size_alloc, World.size_alloc, World.size_alloc] at this
          exact this
        have hwV : Below w.heap.size w V := hW.trans (hB.mono hW.size)
        have hg := kb_giv s t (W.heap.size + 2) (W.heap.size + 3) W.heap.size (W.heap.size + 1) a b c1 c2 es1 es2 V (by omega) (by omega) hv1 hv2 hx1 hx2 q2 (by rw [hl2]; exact q3) q0 (by rw [hl1]; exact q1) (hS1.on hwV) (hS2.on hwV)
        have hkb : KB s t es1 es2 = K.map (Kp.pc s) := k1
        rw [hkb, List.length_map] at hg
        have hRl : ∀ (x : Option Addr) (cx : Nat) (es : List Er), ES V.heap.size V x cx es → ∀ k, Rl x es.length k → k < V.heap.size := by
          intro x cx es h k hk
          obtain ⟨h0, off, ho⟩ := hk
          rcases h.cells with h3 | ⟨b', off', e1, e2, _⟩
          · omega
          · rw [ho] at e1; cases e1; exact e2
        have := paround_any s u _ K _ V (by omega) (by omega) hKl hg (by
          rintro k (rfl | rfl | h | h)
          · omega
          · omega
          · exact hRl a c1 es1 (hS1.on hwV) k h
          · exact hRl b c2 es2 (hS2.on hwV) k h) k2
        rw [hD] at this
        refine this.mono ?_
        rintro e w' ⟨ad, cd, rfl, hES, hb⟩
        exact ⟨ad, cd, rfl, hES, hwV.trans (hb.mono hwV.size)⟩
      have hdn : D.length ≤ 1000000 := by have := arl_len (s := s) (u := u) (K := K) (f := 0) (q := 0); rw [hD] at this; omega
      have HC := Lib.hid hC2; have HE := Lib.hid hE2
      clear hv1 hv2 hE hC hD hDl hcm hC2 k1 k2 k3 hx1 hx2 hf1 hf2 hS1 hS2 hE2 htt huu
      by_cases hlen : 64 < D.length
      · have hlen' : (64 : Int) < (D.length : Int) := by omega
        go_enter Try.func19, Try.ntmps19
        go_wp2_with fail
        refine CA1.out.mono ?_
        rintro e w1 ⟨rfl, b1⟩
        have B1 := Lib.hid b1
        clear b1
        go_wp2_with fail
        refine (CA2.out w1 B1.out).mono ?_
        rintro e w2 ⟨rfl, b2⟩
        have B2 := Lib.hid (B1.out.trans (b2.mono B1.out.size))
        clear b2
        go_wp2_with fail
        refine (kept_any s t a b n1 c1 n2 c2 w2).mono ?_
        rintro e w3 ⟨rfl, hw3⟩
        have CG := Lib.hid (HG.out w2 B2.out w3 hw3.symm)
        clear hw3
        go_wp2_with fail
        refine CG.out.mono ?_
        rintro e w4 ⟨ad, cd, rfl, hES, hb⟩
        have HF := Lib.hid (And.intro hES hb)
        clear hES hb
        go_wp2_with fail
        go_ret2
        have hE := HE.out
        rw [if_pos hlen] at hE
        have hC := HC.out
        rw [← hE, if_neg (by decide)] at hC
        rw [hC, ← hE]
        exact ⟨none, 0, rfl, ES.none _ _, HF.out.2⟩
      · have hlen' : ¬ (64 : Int) < (D.length : Int) := by omega
        go_enter Try.func19, Try.ntmps19
        go_wp2_with fail
        refine CA1.out.mono ?_
        rintro e w1 ⟨rfl, b1⟩
        have B1 := Lib.hid b1
        clear b1
        go_wp2_with fail
        refine (CA2.out w1 B1.out).mono ?_
        rintro e w2 ⟨rfl, b2⟩
        have B2 := Lib.hid (B1.out.trans (b2.mono B1.out.size))
        clear b2
        go_wp2_with fail
        refine (kept_any s t a b n1 c1 n2 c2 w2).mono ?_
        rintro e w3 ⟨rfl, hw3⟩
        have CG := Lib.hid (HG.out w2 B2.out w3 hw3.symm)
        clear hw3
        go_wp2_with fail
        refine CG.out.mono ?_
        rintro e w4 ⟨ad, cd, rfl, hES, hb⟩
        have HF := Lib.hid (And.intro hES hb)
        clear hES hb
        go_wp2_with fail
        go_ret2
        have hE := HE.out
        rw [if_neg hlen] at hE
        have hC := HC.out
        rw [← hE, if_pos rfl] at hC
        rw [hC, ← hE]
        exact ⟨ad, cd, rfl, HF.out.1, HF.out.2⟩
    · rw [if_neg h2] at hE2
      have hC2 : C = [] := by rw [← hC]; unfold cmS; rw [hE, ← hE2, if_neg h2]
      have HC := Lib.hid hC2; have HE := Lib.hid hE2
      have hq : (v2 != 0) = true := by simp [h2]
      clear hv1 hv2 hE hC hC2 hf1 hf2 hS1 hS2 hE2 htt huu
      go_enter Try.func19, Try.ntmps19
      go_wp2_with fail
      refine CA1.out.mono ?_
      rintro e w1 ⟨rfl, b1⟩
      have B1 := Lib.hid b1
      clear b1
      go_wp2_with fail
      refine (CA2.out w1 B1.out).mono ?_
      rintro e w2 ⟨rfl, b2⟩
      have B2 := Lib.hid (B1.out.trans (b2.mono B1.out.size))
      clear b2
      go_wp2_with fail
      go_ret2
      rw [HC.out, ← HE.out]
      exact ⟨none, 0, rfl, ES.none _ _, B2.out⟩
  · rw [if_neg h1] at hE2
    have hC2 : C = [] := by rw [← hC]; unfold cmS; rw [hE, ← hE2, if_neg h1]
    have HC := Lib.hid hC2; have HE := Lib.hid hE2
    have hq : (v1 != 0) = true := by simp [h1]
    clear hv1 hv2 hE hC hC2 hf1 hf2 hS1 hS2 hE2 htt huu
    go_enter Try.func19, Try.ntmps19
    go_wp2_with fail
    refine CA1.out.mono ?_
    rintro e w1 ⟨rfl, b1⟩
    have B1 := Lib.hid b1
    clear b1
    go_wp2_with fail
    go_ret2
    rw [HC.out, ← HE.out]
    exact ⟨none, 0, rfl, ES.none _ _, B1.out⟩

end Go.Proofs.Ytfhpllcdlejfjaa

/- What a composition of valid edits is: valid, and leads to the same text; with the inverse, nothing. It has no conditions. -/
import Derived.Test.YtfhpllcdlejfjaaECl
import Derived.Test.YtfhpllcdlejfjaaEIw
namespace Go.Proofs.Ytfhpllcdlejfjaa
open Go.RowKit Go.Shelf
set_option linter.unusedVariables false

theorem arl_short {s u : ByteArray} : ∀ {K : List Kp} {f q : Nat}, ∀ e ∈ arl s u f q K, e.x.size ≤ u.size := by
  have hg : ∀ f t q r, ∀ e ∈ gap s u f t q r, e.x.size ≤ u.size := by
    intro f t q r e he
    unfold gap at he
    split at he
    · simp at he
    · simp only [List.mem_singleton] at he
      subst he
      simp only [ByteArray.size_extract]
      omega
  intro K
  induction K with
  | nil => intro f q e he; exact hg _ _ _ _ e he
  | cons p K ih =>
    intro f q e he
    simp only [arl, List.mem_append] at he
    exact he.elim (hg _ _ _ _ e) (ih e)
theorem comp_ok {s : ByteArray} {a b : List Er} (ha : vErr (s.size : Int) a = 0) (hb : vErr ((apS s a).size : Int) b = 0) (hl : a.length + b.length + 3 ≤ 64) :
    cmE s a b = 0 ∧ cmS s a b = ers (cmpl (sb s) (ees a) (ees b)) ∧ vErr (s.size : Int) (cmS s a b) = 0 ∧ apS s (cmS s a b) = apS (apS s a) b ∧ (cmS s a b).length ≤ a.length + b.length + 3 ∧ ∀ e ∈ cmS s a b, e.x.size ≤ (apS (apS s a) b).size := by
  obtain ⟨_, va, _⟩ := vErr_ok ha
  obtain ⟨_, vb, _⟩ := vErr_ok hb
  have ht := apS_ok ha
  have hu := apS_ok hb
  have hlen := cmpl_len ha hb ht
  have hE : cmE s a b = 0 := by
    unfold cmE
    rw [if_pos ha, if_pos hb, if_neg (by omega)]
  have hC : cmS s a b = ers (cmpl (sb s) (ees a) (ees b)) := by unfold cmS; rw [if_pos hE]
  obtain ⟨K, k1, k2, k3⟩ := kept_comp (s := s) (t := apS s a) (u := apS (apS s a) b) ha hb ht hu
  have hbyt : ∀ e ∈ cmpl (sb s) (ees a) (ees b), Byt e.x := by rw [← k3]; exact ees_byt _
  have hCa : cmS s a b = arl s (apS (apS s a) b) 0 0 K := by rw [hC, ← k3, ers_ees arl_pos]
  have va' : Vld (sb s).length 0 (ees a) := by rw [sb_len]; exact va
  have vb' : Vld (appl (sb s) 0 (ees a)).length 0 (ees b) := by rw [← ht, sb_len]; exact vb
  obtain ⟨c1, c2⟩ := cmpl_appl va' vb'
  rw [sb_len] at c1
  have hv : vErr (s.size : Int) (cmS s a b) = 0 := by rw [hC]; exact vErr_ers c1 (by omega) hbyt
  refine ⟨hE, hC, hv, ?_, by rw [hC, ers_len]; exact hlen, ?_⟩
  · refine sb_inj ?_
    rw [apS_ok hv, hC, ees_ers hbyt, c2, ← ht, ← hu]
  · rw [hCa]
    exact arl_short
theorem comp_inv {s : ByteArray} {a : List Er} (ha : vErr (s.size : Int) a = 0) (hl : a.length ≤ 20) : cmE s a (ivS s a) = 0 ∧ cmS s a (ivS s a) = [] := by
  obtain ⟨_, va, _⟩ := vErr_ok ha
  obtain ⟨o1, _, o3, _⟩ := iv_ok ha
  obtain ⟨c1, c2, _⟩ := comp_ok ha o1 (by omega)
  refine ⟨c1, ?_⟩
  have hiv : ivS s a = ers (invl (sb s) 0 0 (ees a)) := by unfold ivS; rw [if_pos ha]
  rw [c2, hiv, ees_ers (invl_byt (sb_byt s) (ees a) 0 0), cmpl_inv (by rw [sb_len]; exact va)]
  rfl

end Go.Proofs.Ytfhpllcdlejfjaa

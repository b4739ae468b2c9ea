/- The contract of the program's Normal. Conditions: texts of at most 1000000 bytes, lists of at most 1000 edits. -/
import Derived.Test.YtfhpllcdlejfjaaECp
import Derived.Test.YtfhpllcdlejfjaaECn
namespace Go.Proofs.Ytfhpllcdlejfjaa
open Go.RowKit Go.Shelf
set_option linter.unusedVariables false

/-- The normal form of a list of edits, or nothing if it is not valid. -/
def nmS (s : ByteArray) (es : List Er) : List Er := if vErr (s.size : Int) es = 0 then ers (norml (sb s) (ees es)) else []
theorem cm_nil {s : ByteArray} {es : List Er} : cmE s es [] = vErr (s.size : Int) es ∧ cmS s es [] = nmS s es := by
  have hE : cmE s es [] = vErr (s.size : Int) es := by
    unfold cmE
    by_cases hv : vErr (s.size : Int) es = 0
    · obtain ⟨h1, h2, _⟩ := vErr_ok hv
      have hc : cmpl (sb s) (ees es) (ees []) = norml (sb s) (ees es) := cmpl_nil (by rw [sb_len]; exact h2)
      have hl := norml_len (sb s) (ees es)
      rw [ees_len] at hl
      have h0 : vErr ((apS s es).size : Int) [] = 0 := rfl
      rw [if_pos hv, if_pos h0, if_neg (by rw [hc]; omega), hv]
    · rw [if_neg hv]
  refine ⟨hE, ?_⟩
  unfold cmS nmS
  rw [hE]
  by_cases hv : vErr (s.size : Int) es = 0
  · rw [if_pos hv, if_pos hv]
    obtain ⟨h1, h2, _⟩ := vErr_ok hv
    have hc : cmpl (sb s) (ees es) (ees []) = norml (sb s) (ees es) := cmpl_nil (by rw [sb_len]; exact h2)
    rw [hc]
  · rw [if_neg hv, if_neg hv]
theorem apS_nil (s : ByteArray) : apS s [] = s := by
  have h : vErr (s.size : Int) [] = 0 := rfl
  refine sb_inj ?_
  rw [apS_ok h]
  rfl

set_option maxRecDepth 100000 in
set_option maxHeartbeats 1000000 in
theorem pnormal_any (s : ByteArray) (a : Option Addr) (c : Nat) (es : List Er) (w : World) (hs : s.size ≤ 1000000) (ht : (apS s es).size ≤ 1000000) (hn : es.length ≤ 1000) (hf : ∀ e ∈ es, e.Fit) (hS : ES w.heap.size w a c es) :
    Calls Try.prog 32 #[.string s, .slice a es.length c] w fun e w' => NewES w (nmS s es) (vErr (s.size : Int) es) e w' := by
  have C := pcompose_any s a none c 0 es [] w hs ht (by rw [apS_nil]; exact ht) hn (by simp) hf (by simp) hS (ES.none _ _)
  rw [cm_nil.1, cm_nil.2] at C
  obtain ⟨n, hnn⟩ : ∃ n, es.length = n := ⟨_, rfl⟩
  rw [hnn] at C ⊢
  have CC := Lib.hid C
  clear C hS hf hnn
  go_enter Try.func32, Try.ntmps32
  go_wp2_with fail
  refine CC.out.mono ?_
  rintro e w1 ⟨ad, cd, rfl, hES, hb⟩
  have HF := Lib.hid (And.intro hES hb)
  clear hES hb
  go_wp2_with fail
  go_ret2
  exact ⟨ad, cd, rfl, HF.out.1, HF.out.2⟩

end Go.Proofs.Ytfhpllcdlejfjaa

/- Writing and reading: round trips, one encoding, prefixes. It has no conditions but that numbers have 64 bits. -/
import Derived.Test.YthjedecfpedjbaaVWrite
namespace Go.Proofs.Ythjedecfpedjbaa
open Go.RowKit Go.Shelf
set_option linter.unusedVariables false

theorem rdN_write {n : Nat} {r : List Int} (h : n < 18446744073709551616) (hr : n ≤ r.length) : rdN (.ok (vU n ++ r)) = (n, .ok r) := by
  unfold rdN
  rw [rdU_write h]
  simp only [if_neg (show ¬ r.length < n by omega)]
theorem rdRaw_write {b r : List Int} (h : b.length < 18446744073709551616) : rdRaw (.ok (vU b.length ++ (b ++ r))) = (b, .ok r) := by
  rw [rdRaw_eq, rdN_write h (by simp)]
  simp
theorem rdI_write {n : Int} (h1 : -9223372036854775808 ≤ n) (h2 : n ≤ 9223372036854775807) (r : List Int) : rdI (.ok (vU (zz n) ++ r)) = (n, .ok r) := by
  unfold rdI
  rw [rdU_write (zz_lt h1 h2)]
  simp [unz_zz]
theorem vL_cons (n : Int) (l : List Int) : vL (n :: l) = vU (zz n) ++ vL l := by simp [vL]
theorem vL_ge (l : List Int) : l.length ≤ (vL l).length := by
  induction l with
  | nil => simp
  | cons n l ih => rw [vL_cons]; have := vU_pos (zz n); simp; omega
theorem it_write {l : List Int} (h : I64 l) (r : List Int) : itS rdI (.ok (vL l ++ r)) l.length = .ok r ∧ itL rdI (.ok (vL l ++ r)) l.length = l := by
  induction l with
  | nil => exact ⟨by simp [vL, itS], by simp [itL]⟩
  | cons n l ih =>
    obtain ⟨h1, h2⟩ := ih (fun x hx => h x (by simp [hx]))
    have hn := h n (by simp)
    have e : rdI (.ok (vL (n :: l) ++ r)) = (n, .ok (vL l ++ r)) := by rw [vL_cons, List.append_assoc]; exact rdI_write hn.1 hn.2 _
    rw [List.length_cons, itS_front, itL_front, e]
    exact ⟨h1, by rw [h2]⟩
theorem rdInts_write {l r : List Int} (hl : l.length < 18446744073709551616) (h : I64 l) : rdInts (.ok (vU l.length ++ (vL l ++ r))) = (l, .ok r) := by
  unfold rdInts rdList
  rw [rdN_write hl (by have := vL_ge l; simp; omega)]
  simp only [(it_write h r).1, (it_write h r).2]

end Go.Proofs.Ythjedecfpedjbaa

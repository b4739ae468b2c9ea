/- One encoding: what was read is what its values are written as. Conditions: at most 2000 bytes. -/
import Derived.Test.YtfnpnomfdfdonaaWBack
import Derived.Test.YtfnpnomfdfdonaaVals
namespace Go.Proofs.Ytfnpnomfdfdonaa
open Go.RowKit Go.Shelf
set_option linter.unusedVariables false

theorem rdN_read {zs r : List Int} {n : Nat} (hz : Byt zs) (h : rdN (.ok zs) = (n, .ok r)) : zs = vU n ++ r ∧ n < 18446744073709551616 ∧ n ≤ r.length := by
  unfold rdN at h
  cases hu : rdU (.ok zs) with
  | mk m st =>
    rw [hu] at h
    cases st with
    | bad e => simp at h
    | ok q =>
      simp only at h
      split at h
      · simp at h
      · simp only [Prod.mk.injEq, Rs.ok.injEq] at h
        obtain ⟨rfl, rfl⟩ := h
        obtain ⟨h1, h2⟩ := rdU_read hz hu
        exact ⟨h1, h2, by omega⟩
theorem rdI_read {zs r : List Int} {n : Int} (hz : Byt zs) (h : rdI (.ok zs) = (n, .ok r)) : zs = vU (zz n) ++ r ∧ -9223372036854775808 ≤ n ∧ n ≤ 9223372036854775807 := by
  unfold rdI at h
  cases hu : rdU (.ok zs) with
  | mk m st =>
    rw [hu] at h
    simp only [Prod.mk.injEq] at h
    obtain ⟨rfl, rfl⟩ := h
    obtain ⟨h1, h2⟩ := rdU_read hz hu
    rw [zz_unz]
    exact ⟨h1, unz_bd h2⟩
theorem byt_tail {a b : List Int} (h : Byt (a ++ b)) : Byt b := fun c hc => h c (List.mem_append_right _ hc)
theorem it_read : ∀ (n : Nat) (zs r : List Int), Byt zs → itS rdI (.ok zs) n = .ok r → zs = vL (itL rdI (.ok zs) n) ++ r ∧ I64 (itL rdI (.ok zs) n)
  | 0, zs, r, hz, h => by
    simp only [itS, Rs.ok.injEq] at h
    subst h
    exact ⟨by simp [itL, vL], by intro c hc; simp [itL] at hc⟩
  | n + 1, zs, r, hz, h => by
    rw [itS_front] at h
    rw [itL_front]
    cases hi : rdI (.ok zs) with
    | mk m st =>
      rw [hi] at h
      simp only at h ⊢
      cases st with
      | bad e => rw [it_bad] at h; cases h
      | ok q =>
        obtain ⟨h1, h2⟩ := rdI_read hz hi
        obtain ⟨h3, h4⟩ := it_read n q r (byt_tail (by rw [← h1]; exact hz)) h
        refine ⟨?_, ?_⟩
        · rw [vL_cons, List.append_assoc, ← h3]; exact h1
        · intro c hc
          rcases List.mem_cons.1 hc with rfl | hc
          · exact h2
          · exact h4 c hc
theorem rdV_read {k : Nat} {zs r : List Int} {v : V} (hz : Byt zs) (hl : zs.length ≤ 2000) (hk : k ≤ 5) (h : rdV k (.ok zs) = (v, .ok r)) : zs = enc v ++ r ∧ Fit v := by
  have hi0 : I64 [] := by intro c hc; simp at hc
  have hb0 : Byt [] := by intro c hc; simp at hc
  have hraw : ∀ k, k = 3 ∨ k = 4 → ∀ b, rdRaw (.ok zs) = (b, .ok r) → zs = enc ⟨k, 0, 0, b, []⟩ ++ r ∧ Fit ⟨k, 0, 0, b, []⟩ := by
    intro k hk b hr
    rw [rdRaw_eq] at hr
    cases hn : rdN (.ok zs) with
    | mk n st =>
      rw [hn] at hr
      cases st with
      | bad e => simp at hr
      | ok q =>
        simp only [Prod.mk.injEq, Rs.ok.injEq] at hr
        obtain ⟨rfl, rfl⟩ := hr
        obtain ⟨h1, h2, h3⟩ := rdN_read hz hn
        have hlen : (q.take n).length = n := by rw [List.length_take]; omega
        have hql : q.length ≤ zs.length := by rw [h1, List.length_append]; omega
        refine ⟨?_, ⟨by simp only; omega, by simp, by simp, by simp, ?_, hi0, by simp only; omega, by simp⟩⟩
        · rw [enc_34 _ hk]
          simp only [hlen, List.append_assoc, List.take_append_drop]
          exact h1
        · exact (byt_tail (by rw [← h1]; exact hz)).take n
  have hways : k = 0 ∨ k = 1 ∨ k = 2 ∨ k = 3 ∨ k = 4 ∨ k = 5 := by omega
  rcases hways with rfl | rfl | rfl | rfl | rfl | rfl
  · cases hu : rdU (.ok zs) with
    | mk m st =>
      simp only [rdV, if_true, hu, Prod.mk.injEq] at h
      obtain ⟨rfl, rfl⟩ := h
      obtain ⟨h1, h2⟩ := rdU_read hz hu
      exact ⟨by rw [enc_0 _ rfl]; exact h1, ⟨by simp, h2, by simp, by simp, hb0, hi0, by simp, by simp⟩⟩
  · cases hu : rdI (.ok zs) with
    | mk m st =>
      simp [rdV, hu] at h
      obtain ⟨rfl, rfl⟩ := h
      obtain ⟨h1, h2, h3⟩ := rdI_read hz hu
      exact ⟨by rw [enc_1 _ rfl]; exact h1, ⟨by simp, by simp, h2, h3, hb0, hi0, by simp, by simp⟩⟩
  · cases zs with
    | nil => simp [rdV, rdB] at h
    | cons c t =>
      have hc := hz.cons
      by_cases h1 : 1 < c
      · simp [rdV, rdB, h1] at h
      · simp [rdV, rdB, h1] at h
        obtain ⟨rfl, rfl⟩ := h
        have : c = 0 ∨ c = 1 := by omega
        rcases this with rfl | rfl
        · exact ⟨by rw [enc_2 _ rfl]; simp, ⟨by simp, by simp, by simp, by simp, hb0, hi0, by simp, by simp⟩⟩
        · exact ⟨by rw [enc_2 _ rfl]; simp, ⟨by simp, by simp, by simp, by simp, hb0, hi0, by simp, by simp⟩⟩
  · cases hu : rdRaw (.ok zs) with
    | mk m st =>
      simp [rdV, hu] at h
      obtain ⟨rfl, rfl⟩ := h
      exact hraw 3 (.inl rfl) m hu
  · cases hu : rdRaw (.ok zs) with
    | mk m st =>
      simp [rdV, hu] at h
      obtain ⟨rfl, rfl⟩ := h
      exact hraw 4 (.inr rfl) m hu
  · cases hu : rdInts (.ok zs) with
    | mk m st =>
      simp [rdV, hu] at h
      obtain ⟨rfl, rfl⟩ := h
      unfold rdInts rdList at hu
      cases hn : rdN (.ok zs) with
      | mk n st =>
        rw [hn] at hu
        cases st with
        | bad e => simp at hu
        | ok q =>
          simp only at hu
          cases hs : itS rdI (.ok q) n with
          | bad e => simp [hs] at hu
          | ok q2 =>
            simp [hs] at hu
            obtain ⟨rfl, rfl⟩ := hu
            obtain ⟨h1, h2, h3⟩ := rdN_read hz hn
            have hbq : Byt q := byt_tail (by rw [← h1]; exact hz)
            obtain ⟨h4, h5⟩ := it_read n q q2 hbq hs
            have hql : q.length ≤ zs.length := by rw [h1, List.length_append]; omega
            refine ⟨?_, ⟨by simp, by simp, by simp, by simp, hb0, h5, by simp, by simp only [itL_len]; omega⟩⟩
            rw [enc_5 _ rfl]
            simp only [itL_len, List.append_assoc, ← h4]
            exact h1
theorem rdEnd_zero {st : Rs} {w : World} {base p : Nat} (h : Rd w base p st) (h0 : rdEnd st = 0) : st = .ok [] := by
  obtain ⟨a, cap, zs, e, _, _, _, _, _, _, _, hf⟩ := h
  cases st with
  | bad x => obtain ⟨_, hx⟩ := hf; simp [rdEnd] at h0; omega
  | ok l => cases l with
    | nil => rfl
    | cons c t => simp [rdEnd] at h0
/-- What holds while values are read into a list: as long as no error is recorded, the bytes read are those of the values. -/
structure OneInv (B D p : Nat) (Z : List Int) (ov : Value) (k : Nat) (wo wr : World) : Prop where
  ex : ∃ vs st, VRow B wr ov vs ∧ vs.length = k ∧ Rd wr D p st ∧ ∀ r, st = .ok r → Z = encs vs ++ r ∧ ∀ v ∈ vs, Fit v
  bl : Below D wo wr
  o1 : D ≤ p ∧ p < B ∧ B ≤ wr.heap.size
/-- One value more has been read. -/
theorem one_step {B D p k kk : Nat} {Z : List Int} {ov v' : Value} {st s : Rs} {R : V} {vs : List V} {css : List (List Value)} {ab : Option Addr} {cb : Nat} {al : Option Addr} {cl : Nat} {wo wa w3 : World} {tmp : Obj} (hZ : Byt Z) (hZl : Z.length ≤ 2000) (hkk : kk ≤ 5)
    (hl : css.length = vs.length) (hown : wa.ownsRow B 28 5 ov vs.length css.flatten) (hat : ∀ (j : Nat) (v : V) (c : List Value), vs[j]? = some v → css[j]? = some c → VAt B wa v c)
    (hvl : vs.length = k) (hfit : ∀ r, st = .ok r → Z = encs vs ++ r ∧ ∀ v ∈ vs, Fit v) (hR : rdV kk st = (R, s))
    (hb : SlT .u8 5 B wa ab cb R.b) (hL : SlT .i64 3 B wa al cl R.l) (hr : Rd wa D p s) (hbel : Below D wo wa) (o1 : D ≤ p ∧ p < B ∧ B ≤ wa.heap.size)
    (hg : (wa.alloc tmp).grownBy w3 ov.ownBlock) (hown3 : w3.ownsRow B 28 5 v' (vs.length + 1) (css.flatten ++ [.int .i64 R.kind, .int .u64 R.u, .int .i64 R.n, .slice ab R.b.length cb, .slice al R.l.length cl])) :
    OneInv B D p Z v' (k + 1) wo w3 := by
  have hb3 : Below B wa w3 := ((Below.refl _ _).alloc o1.2.2 _).grown hg (by simp; omega) (fun g eg => (hown.lt g eg).1)
  refine ⟨⟨vs ++ [R], s, vrow_push hl hown hat ⟨ab, cb, al, cl, rfl, hb, hL⟩ hg hown3, by rw [List.length_append, hvl]; rfl, hr.keep (fun b _ h2 => hb3.block b (by omega)), ?_⟩, hbel.trans (hb3.mono (by omega)), ⟨o1.1, o1.2.1, Nat.le_trans o1.2.2 hb3.size⟩⟩
  intro r hr2
  cases st with
  | bad e => have := rdV_bad kk e; rw [hR] at this; simp only at this; rw [this] at hr2; cases hr2
  | ok q =>
    obtain ⟨h1, h2⟩ := hfit q rfl
    have hq : Byt q := byt_tail (by rw [← h1]; exact hZ)
    have hql : q.length ≤ Z.length := by rw [h1, List.length_append]; omega
    obtain ⟨h3, h4⟩ := rdV_read hq (by omega) hkk (v := R) (r := r) (by rw [hR, hr2])
    refine ⟨?_, fun v hv => ?_⟩
    · rw [encs_append, List.append_assoc, h1]; conv => lhs; rw [h3]
      simp [encs]
    · rcases List.mem_append.1 hv with h | h
      · exact h2 v h
      · simp at h; subst h; exact h4
theorem OneInv.below {B D p k : Nat} {Z : List Int} {ov : Value} {wo wr w' : World} (h : OneInv B D p Z ov k wo wr) (hb : Below wr.heap.size wr w') : OneInv B D p Z ov k wo w' := by
  obtain ⟨⟨vs, st, h1, h2, h3, h4⟩, h5, h6⟩ := h
  exact ⟨⟨vs, st, h1.below hb, h2, h3.below hb, h4⟩, h5.trans (hb.mono (by omega)), ⟨h6.1, h6.2.1, Nat.le_trans h6.2.2 hb.size⟩⟩

end Go.Proofs.Ytfnpnomfdfdonaa

/- The mathematics of P1.3: hashes that differ in one integer, in one group of bytes or in the length differ. It has no conditions. -/
import Derived.Test.YtfnpnomfdfdonaaBytes
namespace Go.Proofs.Ytfnpnomfdfdonaa
open Go.RowKit

theorem absorb_one : ∀ (l l' : List (BitVec 64)) (k : Nat) (S : BitVec 64), l.length = l'.length → (∀ j, j ≠ k → l[j]? = l'[j]?) → absorb S l = absorb S l' → l = l'
  | [], [], _, _, _, _, _ => rfl
  | [], _ :: _, _, _, h, _, _ => by simp at h
  | _ :: _, [], _, _, h, _, _ => by simp at h
  | a :: t, b :: u, 0, S, hl, hj, h => by
    have ht : t = u := by
      apply List.ext_getElem?
      intro j
      have := hj (j + 1) (by omega)
      simpa using this
    subst ht
    have h1 : absorb (mixB S a) t = absorb (mixB S b) t := h
    rw [mixB_inj_right (absorb_inj h1)]
  | a :: t, b :: u, k + 1, S, hl, hj, h => by
    have hab : a = b := by
      have := hj 0 (by omega)
      simpa using this
    subst hab
    have h1 : absorb (mixB S a) t = absorb (mixB S a) u := h
    rw [absorb_one t u k (mixB S a) (by simpa using hl) (fun j hjk => by
      have := hj (j + 1) (by omega)
      simpa using this) h1]

/-- Two lists of integers that differ at most at place k and have one sum hold one word there. -/
theorem sumS_one {lab ws us : List Int} {k : Nat} (hl : ws.length = us.length) (hj : ∀ j, j ≠ k → ws[j]? = us[j]?) (h : sumS lab ws = sumS lab us) :
    ws.map (BitVec.ofInt 64) = us.map (BitVec.ofInt 64) := by
  rw [sumS_head, sumS_head, hl] at h
  exact absorb_one _ _ k _ (by simp [hl]) (fun j hjk => by rw [List.getElem?_map, List.getElem?_map, hj j hjk]) (mixB_inj_left h)

theorem ofInt_inj64 {x y : Int} (h1 : -9223372036854775808 ≤ x) (h2 : x ≤ 9223372036854775807) (h3 : -9223372036854775808 ≤ y) (h4 : y ≤ 9223372036854775807) (h : BitVec.ofInt 64 x = BitVec.ofInt 64 y) : x = y := by
  have h5 := congrArg BitVec.toNat h
  rw [BitVec.toNat_ofInt, BitVec.toNat_ofInt] at h5
  omega

theorem leN_inj : ∀ {a b : List Int}, Byt a → Byt b → a.length = b.length → leN a = leN b → a = b
  | [], [], _, _, _, _ => rfl
  | [], _ :: _, _, _, h, _ => by simp at h
  | _ :: _, [], _, _, h, _ => by simp at h
  | x :: s, y :: t, ha, hb, hl, h => by
    have h1 := ha.cons
    have h2 := hb.cons
    simp only [leN] at h
    have h3 : x.toNat = y.toNat := by omega
    have h4 : leN s = leN t := by omega
    rw [leN_inj h1.2.2 h2.2.2 (by simpa using hl) h4, show x = y by omega]

theorem word_inj {x y : List Int} {k : Nat} (hx : Byt x) (hy : Byt y) (hl : x.length = y.length) (h : word x k = word y k) : grp x k = grp y k := by
  have h1 := congrArg U h
  rw [U_word hx, U_word hy] at h1
  exact leN_inj ((hx.drop _).take _) ((hy.drop _).take _) (by rw [grp_len, grp_len, hl]) (by omega)

/-- Lists that agree outside a group, and in it, are one. -/
theorem eq_of_grp {x y : List Int} {k : Nat} (hj : ∀ j, j / 8 ≠ k → x[j]? = y[j]?) (h : grp x k = grp y k) : x = y := by
  apply List.ext_getElem?
  intro j
  by_cases hjk : j / 8 = k
  · have h1 := congrArg (fun l => l[j - 8 * k]?) h
    simp only [grp, List.getElem?_take, List.getElem?_drop] at h1
    rw [if_pos (by omega), if_pos (by omega), show 8 * k + (j - 8 * k) = j by omega] at h1
    exact h1
  · exact hj j hjk
theorem grp_of_eq {x y : List Int} {k i : Nat} (hj : ∀ j, j / 8 ≠ k → x[j]? = y[j]?) (hi : i ≠ k) : grp x i = grp y i := by
  apply List.ext_getElem?
  intro j
  simp only [grp, List.getElem?_take, List.getElem?_drop]
  by_cases h : j < 8
  · rw [if_pos h, if_pos h]; exact hj _ (by omega)
  · rw [if_neg h, if_neg h]

/-- Two slices of bytes that differ in one group at most and have one hash are one. -/
theorem bytesS_one {lab x y : List Int} {k : Nat} (hx : Byt x) (hy : Byt y) (hl : x.length = y.length) (hj : ∀ j, j / 8 ≠ k → x[j]? = y[j]?) (h : bytesS lab x = bytesS lab y) : x = y := by
  rw [bytesS_col, bytesS_col, ← hl] at h
  by_cases hk : k < nGroups x.length
  · have hw : ∀ i, i ≠ k → word x i = word y i := fun i hi => by unfold word; rw [grp_of_eq hj hi]
    have h1 := sumS_one (k := k) (by simp [colS_len]) (fun j hjk => by
      rcases Nat.lt_or_ge j (nGroups x.length) with hlt | hge
      · rw [List.getElem?_append_left (by rw [colS_len]; exact hlt), List.getElem?_append_left (by rw [colS_len]; exact hlt)]
        unfold colS
        simp [hlt, hw j hjk]
      · rw [List.getElem?_append_right (by rw [colS_len]; exact hge), List.getElem?_append_right (by rw [colS_len]; exact hge), colS_len, colS_len]) h
    have h2 := congrArg (fun l => l[k]?) h1
    simp only [List.map_append, List.getElem?_append_left (show k < ((colS x (nGroups x.length)).map (BitVec.ofInt 64)).length by simp [colS_len]; exact hk),
      List.getElem?_append_left (show k < ((colS y (nGroups x.length)).map (BitVec.ofInt 64)).length by simp [colS_len]; exact hk)] at h2
    unfold colS at h2
    simp [hk, ofInt_wrap64] at h2
    exact eq_of_grp hj (word_inj hx hy hl h2)
  · apply List.ext_getElem?
    intro j
    by_cases hjl : j < x.length
    · exact hj j (by unfold nGroups at hk; omega)
    · rw [List.getElem?_eq_none (by omega), List.getElem?_eq_none (by omega)]

/-- Two labels that differ in one group at most and whose sums agree are one. -/
theorem sumS_label {x y ws : List Int} {k : Nat} (hx : Byt x) (hy : Byt y) (hl : x.length = y.length) (hj : ∀ j, j / 8 ≠ k → x[j]? = y[j]?) (h : sumS x ws = sumS y ws) : x = y := by
  rw [sumS_head, sumS_head] at h
  have h1 := absorb_inj (mixB_inj_left h)
  unfold headS at h1
  rw [← hl] at h1
  have h2 := mixB_inj_left (mixB_inj_left h1)
  by_cases hk : k < nGroups x.length
  · have hw : ∀ i, i ≠ k → word x i = word y i := fun i hi => by unfold word; rw [grp_of_eq hj hi]
    have h3 := absorb_one _ _ k _ (by simp [wordsL, hl]) (fun j hjk => by
      unfold wordsL
      rw [← hl]
      by_cases hjn : j < nGroups x.length
      · simp [hjn, hw j hjk]
      · simp [hjn]) h2
    have h4 := congrArg (fun l => l[k]?) h3
    unfold wordsL at h4
    rw [← hl] at h4
    simp [hk] at h4
    exact eq_of_grp hj (word_inj hx hy hl h4)
  · apply List.ext_getElem?
    intro j
    by_cases hjl : j < x.length
    · exact hj j (by unfold nGroups at hk; omega)
    · rw [List.getElem?_eq_none (by omega), List.getElem?_eq_none (by omega)]

/-- A zero byte behind a slice whose length is no multiple of 8 changes the hash. -/
theorem bytesS_zero {lab x : List Int} (hl : x.length ≤ 1000) (h8 : ¬ x.length % 8 = 0) : bytesS lab (x ++ [0]) ≠ bytesS lab x := by
  intro h
  have hn : nGroups (x ++ [0]).length = nGroups x.length := by rw [List.length_append]; unfold nGroups; simp; omega
  have hw : ∀ k, word (x ++ [0]) k = word x k := fun k => by
    have hg : grp (x ++ [0]) k = grp x k ∨ grp (x ++ [0]) k = grp x k ++ [0] := by
      unfold grp
      rcases Nat.lt_or_ge x.length (8 * k) with h1 | h1
      · left; rw [List.drop_of_length_le (by simp; omega), List.drop_of_length_le (by omega)]
      · rw [List.drop_append_of_le_length h1]
        rcases Nat.lt_or_ge (x.drop (8 * k)).length 8 with h2 | h2
        · right; rw [List.take_append, List.take_of_length_le (by omega)]
          congr 1
          rw [List.take_of_length_le]; simp; simp at h2; omega
        · left; rw [List.take_append_of_le_length h2]
    unfold word
    rcases hg with h1 | h1
    · rw [h1]
    · rw [h1, leN_snoc]; simp
  have hc : colS (x ++ [0]) (nGroups x.length) = colS x (nGroups x.length) := by unfold colS; simp only [hw]
  rw [bytesS_col, bytesS_col, hn, hc] at h
  have h1 := sumS_one (k := nGroups x.length) (by simp) (fun j hjk => by
    rcases Nat.lt_or_ge j (nGroups x.length) with hlt | hge
    · rw [List.getElem?_append_left (by rw [colS_len]; exact hlt), List.getElem?_append_left (by rw [colS_len]; exact hlt)]
    · rw [List.getElem?_eq_none (by simp [colS_len]; omega), List.getElem?_eq_none (by simp [colS_len]; omega)]) h
  rw [List.map_append, List.map_append] at h1
  have h2 := List.append_cancel_left h1
  simp only [List.map_cons, List.map_nil, List.cons.injEq, and_true] at h2
  have h3 := ofInt_inj64 (by omega) (by simp; omega) (by omega) (by omega) h2
  simp at h3
  omega

end Go.Proofs.Ytfnpnomfdfdonaa

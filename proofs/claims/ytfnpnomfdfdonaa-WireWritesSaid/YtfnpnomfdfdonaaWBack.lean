/- Reading back values: the round trip, prefixes, one encoding. It has no conditions but that the values fit. -/
import Derived.Test.YtfnpnomfdfdonaaWDec
import Derived.Deep.RegionWith
namespace Go.Proofs.Ytfnpnomfdfdonaa
open Go.RowKit Go.Shelf
set_option linter.unusedVariables false

theorem rdV_write {v : V} (h : Good v) (r : List Int) : rdV v.kind (.ok (enc v ++ r)) = (v, .ok r) := by
  obtain ⟨k, u, n, b, l⟩ := v
  obtain ⟨k5, u64, n1, n2, byt, i64, bl, ll, z0, z1, z2, z3, z5⟩ := h
  simp only at k5 u64 n1 n2 byt i64 bl ll z0 z1 z2 z3 z5 ⊢
  have hways : k = 0 ∨ k = 1 ∨ k = 2 ∨ k = 3 ∨ k = 4 ∨ k = 5 := by omega
  rcases hways with rfl | rfl | rfl | rfl | rfl | rfl
  · obtain rfl := z1 (by decide) (by decide)
    obtain rfl := z3 (by decide) (by decide)
    obtain rfl := z5 (by decide)
    simp [rdV, enc, rdU_write u64]
  · obtain rfl := z0 (by decide)
    obtain rfl := z3 (by decide) (by decide)
    obtain rfl := z5 (by decide)
    simp [rdV, enc, rdI_write n1 n2]
  · obtain rfl := z0 (by decide)
    obtain rfl := z3 (by decide) (by decide)
    obtain rfl := z5 (by decide)
    rcases z2 rfl with rfl | rfl <;> simp [rdV, enc, rdB]
  · obtain rfl := z0 (by decide)
    obtain rfl := z1 (by decide) (by decide)
    obtain rfl := z5 (by decide)
    have := rdRaw_write (b := b) (r := r) (by omega)
    simp [rdV, enc, this]
  · obtain rfl := z0 (by decide)
    obtain rfl := z1 (by decide) (by decide)
    obtain rfl := z5 (by decide)
    have := rdRaw_write (b := b) (r := r) (by omega)
    simp [rdV, enc, this]
  · obtain rfl := z0 (by decide)
    obtain rfl := z1 (by decide) (by decide)
    obtain rfl := z3 (by decide) (by decide)
    have := rdInts_write (l := l) (r := r) (by omega) i64
    simp [rdV, enc, this]

/-- Reading goes on after an error. -/
theorem it_bad (e : Int) (k : Nat) : itS rdI (.bad e) k = .bad e := by
  induction k with
  | zero => rfl
  | succ k ih => rw [itS, ih]; rfl
theorem it_prefix {l t s : List Int} (h : I64 l) (hv : vL l = t ++ s) (hs : s ≠ []) : itS rdI (.ok t) l.length = .bad 3 := by
  induction l generalizing t with
  | nil => simp [vL] at hv; exact absurd hv.2 hs
  | cons n l ih =>
    have hn := h n (by simp)
    rw [vL_cons] at hv
    rw [List.length_cons, itS_front]
    rcases List.append_eq_append_iff.1 hv with ⟨a, h1, h2⟩ | ⟨a, h1, h2⟩
    · rw [h1, rdI_write hn.1 hn.2]
      exact ih (fun x hx => h x (by simp [hx])) h2
    · by_cases ha : a = []
      · subst ha
        rw [List.append_nil] at h1
        rw [← h1]
        have := rdI_write hn.1 hn.2 []
        rw [List.append_nil] at this
        rw [this]
        exact ih (fun x hx => h x (by simp [hx])) (by simpa using h2.symm)
      · have hp := rdU_prefix (zz_lt hn.1 hn.2) h1 ha
        have : (rdI (.ok t)).2 = .bad 3 := by unfold rdI; rw [hp]
        rw [this, it_bad]
theorem rdN_prefix {n : Nat} {b p s : List Int} (hn : n < 18446744073709551616) (hb : b.length < n ∨ True) (hv : vU n ++ b = p ++ s) (hs : s ≠ []) :
    rdN (.ok p) = (0, .bad 3) ∨ ∃ t, p = vU n ++ t ∧ b = t ++ s := by
  rcases List.append_eq_append_iff.1 hv with ⟨a, h1, h2⟩ | ⟨a, h1, h2⟩
  · exact .inr ⟨a, h1, h2⟩
  · by_cases ha : a = []
    · subst ha
      rw [List.append_nil] at h1
      exact .inr ⟨[], by rw [List.append_nil]; exact h1.symm, by simpa using h2.symm⟩
    · left
      unfold rdN
      rw [rdU_prefix hn h1 ha]
theorem rdV_prefix {v : V} {p s : List Int} (h : Good v) (hv : enc v = p ++ s) (hs : s ≠ []) : (rdV v.kind (.ok p)).2 = .bad 3 := by
  obtain ⟨k, u, n, b, l⟩ := v
  obtain ⟨k5, u64, n1, n2, byt, i64, bl, ll, z0, z1, z2, z3, z5⟩ := h
  simp only at k5 u64 n1 n2 byt i64 bl ll z0 z1 z2 z3 z5 ⊢
  have hraw : ∀ b : List Int, b.length ≤ 200 → vU b.length ++ b = p ++ s → (rdRaw (.ok p)).2 = .bad 3 := by
    intro b hb hv
    rw [rdRaw_eq]
    rcases rdN_prefix (by omega) (.inr trivial) hv hs with h1 | ⟨t, h1, h2⟩
    · rw [h1]
    · have : rdN (.ok p) = (0, .bad 3) := by
        unfold rdN
        rw [h1, rdU_write (by omega)]
        have : t.length < b.length := by rw [h2, List.length_append]; have := List.length_pos_iff.2 hs; omega
        simp only [if_pos this]
      rw [this]
  have hways : k = 0 ∨ k = 1 ∨ k = 2 ∨ k = 3 ∨ k = 4 ∨ k = 5 := by omega
  rcases hways with rfl | rfl | rfl | rfl | rfl | rfl
  · simp only [enc, if_true] at hv
    simp [rdV, rdU_prefix u64 hv hs]
  · simp [enc] at hv
    have := rdU_prefix (zz_lt n1 n2) hv hs
    simp [rdV, rdI, this]
  · simp [enc] at hv
    cases p with
    | nil => simp [rdV, rdB]
    | cons c t =>
      simp at hv
      exact absurd hv.2.2 hs
  · simp [enc] at hv
    simpa [rdV] using hraw b bl hv
  · simp [enc] at hv
    simpa [rdV] using hraw b bl hv
  · simp [enc] at hv
    have : (rdInts (.ok p)).2 = .bad 3 := by
      unfold rdInts rdList
      rcases rdN_prefix (by omega) (.inr trivial) hv hs with h1 | ⟨t, h1, h2⟩
      · rw [h1]
      · by_cases hl : t.length < l.length
        · have : rdN (.ok p) = (0, .bad 3) := by
            unfold rdN
            rw [h1, rdU_write (by omega)]
            simp only [if_pos hl]
          rw [this]
        · have : rdN (.ok p) = (l.length, .ok t) := by
            rw [h1]; exact rdN_write (by omega) (by omega)
          rw [this]
          simp only [it_prefix i64 h2 hs]
    simpa [rdV] using this
theorem rdList_bad (f : Rs → Int × Rs) (e : Int) : rdList f (.bad e) = ([], .bad e) := rfl
theorem rdV_bad (k : Nat) (e : Int) : (rdV k (.bad e)).2 = .bad e := by
  unfold rdV
  split <;> (try split) <;> (try split) <;> (try split) <;> (try split) <;> rfl
/-- The values that are read after an error are zero. -/
theorem rdV_bad_val (k : Nat) (e : Int) (hk : k ≤ 5) : (rdV k (.bad e)).1 = ⟨k, 0, 0, [], []⟩ := by
  have hways : k = 0 ∨ k = 1 ∨ k = 2 ∨ k = 3 ∨ k = 4 ∨ k = 5 := by omega
  rcases hways with rfl | rfl | rfl | rfl | rfl | rfl <;> simp [rdV, rdI, rdU, rdB, rdRaw, rdInts, rdList_bad, unz]

/-- What a reader of a proper prefix holds when k values have been read. -/
def Pre (vs : List V) (k : Nat) (st : Rs) : Prop := st = .bad 3 ∨ ∃ q s, st = .ok q ∧ encs (vs.drop k) = q ++ s ∧ s ≠ []
theorem drop_step {vs : List V} {k : Nat} {v : V} (h : vs[k]? = some v) : encs (vs.drop k) = enc v ++ encs (vs.drop (k + 1)) := by
  have hlt : k < vs.length := (List.getElem?_eq_some_iff.1 h).1
  rw [List.drop_eq_getElem_cons hlt]
  have : vs[k] = v := by rw [List.getElem?_eq_getElem hlt] at h; exact Option.some.inj h
  simp [encs, this]
theorem Pre.step {vs : List V} {k : Nat} {st : Rs} {v : V} (h : Pre vs k st) (hv : vs[k]? = some v) (hg : Good v) : Pre vs (k + 1) (rdV v.kind st).2 := by
  rcases h with rfl | ⟨q, s, rfl, he, hs⟩
  · exact .inl (rdV_bad _ _)
  · rw [drop_step hv] at he
    rcases List.append_eq_append_iff.1 he with ⟨a, h1, h2⟩ | ⟨a, h1, h2⟩
    · refine .inr ⟨a, s, ?_, h2, hs⟩
      rw [h1, rdV_write hg]
    · by_cases ha : a = []
      · subst ha
        rw [List.append_nil] at h1
        refine .inr ⟨[], s, ?_, by simpa using h2.symm, hs⟩
        have := rdV_write hg []
        rw [List.append_nil] at this
        rw [← h1, this]
      · exact .inl (rdV_prefix hg h1 ha)
theorem Pre.end_ {vs : List V} {st : Rs} (h : Pre vs vs.length st) : st = .bad 3 := by
  rcases h with h | ⟨q, s, _, he, hs⟩
  · exact h
  · simp [encs] at he; exact absurd he.2 hs

/-- The list with two elements more. -/
theorem vrow_push2 {B : Nat} {ov v' : Value} {vs : List V} {css : List (List Value)} {c d : List Value} {v u : V} {W w3 : World} {tmp : Obj} (hl : css.length = vs.length) (hown : W.ownsRow B 28 5 ov vs.length css.flatten)
    (hat : ∀ (j : Nat) (v : V) (c : List Value), vs[j]? = some v → css[j]? = some c → VAt B W v c) (hv : VAt B W v c) (hu : VAt B W u d) (hg : (W.alloc tmp).grownBy w3 ov.ownBlock)
    (hown3 : w3.ownsRow B 28 5 v' (vs.length + 2) (css.flatten ++ (c ++ d))) : VRow B w3 v' (vs ++ [v, u]) := by
  have hkeep : ∀ (g : Nat) (cur : Array Value) (e : TypeId) (f : Nat × Nat), e ≠ 28 → B ≤ g → W.heap[g]? = some (.cells cur e f) → w3.heap[g]? = W.heap[g]? := by
    intro g cur e f he _ hc
    have hlt : g < W.heap.size := (Array.getElem?_eq_some_iff.1 hc).1
    refine (hg.block g (by simp; omega) (fun eg => ?_)).trans (Below.heap_alloc _ _ _ hlt)
    rcases hown.2 with ⟨rfl, _⟩ | ⟨g', cap, cur', rfl, _, hb, _⟩
    · simp [Value.ownBlock] at eg
    · simp [Value.ownBlock] at eg
      subst eg
      rw [hb] at hc; injection hc with hc; injection hc with _ h2; exact he h2.symm
  refine ⟨css ++ [c, d], by simp [hl], ?_, fun j v0 c0 h1 h2 => ?_⟩
  · simpa using hown3
  · rcases Nat.lt_or_ge j vs.length with hj | hj
    · rw [List.getElem?_append_left hj] at h1
      rw [List.getElem?_append_left (by omega)] at h2
      exact (hat j v0 c0 h1 h2).keep hkeep
    · rw [List.getElem?_append_right hj] at h1
      rw [List.getElem?_append_right (by omega)] at h2
      obtain ⟨e, he⟩ : ∃ e, j - vs.length = e := ⟨_, rfl⟩
      rw [show j - css.length = j - vs.length by omega] at h2
      rw [he] at h1 h2
      match e with
      | 0 => simp at h1 h2; subst h1 h2; exact hv.keep hkeep
      | 1 => simp at h1 h2; subst h1 h2; exact hu.keep hkeep
      | e + 2 => simp at h1

end Go.Proofs.Ytfnpnomfdfdonaa

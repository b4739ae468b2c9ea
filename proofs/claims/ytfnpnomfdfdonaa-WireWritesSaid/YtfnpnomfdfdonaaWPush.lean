/- Lists of values: several elements more, and the first ones. It has no conditions. -/
import Derived.Test.YtfnpnomfdfdonaaREnc
import Derived.Test.YtfnpnomfdfdonaaWBack
namespace Go.Proofs.Ytfnpnomfdfdonaa
open Go.RowKit Go.Shelf
set_option linter.unusedVariables false

theorem SlT.below {k : IntKind} {e : TypeId} {base : Nat} {w w' : World} {a : Option Addr} {cap : Nat} {zs : List Int} (h : SlT k e base w a cap zs) (hb : Below w.heap.size w w') : SlT k e base w' a cap zs :=
  h.keep (fun g cur f _ hc => hb.block g (Array.getElem?_eq_some_iff.1 hc).1)
/-- The list with several elements more. -/
theorem vrow_append {B : Nat} {ov v' : Value} {vs us : List V} {css ds : List (List Value)} {W w3 : World} {tmp : Obj} {n : Nat} (hl : css.length = vs.length) (hown : W.ownsRow B 28 5 ov vs.length css.flatten)
    (hat : ∀ (j : Nat) (v : V) (c : List Value), vs[j]? = some v → css[j]? = some c → VAt B W v c) (hld : ds.length = us.length) (hus : ∀ (j : Nat) (v : V) (c : List Value), us[j]? = some v → ds[j]? = some c → VAt B W v c) (hg : (W.alloc tmp).grownBy w3 ov.ownBlock)
    (hn : n = vs.length + us.length) (hown3 : w3.ownsRow B 28 5 v' n (css.flatten ++ ds.flatten)) : VRow B w3 v' (vs ++ us) := by
  have hkeep : ∀ (g : Nat) (cur : Array Value) (e : TypeId) (f : Nat × Nat), e ≠ 28 → B ≤ g → W.heap[g]? = some (.cells cur e f) → w3.heap[g]? = W.heap[g]? := by
    intro g cur e f he _ hc
    have hlt : g < W.heap.size := (Array.getElem?_eq_some_iff.1 hc).1
    refine (hg.block g (by simp; omega) (fun eg => ?_)).trans (Below.heap_alloc _ _ _ hlt)
    rcases hown.2 with ⟨rfl, _⟩ | ⟨g', cap, cur', rfl, _, hb, _⟩
    · simp [Value.ownBlock] at eg
    · simp [Value.ownBlock] at eg
      subst eg
      rw [hb] at hc; injection hc with hc; injection hc with _ h2; exact he h2.symm
  refine ⟨css ++ ds, by simp [hl, hld], ?_, fun j v0 c0 h1 h2 => ?_⟩
  · rw [List.length_append, List.flatten_append, ← hn]; exact hown3
  · rcases Nat.lt_or_ge j vs.length with hj | hj
    · rw [List.getElem?_append_left hj] at h1
      rw [List.getElem?_append_left (by omega)] at h2
      exact (hat j v0 c0 h1 h2).keep hkeep
    · rw [List.getElem?_append_right hj] at h1
      rw [List.getElem?_append_right (by omega), hl] at h2
      exact (hus _ v0 c0 h1 h2).keep hkeep
theorem flatten_take5 (css : List (List Value)) (h : ∀ c ∈ css, c.length = 5) (m : Nat) : css.flatten.take (m * 5) = (css.take m).flatten := by
  induction css generalizing m with
  | nil => simp
  | cons c css ih =>
    have h2 := h c (by simp)
    cases m with
    | zero => simp
    | succ m =>
      rw [List.flatten_cons, List.take_append, h2, List.take_of_length_le (by omega), show (m + 1) * 5 - 5 = m * 5 by omega, ih (fun x hx => h x (by simp [hx]))]
      simp
/-- The first elements are a list of values. -/
theorem VRow.take {base cap n : Nat} {w : World} {A : Option Addr} {vs : List V} (h : VRow base w (.slice A n cap) vs) (m : Nat) (hm : m ≤ vs.length) (h1 : 1 ≤ m) : VRow base w (.slice A m cap) (vs.take m) := by
  obtain ⟨css, hl, hown, hat⟩ := h.ex
  have h5 := VRow.len5 hl hat
  have hlen : (vs.take m).length = m := by rw [List.length_take]; omega
  refine ⟨css.take m, by rw [List.length_take, List.length_take, hl], ?_, fun j v c a b => ?_⟩
  · rw [hlen]
    rcases hown.2 with ⟨_, h0⟩ | ⟨g, cap', cur, hv, hg, hb, hc, hmx, hs, ht⟩
    · omega
    · simp only [Value.slice.injEq] at hv
      obtain ⟨rfl, rfl, rfl⟩ := hv
      refine ⟨?_, .inr ⟨g, cap, cur, rfl, hg, hb, by omega, hmx, hs, ?_⟩⟩
      · rw [flat_len _ (fun c hc => h5 c (List.mem_of_mem_take hc)), List.length_take]; omega
      · rw [← flatten_take5 css h5 m, ← ht, List.take_take, Nat.min_eq_left (Nat.mul_le_mul_right 5 (by omega))]
  · rw [List.getElem?_take] at a b
    split at a
    · rename_i hjm
      rw [if_pos hjm] at b
      exact hat j v c a b
    · cases a

end Go.Proofs.Ytfnpnomfdfdonaa

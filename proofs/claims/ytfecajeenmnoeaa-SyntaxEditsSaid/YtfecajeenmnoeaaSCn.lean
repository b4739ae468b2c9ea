/- The contracts of slices.Clone at integers and at nodes. Conditions: at most 100000 elements. -/
import Derived.Test.YtfecajeenmnoeaaSKr
import Derived.OwnWalk
import Derived.Lib.SliceRun
namespace Go.Proofs.Ytfecajeenmnoeaa
open Go.RowKit Go.Shelf Go.Maps
set_option linter.unusedVariables false

theorem own_empty (w : World) (e : TypeId) (size : Nat) : (w.alloc (.cells #[] e)).ownsRow w.heap.size e size (.slice (some ⟨w.heap.size, 0, none⟩) 0 0) 0 [] :=
  ⟨by simp, .inr ⟨w.heap.size, 0, #[], rfl, Nat.le_refl _, World.alloc_heap_new w _, Nat.le_refl _, by unfold maxLen; omega, by simp, by simp⟩⟩

set_option maxRecDepth 100000 in
set_option maxHeartbeats 2000000 in
theorem cloneInt_any (a : Option Addr) (n cap : Nat) (xs : List Value) (w : World) (hn : n ≤ 100000) (hle : n ≤ cap) (hmx : cap ≤ 9223372036854775807) (hx : xs.length = n * 1) (h1 : ∀ u ∈ xs, u.oneCell' = true) (h0 : a = none → n = 0) (hc : ∀ ad, a = some ad → ∀ j u, xs[j]? = some u → w.cell? (ad.add j) = some u) :
    Calls Try.prog 60 #[.slice a n cap] w fun e w' => ∃ v, e = .returned v ∧ w'.ownsRow w.heap.size 3 1 v n xs ∧ Below w.heap.size w w' := by
  obtain ⟨i0, hi, hz0, hz1, hz2⟩ := info_parts info3
  have q1 : ∀ (w : World) (a : Option Addr) (n c n' c' : Nat), (binOp .eql 22 (.slice a n c) (.slice none n' c')).run Try.prog w = .ok (.bool a.isNone) w := fun w a n c n' c' => Lib.run_eql_slice_nil w _ _ a n c n' c' Try.underlying22
  have u1 : ∀ w, Sem.run Try.prog (underlying 22) w = .ok (TypeDesc.slice 3) w := run_underlying Try.underlying22
  cases a with
  | none =>
    obtain rfl : n = 0 := h0 rfl
    obtain rfl : xs = [] := List.eq_nil_of_length_eq_zero (by omega)
    have HF : Hid (w.ownsRow w.heap.size 3 1 (.slice none 0 0) 0 [] ∧ Below w.heap.size w w) := ⟨World.ownsRow_nil _ _ _ _, Below.refl _ _⟩
    clear hc h0 h1 hx
    go_enter Try.func60, Try.ntmps60
    go_wp2
    go_ret
    exact ⟨_, rfl, HF.out⟩
  | some ad =>
    have HC := Lib.hid (hc ad rfl)
    have HL2 := Lib.hid hx; have H1 := Lib.hid h1
    clear hc hx h1 h0
    go_enter Try.func60, Try.ntmps60
    go_wp2_with (at_builtin; refine wpList_append_own _ rfl _ _ 22 rfl w.heap.size 3 i0 (.int .i64 0) 1 8 Try.underlying22 hi hz0 hz1 hz2 rfl (by decide) _ _ _ rfl (own_empty w 3 1) ad n cap xs rfl ?qc1 ?qc2 ?qc3 ?qc4 ?qc5 ?qc6 ?_)
    case qc1 => exact HL2.out
    case qc2 =>
      intro j u hj
      exact Lib.cell?_alloc_some _ (HC.out j u hj)
    case qc3 => exact H1.out
    case qc4 => unfold maxLen; omega
    case qc5 => omega
    case qc6 => simp
    intro v' w1 hown hgrow _
    have hown' : w1.ownsRow w.heap.size 3 1 v' n xs := by simpa using hown
    have HF : Hid (w1.ownsRow w.heap.size 3 1 v' n xs ∧ Below w.heap.size w w1) := ⟨hown', ((Below.refl _ w).alloc (Nat.le_refl _) _).grown hgrow (by simp) (by intro k hk; simp [Value.ownBlock] at hk; omega)⟩
    obtain ⟨av, cv, rfl⟩ := own_slice hown'
    clear hown hown' hgrow
    go_wp2
    go_ret
    exact ⟨_, rfl, HF.out⟩

set_option maxRecDepth 100000 in
set_option maxHeartbeats 2000000 in
theorem cloneNode_any (a : Option Addr) (n cap : Nat) (xs : List Value) (w : World) (hn : n ≤ 100000) (hle : n ≤ cap) (hmx : cap ≤ 9223372036854775807) (hx : xs.length = n * 4) (h1 : ∀ u ∈ xs, u.oneCell' = true) (h0 : a = none → n = 0) (hc : ∀ ad, a = some ad → ∀ j u, xs[j]? = some u → w.cell? (ad.add j) = some u) :
    Calls Try.prog 64 #[.slice a n cap] w fun e w' => ∃ v, e = .returned v ∧ w'.ownsRow w.heap.size 25 4 v n xs ∧ Below w.heap.size w w' := by
  obtain ⟨i0, hi, hz0, hz1, hz2⟩ := info_parts infoNd
  have q1 : ∀ (w : World) (a : Option Addr) (n c n' c' : Nat), (binOp .eql 23 (.slice a n c) (.slice none n' c')).run Try.prog w = .ok (.bool a.isNone) w := fun w a n c n' c' => Lib.run_eql_slice_nil w _ _ a n c n' c' Try.underlying23
  have u1 : ∀ w, Sem.run Try.prog (underlying 23) w = .ok (TypeDesc.slice 25) w := run_underlying Try.underlying23
  cases a with
  | none =>
    obtain rfl : n = 0 := h0 rfl
    obtain rfl : xs = [] := List.eq_nil_of_length_eq_zero (by omega)
    have HF : Hid (w.ownsRow w.heap.size 25 4 (.slice none 0 0) 0 [] ∧ Below w.heap.size w w) := ⟨World.ownsRow_nil _ _ _ _, Below.refl _ _⟩
    clear hc h0 h1 hx
    go_enter Try.func64, Try.ntmps64
    go_wp2
    go_ret
    exact ⟨_, rfl, HF.out⟩
  | some ad =>
    have HC := Lib.hid (hc ad rfl)
    have HL2 := Lib.hid hx; have H1 := Lib.hid h1
    clear hc hx h1 h0
    go_enter Try.func64, Try.ntmps64
    go_wp2_with (at_builtin; refine wpList_append_own _ rfl _ _ 23 rfl w.heap.size 25 i0 (.agg #[.int .i64 0, .int .i64 0, .string ⟨#[]⟩, .slice none 0 0]) 4 56 Try.underlying23 hi hz0 hz1 hz2 rfl (by decide) _ _ _ rfl (own_empty w 25 4) ad n cap xs rfl ?qc1 ?qc2 ?qc3 ?qc4 ?qc5 ?qc6 ?_)
    case qc1 => exact HL2.out
    case qc2 =>
      intro j u hj
      exact Lib.cell?_alloc_some _ (HC.out j u hj)
    case qc3 => exact H1.out
    case qc4 => unfold maxLen; omega
    case qc5 => omega
    case qc6 => simp
    intro v' w1 hown hgrow _
    have hown' : w1.ownsRow w.heap.size 25 4 v' n xs := by simpa using hown
    have HF : Hid (w1.ownsRow w.heap.size 25 4 v' n xs ∧ Below w.heap.size w w1) := ⟨hown', ((Below.refl _ w).alloc (Nat.le_refl _) _).grown hgrow (by simp) (by intro k hk; simp [Value.ownBlock] at hk; omega)⟩
    obtain ⟨av, cv, rfl⟩ := own_slice hown'
    clear hown hown' hgrow
    go_wp2
    go_ret
    exact ⟨_, rfl, HF.out⟩

theorem addr_add (b off j : Nat) : (⟨b, off, none⟩ : Addr).add j = ⟨b, off + j, none⟩ := by
  by_cases h : j = 0 <;> simp [Addr.add, h]
theorem div_ex {k n c : Nat} (hc : 0 < c) (h : k < n * c) : ∃ a b, k = a * c + b ∧ b < c ∧ a < n := by
  refine ⟨k / c, k % c, ?_, Nat.mod_lt _ hc, ?_⟩
  · have := Nat.div_add_mod k c; rw [Nat.mul_comm] at this; omega
  · exact Nat.div_lt_of_lt_mul (by rw [Nat.mul_comm]; exact h)
/-- The kids of a node as a row of cells. -/
theorem KV.row {G : Nat → Prop} {w : World} {a : Option Addr} {n cap : Nat} {kids : List Nd} (h : KV G w a n cap kids) : ∃ us : List (Option Addr × Nat × Nat), us.length = kids.length ∧
    (∀ (k : Nat) (t : Nd) (u : Option Addr × Nat × Nat), kids[k]? = some t → us[k]? = some u → KV G w u.1 u.2.1 u.2.2 t.kids) ∧ ∀ ad, a = some ad → ∀ j u, (kcs kids us)[j]? = some u → w.cell? (ad.add j) = some u := by
  cases h with
  | nil h1 h2 => exact ⟨[], rfl, fun k t u h => by simp at h, fun ad _ j u h => by simp [kcs] at h⟩
  | @cons b off _ _ _ u un uc hn h0 hle hmx hb hG hc hk =>
    have hus : ∀ k, k < kids.length → ((List.range kids.length).map fun k => (u k, un k, uc k))[k]? = some (u k, un k, uc k) := fun k hk => by simp [List.getElem?_range hk]
    refine ⟨(List.range kids.length).map fun k => (u k, un k, uc k), by simp, fun k t v h1 h2 => ?_, fun ad had j v hj => ?_⟩
    · have hlt := (List.getElem?_eq_some_iff.1 h1).1
      rw [hus k hlt] at h2
      cases h2
      have he := (List.getElem?_eq_some_iff.1 h1).2
      rw [← he]
      exact hk k hlt
    · cases had
      have hlt : j < kids.length * 4 := by
        have := (List.getElem?_eq_some_iff.1 hj).1
        rwa [kcs_len _ _ (by simp)] at this
      obtain ⟨k, i, rfl, hi, hkl⟩ := div_ex (by omega) hlt
      obtain ⟨g0, g1, g2, g3⟩ := kcs_get kids _ k kids[k] _ (List.getElem?_eq_getElem hkl) (hus k hkl)
      obtain ⟨q0, q1, q2, q3⟩ := hc k hkl
      rw [addr_add, ← Nat.add_assoc]
      match i, hi with
      | 0, _ => rw [Nat.add_zero] at hj ⊢; rw [g0] at hj; cases hj; exact q0
      | 1, _ => rw [g1] at hj; cases hj; exact q1
      | 2, _ => rw [g2] at hj; cases hj; exact q2
      | 3, _ => rw [g3] at hj; cases hj; exact q3

end Go.Proofs.Ytfecajeenmnoeaa

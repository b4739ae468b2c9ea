/- SLi, with the texts that only it needs in front of it: SCn, SPa, SCl, SCc, STa, SFi, SGe, SEx, SameInts. It has no conditions. -/
import Derived.Test.YtgfhhpodcnohpaaDoorSKr
import Derived.OwnWalk
import Derived.Lib.SliceRun
import Derived.Test.YtgfhhpodcnohpaaDoorSLe
import Derived.Test.YtgfhhpodcnohpaaDoorRegH
import Derived.Deep.RegionLaw
import Derived.Test.YtgfhhpodcnohpaaDoorBase

/- The contracts of slices.Clone at integers and at nodes. Conditions: at most 100000 elements. -/
namespace Go.Proofs.YtgfhhpodcnohpaaDoor
open Go.RowKit Go.Shelf Go.Maps
set_option linter.unusedVariables false

theorem own_empty (w : World) (e : TypeId) (size : Nat) : (w.alloc (.cells #[] e)).ownsRow w.heap.size e size (.slice (some ⟨w.heap.size, 0, none⟩) 0 0) 0 [] :=
  ⟨by simp, .inr ⟨w.heap.size, 0, #[], rfl, Nat.le_refl _, World.alloc_heap_new w _, Nat.le_refl _, by unfold maxLen; omega, by simp, by simp⟩⟩

set_option maxRecDepth 100000 in
set_option maxHeartbeats 2000000 in
theorem cloneInt_any (a : Option Addr) (n cap : Nat) (xs : List Value) (w : World) (hn : n ≤ 100000) (hle : n ≤ cap) (hmx : cap ≤ 9223372036854775807) (hx : xs.length = n * 1) (h1 : ∀ u ∈ xs, u.oneCell' = true) (h0 : a = none → n = 0) (hc : ∀ ad, a = some ad → ∀ j u, xs[j]? = some u → w.cell? (ad.add j) = some u) :
    Calls Tryd.prog 98 #[.slice a n cap] w fun e w' => ∃ v, e = .returned v ∧ w'.ownsRow w.heap.size 3 1 v n xs ∧ Below w.heap.size w w' := by
  obtain ⟨i0, hi, hz0, hz1, hz2⟩ := info_parts info3
  have q1 : ∀ (w : World) (a : Option Addr) (n c n' c' : Nat), (binOp .eql 22 (.slice a n c) (.slice none n' c')).run Tryd.prog w = .ok (.bool a.isNone) w := fun w a n c n' c' => Lib.run_eql_slice_nil w _ _ a n c n' c' Tryd.underlying22
  have u1 : ∀ w, Sem.run Tryd.prog (underlying 22) w = .ok (TypeDesc.slice 3) w := run_underlying Tryd.underlying22
  cases a with
  | none =>
    obtain rfl : n = 0 := h0 rfl
    obtain rfl : xs = [] := List.eq_nil_of_length_eq_zero (by omega)
    have HF : Hid (w.ownsRow w.heap.size 3 1 (.slice none 0 0) 0 [] ∧ Below w.heap.size w w) := ⟨World.ownsRow_nil _ _ _ _, Below.refl _ _⟩
    clear hc h0 h1 hx
    go_enter Tryd.func98, Tryd.ntmps98
    go_wp2
    go_ret
    exact ⟨_, rfl, HF.out⟩
  | some ad =>
    have HC := Lib.hid (hc ad rfl)
    have HL2 := Lib.hid hx; have H1 := Lib.hid h1
    clear hc hx h1 h0
    go_enter Tryd.func98, Tryd.ntmps98
    go_wp2_with (at_builtin; refine wpList_append_own _ rfl _ _ 22 rfl w.heap.size 3 i0 (.int .i64 0) 1 8 Tryd.underlying22 hi hz0 hz1 hz2 rfl (by decide) _ _ _ rfl (own_empty w 3 1) ad n cap xs rfl ?qc1 ?qc2 ?qc3 ?qc4 ?qc5 ?qc6 ?_)
    case qc1 => exact HL2.out
    case qc2 =>
      intro j u hj
      exact Lib.cell?_alloc_some _ (HC.out j u hj)
    case qc3 => exact H1.out
    case qc4 => unfold maxLen; omega
    case qc5 => omega
    case qc6 => simp
    intro v' w1 hown hgrow _
    have hown' : w1.ownsRow w.heap.size 3 1 v' n xs := by simpa using hown
    have HF : Hid (w1.ownsRow w.heap.size 3 1 v' n xs ∧ Below w.heap.size w w1) := ⟨hown', ((Below.refl _ w).alloc (Nat.le_refl _) _).grown hgrow (by simp) (by intro k hk; simp [Value.ownBlock] at hk; omega)⟩
    obtain ⟨av, cv, rfl⟩ := own_slice hown'
    clear hown hown' hgrow
    go_wp2
    go_ret
    exact ⟨_, rfl, HF.out⟩

set_option maxRecDepth 100000 in
set_option maxHeartbeats 2000000 in
theorem cloneNode_any (a : Option Addr) (n cap : Nat) (xs : List Value) (w : World) (hn : n ≤ 100000) (hle : n ≤ cap) (hmx : cap ≤ 9223372036854775807) (hx : xs.length = n * 4) (h1 : ∀ u ∈ xs, u.oneCell' = true) (h0 : a = none → n = 0) (hc : ∀ ad, a = some ad → ∀ j u, xs[j]? = some u → w.cell? (ad.add j) = some u) :
    Calls Tryd.prog 119 #[.slice a n cap] w fun e w' => ∃ v, e = .returned v ∧ w'.ownsRow w.heap.size 60 4 v n xs ∧ Below w.heap.size w w' := by
  obtain ⟨i0, hi, hz0, hz1, hz2⟩ := info_parts infoNd
  have q1 : ∀ (w : World) (a : Option Addr) (n c n' c' : Nat), (binOp .eql 58 (.slice a n c) (.slice none n' c')).run Tryd.prog w = .ok (.bool a.isNone) w := fun w a n c n' c' => Lib.run_eql_slice_nil w _ _ a n c n' c' Tryd.underlying58
  have u1 : ∀ w, Sem.run Tryd.prog (underlying 58) w = .ok (TypeDesc.slice 60) w := run_underlying Tryd.underlying58
  cases a with
  | none =>
    obtain rfl : n = 0 := h0 rfl
    obtain rfl : xs = [] := List.eq_nil_of_length_eq_zero (by omega)
    have HF : Hid (w.ownsRow w.heap.size 60 4 (.slice none 0 0) 0 [] ∧ Below w.heap.size w w) := ⟨World.ownsRow_nil _ _ _ _, Below.refl _ _⟩
    clear hc h0 h1 hx
    go_enter Tryd.func119, Tryd.ntmps119
    go_wp2
    go_ret
    exact ⟨_, rfl, HF.out⟩
  | some ad =>
    have HC := Lib.hid (hc ad rfl)
    have HL2 := Lib.hid hx; have H1 := Lib.hid h1
    clear hc hx h1 h0
    go_enter Tryd.func119, Tryd.ntmps119
    go_wp2_with (at_builtin; refine wpList_append_own _ rfl _ _ 58 rfl w.heap.size 60 i0 (.agg #[.int .i64 0, .int .i64 0, .string ⟨#[]⟩, .slice none 0 0]) 4 56 Tryd.underlying58 hi hz0 hz1 hz2 rfl (by decide) _ _ _ rfl (own_empty w 60 4) ad n cap xs rfl ?qc1 ?qc2 ?qc3 ?qc4 ?qc5 ?qc6 ?_)
    case qc1 => exact HL2.out
    case qc2 =>
      intro j u hj
      exact Lib.cell?_alloc_some _ (HC.out j u hj)
    case qc3 => exact H1.out
    case qc4 => unfold maxLen; omega
    case qc5 => omega
    case qc6 => simp
    intro v' w1 hown hgrow _
    have hown' : w1.ownsRow w.heap.size 60 4 v' n xs := by simpa using hown
    have HF : Hid (w1.ownsRow w.heap.size 60 4 v' n xs ∧ Below w.heap.size w w1) := ⟨hown', ((Below.refl _ w).alloc (Nat.le_refl _) _).grown hgrow (by simp) (by intro k hk; simp [Value.ownBlock] at hk; omega)⟩
    obtain ⟨av, cv, rfl⟩ := own_slice hown'
    clear hown hown' hgrow
    go_wp2
    go_ret
    exact ⟨_, rfl, HF.out⟩

theorem addr_add (b off j : Nat) : (⟨b, off, none⟩ : Addr).add j = ⟨b, off + j, none⟩ := by
  by_cases h : j = 0 <;> simp [Addr.add, h]
theorem div_ex {k n c : Nat} (hc : 0 < c) (h : k < n * c) : ∃ a b, k = a * c + b ∧ b < c ∧ a < n := by
  refine ⟨k / c, k % c, ?_, Nat.mod_lt _ hc, ?_⟩
  · have := Nat.div_add_mod k c; rw [Nat.mul_comm] at this; omega
  · exact Nat.div_lt_of_lt_mul (by rw [Nat.mul_comm]; exact h)
/-- The kids of a node as a row of cells. -/
theorem KV.row {G : Nat → Prop} {w : World} {a : Option Addr} {n cap : Nat} {kids : List Nd} (h : KV G w a n cap kids) : ∃ us : List (Option Addr × Nat × Nat), us.length = kids.length ∧
    (∀ (k : Nat) (t : Nd) (u : Option Addr × Nat × Nat), kids[k]? = some t → us[k]? = some u → KV G w u.1 u.2.1 u.2.2 t.kids) ∧ ∀ ad, a = some ad → ∀ j u, (kcs kids us)[j]? = some u → w.cell? (ad.add j) = some u := by
  cases h with
  | nil h1 h2 => exact ⟨[], rfl, fun k t u h => by simp at h, fun ad _ j u h => by simp [kcs] at h⟩
  | @cons b off _ _ _ u un uc hn h0 hle hmx hb hG hc hk =>
    have hus : ∀ k, k < kids.length → ((List.range kids.length).map fun k => (u k, un k, uc k))[k]? = some (u k, un k, uc k) := fun k hk => by simp [List.getElem?_range hk]
    refine ⟨(List.range kids.length).map fun k => (u k, un k, uc k), by simp, fun k t v h1 h2 => ?_, fun ad had j v hj => ?_⟩
    · have hlt := (List.getElem?_eq_some_iff.1 h1).1
      rw [hus k hlt] at h2
      cases h2
      have he := (List.getElem?_eq_some_iff.1 h1).2
      rw [← he]
      exact hk k hlt
    · cases had
      have hlt : j < kids.length * 4 := by
        have := (List.getElem?_eq_some_iff.1 hj).1
        rwa [kcs_len _ _ (by simp)] at this
      obtain ⟨k, i, rfl, hi, hkl⟩ := div_ex (by omega) hlt
      obtain ⟨g0, g1, g2, g3⟩ := kcs_get kids _ k kids[k] _ (List.getElem?_eq_getElem hkl) (hus k hkl)
      obtain ⟨q0, q1, q2, q3⟩ := hc k hkl
      rw [addr_add, ← Nat.add_assoc]
      match i, hi with
      | 0, _ => rw [Nat.add_zero] at hj ⊢; rw [g0] at hj; cases hj; exact q0
      | 1, _ => rw [g1] at hj; cases hj; exact q1
      | 2, _ => rw [g2] at hj; cases hj; exact q2
      | 3, _ => rw [g3] at hj; cases hj; exact q3

end Go.Proofs.YtgfhhpodcnohpaaDoor

/- The program's Path. Conditions: trees of at most 100000 nodes and 1000000000 bytes. -/
namespace Go.Proofs.YtgfhhpodcnohpaaDoor
open Go.RowKit Go.Shelf
set_option linter.unusedVariables false
attribute [local go_sem] Oper.semAt_some

/-- The leaf at a place holds the byte at the offset. -/
def Hit (o : Int) (s : Spot) : Prop := (s.off : Int) ≤ o ∧ o < (s.off : Int) + (s.nd.text.size : Int)
/-- What Path hands back. -/
def PathP (t : Nd) (o : Int) (w : World) (e : Ending) (w' : World) : Prop := Below w.heap.size w w' ∧
  ((∃ (k : Nat) (s : Spot) (v : Value), (lspots t)[k]? = some s ∧ (∀ j s', j < k → (lspots t)[j]? = some s' → ¬ Hit o s') ∧ Hit o s ∧ e = .returned (.tuple #[v, .bool true]) ∧ w'.ownsRow w.heap.size 3 1 v s.path.length (ints s.path)) ∨
   ((∀ s ∈ lspots t, ¬ Hit o s) ∧ e = .returned (.tuple #[.slice none 0 0, .bool false])))
mutual
theorem path_len : ∀ (t : Nd) (p : List Nat) (o : Nat), ∀ s ∈ spots t p o, s.path.length + s.nd.dep ≤ p.length + t.dep
  | .mk i k x ks, p, o, s, hs => by
    rw [spots] at hs
    rcases List.mem_cons.1 hs with rfl | hs
    · exact Nat.le_refl _
    · have := path_lenL ks p 0 _ s hs
      rw [Nd.dep]; omega
theorem path_lenL : ∀ (l : List Nd) (p : List Nat) (i o : Nat), ∀ s ∈ spotsL l p i o, s.path.length + s.nd.dep ≤ p.length + 1 + deps l
  | [], p, i, o, s, hs => by simp [spotsL] at hs
  | x :: l, p, i, o, s, hs => by
    rw [spotsL] at hs
    rcases List.mem_append.1 hs with hs | hs
    · have := path_len x (p ++ [i]) o s hs
      rw [List.length_append, List.length_singleton] at this
      rw [deps]; omega
    · have := path_lenL l p (i + 1) _ s hs
      rw [deps]; omega
end
mutual
theorem off_in : ∀ (t : Nd) (p : List Nat) (o : Nat), ∀ s ∈ spots t p o, o ≤ s.off ∧ s.off + s.nd.pw ≤ o + t.pw
  | .mk i k x ks, p, o, s, hs => by
    rw [spots] at hs
    rcases List.mem_cons.1 hs with rfl | hs
    · exact ⟨Nat.le_refl _, Nat.le_refl _⟩
    · have := off_inL ks p 0 _ s hs
      rw [Nd.pw]; omega
theorem off_inL : ∀ (l : List Nd) (p : List Nat) (i o : Nat), ∀ s ∈ spotsL l p i o, o ≤ s.off ∧ s.off + s.nd.pw ≤ o + pws l
  | [], p, i, o, s, hs => by simp [spotsL] at hs
  | x :: l, p, i, o, s, hs => by
    rw [spotsL] at hs
    rcases List.mem_append.1 hs with hs | hs
    · have := off_in x (p ++ [i]) o s hs
      rw [pws]; omega
    · have := off_inL l p (i + 1) _ s hs
      rw [pws]; omega
end
theorem off_leaf {t : Nd} {s : Spot} (h : s ∈ lspots t) : s.off + s.nd.text.size ≤ t.pw ∧ s.path.length ≤ t.dep := by
  obtain ⟨h1, h2⟩ := lspots_leaf h
  have h3 := off_in t [] 0 s h2
  have h4 := path_len t [] 0 s h2
  have h5 := s.nd.pw_eq
  rw [if_pos h1] at h5
  simp at h4
  omega

theorem boxed_on {w w' : World} {b : Nat} {t : TypeId} {v : Value} (h : Boxed w b t v) (hb : Below w.heap.size w w') : Boxed w' b t v := (hb.block b h.lt).trans h
/-- What the loop hands back where it has found the leaf. -/
def PaS (t : Nd) (o : Int) (q : Nat) (W2 : World) (T : Nat → Prop) (A : World) : Prop :=
  ∃ (k : Nat) (s : Spot) (v : Value), (lspots t)[k]? = some s ∧ (∀ j s', j < k → (lspots t)[j]? = some s' → ¬ Hit o s') ∧ Hit o s ∧ (∀ j, T j ↔ (j = q + 2 ∨ j = q + 3 ∨ v.ownBlock = some j)) ∧ Boxed A (q + 2) 22 v ∧ Boxed A (q + 3) 4 (.bool true) ∧ A.ownsRow (q + 5) 3 1 v s.path.length (ints s.path) ∧ Below (q + 2) W2 A ∧ q + 5 ≤ A.heap.size
theorem path_found {t : Nd} {o : Int} {q k : Nat} {W2 A w5 : World} {T : Nat → Prop} {s : Spot} {v : Value} (g1 : ∀ j, T j ↔ (j = q + 2 ∨ j = q + 3)) (g2 : ∀ j s', j < k → (lspots t)[j]? = some s' → ¬ Hit o s') (g3 : Boxed A (q + 2) 22 (.slice none 0 0)) (g4 : Boxed A (q + 3) 4 (.bool false)) (g5 : Below (q + 2) W2 A) (g6 : q + 5 ≤ A.heap.size)
    (hs : (lspots t)[k]? = some s) (hh : Hit o s) (hown : w5.ownsRow A.drew.heap.size 3 1 v s.path.length (ints s.path)) (b5 : Below A.drew.heap.size A.drew w5) :
    ∃ T', PaS t o q W2 T' ((w5.setCell ⟨q + 2, 0, none⟩ v).setCell ⟨q + 3, 0, none⟩ (.bool true)) ∧ Rnd T T' A ((w5.setCell ⟨q + 2, 0, none⟩ v).setCell ⟨q + 3, 0, none⟩ (.bool true)) := by
  have hz : A.heap.size ≤ w5.heap.size := b5.size
  have hb5 : Below A.heap.size A w5 := (Below.refl _ A).drew.trans b5
  have hol := hown.lt
  have hb : ∀ b, b ≠ q + 2 → b ≠ q + 3 → ((w5.setCell ⟨q + 2, 0, none⟩ v).setCell ⟨q + 3, 0, none⟩ (.bool true)).heap[b]? = w5.heap[b]? := fun b h1 h2 => (Below.heap_setCell _ ⟨q + 3, 0, none⟩ _ b h2).trans (Below.heap_setCell _ ⟨q + 2, 0, none⟩ _ b h1)
  have hs5 : ((w5.setCell ⟨q + 2, 0, none⟩ v).setCell ⟨q + 3, 0, none⟩ (.bool true)).heap.size = w5.heap.size := by simp [World.setCell]
  have e2 : Boxed w5 (q + 2) 22 (.slice none 0 0) := boxed_on g3 hb5
  have e3 : Boxed w5 (q + 3) 4 (.bool false) := boxed_on g4 hb5
  refine ⟨fun j => j = q + 2 ∨ j = q + 3 ∨ v.ownBlock = some j, ⟨k, s, v, hs, g2, hh, fun j => Iff.rfl, ?_, ?_, own_same (own_base2 hown (show q + 5 ≤ A.heap.size from g6)) (fun g hg => hb g (by have := (hol g hg).1; have : A.heap.size ≤ g := this; omega) (by have := (hol g hg).1; have : A.heap.size ≤ g := this; omega)), ?_, by rw [hs5]; omega⟩, by rw [hs5]; omega, fun j hj hT => ?_, fun j hj => ?_⟩
  · exact (Below.heap_setCell _ ⟨q + 3, 0, none⟩ _ (q + 2) (by show q + 2 ≠ q + 3; omega)).trans (e2.set _)
  · have : Boxed (w5.setCell ⟨q + 2, 0, none⟩ v) (q + 3) 4 (.bool false) := (Below.heap_setCell _ ⟨q + 2, 0, none⟩ _ (q + 3) (by show q + 3 ≠ q + 2; omega)).trans e3
    exact this.set _
  · exact ((g5.trans (hb5.mono (by omega))).setCell (p := ⟨q + 2, 0, none⟩) (by show q + 2 ≤ q + 2; omega) _).setCell (p := ⟨q + 3, 0, none⟩) (by show q + 2 ≤ q + 3; omega) _
  · exact (hb j (fun e => hT ((g1 j).2 (.inl e))) (fun e => hT ((g1 j).2 (.inr e)))).trans (hb5.block j hj)
  · rcases hj with h | h | h
    · exact .inl ((g1 j).2 (.inl h))
    · exact .inl ((g1 j).2 (.inr h))
    · exact .inr (hol j h).1

set_option maxRecDepth 100000 in
set_option maxHeartbeats 4000000 in
theorem ppath_any (t : Nd) (a : Option Addr) (n cap : Nat) (o : Int) (w : World) (G : Nat → Prop) (hK : KV G w a n cap t.kids) (hc : t.cnt ≤ 100000) (hw : t.pw ≤ 1000000000) (ho : -9223372036854775808 ≤ o ∧ o ≤ 9223372036854775807) :
    Calls Tryd.prog 70 #[ndv t a n cap, .int .i64 o] w (PathP t o w) := by
  obtain ⟨W1, hW1⟩ : ∃ W, w.alloc (.cells (ndc t a n cap) 60) = W := ⟨_, rfl⟩
  have b1 : Below w.heap.size w W1 := by rw [← hW1]; exact (Below.refl _ _).alloc (Nat.le_refl _) _
  have k1 : Blk W1 w.heap.size 60 (ndc t a n cap) := by rw [← hW1]; exact Blk.new _ _ _
  have hs1 : W1.heap.size = w.heap.size + 1 := by rw [← hW1]; simp
  obtain ⟨ad, had, hSH, hSI⟩ := root_ad hK b1 k1
  obtain ⟨q, hq⟩ : ∃ q, w.heap.size = q := ⟨_, rfl⟩
  rw [hq] at had hs1 b1
  obtain ⟨W2, hW2⟩ : ∃ W2, (((W1.alloc (.cells #[.int .i64 o] 3)).alloc (.cells #[.slice none 0 0] 22)).alloc (.cells #[.bool false] 4)).alloc (.cells #[.pointer (some ⟨q, 0, none⟩)] 107) = W2 := ⟨_, rfl⟩
  have b2 : Below (q + 1) W1 W2 := by rw [← hW2]; exact ((((Below.refl _ _).alloc (by omega) _).alloc (by simp; omega) _).alloc (by simp; omega) _).alloc (by simp; omega) _
  have hs2 : W2.heap.size = q + 5 := by rw [← hW2]; simp; omega
  have e1 : Boxed W2 (q + 1) 3 (.int .i64 o) := by rw [← hW2, ← hs1]; exact (((Boxed.new W1 _ _).alloc _).alloc _).alloc _
  have e3 : Boxed W2 (q + 2) 22 (.slice none 0 0) := by
    have := Boxed.new (W1.alloc (.cells #[.int .i64 o] 3)) 22 (.slice none 0 0)
    rw [World.size_alloc, hs1] at this
    rw [← hW2]; exact (this.alloc _).alloc _
  have e4 : Boxed W2 (q + 3) 4 (.bool false) := by
    have := Boxed.new ((W1.alloc (.cells #[.int .i64 o] 3)).alloc (.cells #[.slice none 0 0] 22)) 4 (.bool false)
    rw [World.size_alloc, World.size_alloc, hs1] at this
    rw [← hW2]; exact this.alloc _
  have e2 : Boxed W2 (q + 4) 107 (.pointer (some ⟨(ad []).1, (ad []).2, none⟩)) := by
    have := Boxed.new (((W1.alloc (.cells #[.int .i64 o] 3)).alloc (.cells #[.slice none 0 0] 22)).alloc (.cells #[.bool false] 4)) 107 (.pointer (some ⟨q, 0, none⟩))
    rw [World.size_alloc, World.size_alloc, World.size_alloc, hs1] at this
    rw [← hW2, had]; exact this
  have HG := Lib.hid (leaves_giw ad t (q + 4) W2 e2 hc hw)
  have HSH := Lib.hid hSH; have HQ := Lib.hid hq; have HB1 := Lib.hid b1; have HB2 := Lib.hid b2; have HS1 := Lib.hid hs1; have HS2 := Lib.hid hs2; have HE1 := Lib.hid e1; have HE3 := Lib.hid e3; have HE4 := Lib.hid e4; have HC := Lib.hid hc; have HP := Lib.hid hw
  have hmx : Tryd.prog.follows .mixedOrders = true := by kernel_rfl
  obtain ⟨id, hid⟩ : ∃ x, t.id = x := ⟨_, rfl⟩
  obtain ⟨kd, hkd⟩ : ∃ x, t.kind = x := ⟨_, rfl⟩
  obtain ⟨tx, htx⟩ : ∃ x, t.text = x := ⟨_, rfl⟩
  unfold ndv ndc at *
  rw [hid, hkd, htx] at hW1 ⊢
  have HW1 := Lib.hid hW1; have HW2 := Lib.hid hW2
  clear hK hc hw hW1 b1 k1 hs1 had hSH hSI hq hW2 b2 hs2 e1 e2 e3 e4 hid hkd htx
  refine (callsIn_wide (n := 0)).1 ?_
  refine callsIn_of_wp_marks Tryd.func70 rfl trivial ?_ rfl
  simp only [Tryd.ntmps70, List.size_toArray, List.length_cons, List.length_nil, Nat.reduceAdd, Nat.reduceSub, Array.replicate_succ, Array.replicate_zero, List.push_toArray, List.append_toArray, List.nil_append, List.cons_append]
  gi_wp2_with (first | (refine ⟨trivial, rfl, ?_⟩; gi_at_call 68; refine (callsIn_wide.2 (leaves_any _ _)).mono ?_; rintro e w' ⟨rfl, rfl⟩))
  rw [HW1.out, HQ.out, HW2.out]
  refine wpIn_giw (gf := 95) (lb := #[.pointer (some ⟨q + 1 + 1 + 1 + 1, 0, none⟩)]) rfl (enters_of Tryd.func95 (by kernel_rfl) rfl) HG.out rfl
    (fun k T A => (∀ j, T j ↔ (j = q + 2 ∨ j = q + 3)) ∧ (∀ j s', j < k → (lspots t)[j]? = some s' → ¬ Hit o s') ∧ Boxed A (q + 2) 22 (.slice none 0 0) ∧ Boxed A (q + 3) 4 (.bool false) ∧ Below (q + 2) W2 A ∧ q + 5 ≤ A.heap.size)
    (fun T A => PaS t o q W2 T A)
    ?hI ?hSt ?hS ?hSh (fun j => j = q + 2 ∨ j = q + 3) ?hT ?h0 ?hround ?hdone ?hret
  case hI =>
    rintro k T A C ⟨h1, h2, h3, h4, h5, h6⟩ ho
    rw [HS2.out] at ho
    exact ⟨h1, h2, (ho.block _ h3.lt (.inl (by omega))).trans h3, (ho.block _ h4.lt (.inl (by omega))).trans h4, h5.trans (ho.below (by omega) (by omega)), by have := ho.size; omega⟩
  case hSt =>
    rintro T A C ⟨k, s, v, h0, h1, h2, hT, h3, h4, h7, h5, h6⟩ ho
    rw [HS2.out] at ho
    exact ⟨k, s, v, h0, h1, h2, hT, (ho.block _ h3.lt (.inl (by omega))).trans h3, (ho.block _ h4.lt (.inl (by omega))).trans h4, own_same h7 (fun g hg => ho.block g (h7.lt g hg).2 (.inr ((hT g).2 (.inr (.inr hg))))), h5.trans (ho.below (by omega) (by omega)), by have := ho.size; omega⟩
  case hS =>
    rintro k T A ⟨h1, h2, h3, h4, h5, h6⟩ j hj
    have := (h1 j).1 hj; omega
  case hSh =>
    rintro k T A ⟨h1, h2, h3, h4, h5, h6⟩
    exact HSH.out.on (by rw [HS1.out]; exact HB2.out.trans (h5.mono (by omega)))
  case hT => intro k hk; rw [HS2.out]; omega
  case h0 => exact ⟨fun j => Iff.rfl, fun j s' hj => by omega, HE3.out, HE4.out, Below.refl _ _, by rw [HS2.out]; omega⟩
  case hround =>
    rintro l' k hk T A pa pc hl hlA hlr hTl ⟨h1, h2, h3, h4, h5, h6⟩ hrow hnR
    rw [HS2.out] at hl
    obtain ⟨s, hs⟩ : ∃ s, (lspots t)[k] = s := ⟨_, rfl⟩
    have hsk : (lspots t)[k]? = some s := by rw [← hs]; exact List.getElem?_eq_getElem hk
    have hsm := lspots_leaf (show s ∈ lspots t by rw [← hs]; exact List.getElem_mem hk)
    have hof := off_leaf (show s ∈ lspots t by rw [← hs]; exact List.getElem_mem hk)
    have hpw := HP.out
    have hpl : s.path.length ≤ 100000 := by have := Nd.dep_cnt t; have := HC.out; omega
    rw [hs] at hrow hnR ⊢
    refine ⟨?a1, ?W3, ?hb, ?asg, ?bo⟩
    case asg =>
      intro K hK
      gi_wp2
      exact hK
    case hb => exact (Below.refl _ _).alloc (Nat.le_refl _) _
    case bo =>
      intro A3 hA3 hsame hl3 hI3
      obtain ⟨g1, g2, g3, g4, g5, g6⟩ := hI3
      have hrow3 : A3.ownsRow (q + 5) 3 1 (.slice pa s.path.length pc) s.path.length (ints s.path) := by
        rw [HS2.out] at hrow
        refine own_base2 (own_same hrow (fun g hg => ?_)) (by omega)
        have hg2 := (hrow.lt g hg).2
        exact (hsame g (own_row_ne hrow hlr hg)).trans (((Below.refl _ A).alloc (Nat.le_refl _) _).block g hg2)
      have hS3 : SH A3 ad t [] := HSH.out.on (by rw [HS1.out]; exact HB2.out.trans (g5.mono (by omega)))
      have hS4 := SH.spot t.dep t [] 0 (Nat.le_refl _) hS3 s hsm.2
      have d1 := hS4.txt
      obtain ⟨b, hb⟩ : ∃ b, (ad s.path).1 = b := ⟨_, rfl⟩
      obtain ⟨f, hf⟩ : ∃ b, (ad s.path).2 = b := ⟨_, rfl⟩
      obtain ⟨x, hx⟩ : ∃ x, s.nd.text = x := ⟨_, rfl⟩
      obtain ⟨z, hz⟩ : ∃ z, s.off = z := ⟨_, rfl⟩
      obtain ⟨pn, hpn⟩ : ∃ z, s.path.length = z := ⟨_, rfl⟩
      have hBk : Blk A3 A.heap.size 109 #[.pointer (some ⟨b, f, none⟩), .slice pa pn pc, .int .i64 (z : Int)] := by
        rw [← hb, ← hf, ← hz, ← hpn]
        exact (hsame A.heap.size (by omega)).trans (Blk.new A _ _)
      have p0 := hBk.cell 0
      have p1 := hBk.cell 1
      have p2 := hBk.cell 2
      have eo : Boxed A3 (q + 1) 3 (.int .i64 o) := (g5.block (q + 1) (by omega)).trans HE1.out
      have c1 := eo.cell
      simp only [List.getElem?_toArray, List.getElem?_cons_zero, List.getElem?_cons_succ] at p0 p1 p2
      rw [hb, hf, hx] at d1
      rw [hb, hf, hz, hpn]
      rw [hz, hx] at hof
      have hzx : z + x.size ≤ 1000000000 := by omega
      have m1 : IntKind.i64.wrap ((z : Int) + (x.size : Int)) = (z : Int) + (x.size : Int) := by simp [IntKind.wrap, IntKind.signed, IntKind.bits]; omega
      have HNEXT : Hid (¬ Hit o s → ∃ T', ((∀ j, T' j ↔ (j = q + 2 ∨ j = q + 3)) ∧ (∀ j s', j < k + 1 → (lspots t)[j]? = some s' → ¬ Hit o s') ∧ Boxed A3.drew (q + 2) 22 (.slice none 0 0) ∧ Boxed A3.drew (q + 3) 4 (.bool false) ∧ Below (q + 2) W2 A3.drew ∧ q + 5 ≤ A3.drew.heap.size) ∧ Rnd T T' A3 A3.drew) := fun hn =>
        ⟨T, ⟨g1, fun j s' hj hjs => by
          by_cases hjk : j = k
          · subst hjk; rw [hsk] at hjs; cases hjs; exact hn
          · exact g2 j s' (by omega) hjs, g3, g4, g5.drew, g6⟩, ⟨Nat.le_refl _, fun j hj hT => rfl, fun j hj => .inl hj⟩⟩
      have f2 := g3.frozen
      have f3 := g4.frozen
      have y2 := g3.cell
      have y3 := g4.cell
      have HALL := Lib.hid (And.intro g1 (And.intro g2 (And.intro g3 (And.intro g4 (And.intro g5 g6)))))
      have HROW := Lib.hid hrow3
      have HPN := Lib.hid hpn
      have hpl' : pn ≤ 100000 := by omega
      have HHIT : Hid (Hit o s ↔ ((z : Int) ≤ o ∧ o < (z : Int) + (x.size : Int))) := by unfold Hit; rw [hz, hx]; exact Iff.rfl
      have HSK := Lib.hid hsk
      clear g1 g2 g3 g4 g5 hsame hrow hnR h1 h2 h3 h4 h5 hlr hS3 hS4 hBk hsm hof hx hz hpn hs hb hf hrow3 hsk eo hA3
      by_cases i1 : (z : Int) ≤ o
      · have j1 : decide ((z : Int) ≤ o) = true := by simp; omega
        by_cases i2 : o < (z : Int) + (x.size : Int)
        · have hh := HHIT.out.2 ⟨i1, i2⟩
          have HCL : Hid (Calls Tryd.prog 98 #[.slice pa pn pc] A3.drew fun e w' => ∃ v, e = .returned v ∧ w'.ownsRow A3.drew.heap.size 3 1 v pn (ints s.path) ∧ Below A3.drew.heap.size A3.drew w') := by
            have hr : A3.drew.ownsRow (q + 5) 3 1 (.slice pa s.path.length pc) s.path.length (ints s.path) := own_same HROW.out (fun _ _ => rfl)
            rw [HPN.out] at hr
            have hle : pn ≤ pc ∧ pc ≤ 9223372036854775807 := by
              rcases hr.2 with ⟨e, e0⟩ | ⟨g, c, cur, e, _, _, e4, e5, _⟩
              · simp only [Value.slice.injEq] at e; omega
              · simp only [Value.slice.injEq] at e; unfold maxLen at e5; omega
            refine cloneInt_any pa pn pc (ints s.path) A3.drew hpl' hle.1 hle.2 (by rw [List.length_map, HPN.out]; omega) (fun u hu => ?_) (fun e => ?_) (fun ad e => ?_)
            · obtain ⟨y, _, rfl⟩ := List.mem_map.1 hu; rfl
            · rcases hr.2 with ⟨_, e0⟩ | ⟨g, c, cur, e', _⟩
              · exact e0
              · rw [e] at e'; cases e'
            · subst e
              rcases hr.2 with ⟨e', e0⟩ | ⟨g, c, cur, e', _⟩
              · cases e'
              · simp only [Value.slice.injEq, Option.some.injEq] at e'
                obtain ⟨rfl, _, _⟩ := e'
                exact row_cells hr
          have HH := Lib.hid hh
          clear hh
          gi_wp2
          refine region_round (S := (fun V : World => V.cell? ⟨A.heap.size, 0, none⟩ = some (.pointer (some ⟨b, f, none⟩)) ∧ V.cell? ⟨A.heap.size, 2, none⟩ = some (.int .i64 (z : Int)) ∧ V.cell? ⟨q + 1, 0, none⟩ = some (.int .i64 o) ∧ V.cell? ⟨b, f + 2, none⟩ = some (.string x))) (by kernel_rfl) (by kernel_rfl) (fun ⟨_, _, h⟩ => h) ⟨p0, p2, c1, d1⟩ (fun hS0 => ?_)
          refine takeH (i := 0) (d := (some 9)) (v := ?_) rfl rfl (by kernel_rfl) (by kernel_rfl) (by kernel_rfl) (fun _ _ _ h => h) (Or.inl ⟨by kernel_rfl, ?_⟩) hS0 ?_
          rotate_left
          focus (intro w hSw; (try dsimp only at hSw); go_simp; first | done | with_reducible rfl)
          try simp only [Act.put]
          try simp only [List.setIfInBounds_toArray]
          try simp only [List.set_cons_succ]
          try simp only [List.set_cons_zero]
          refine takeH (i := 1) (d := (some 10)) (v := ?_) rfl rfl (by kernel_rfl) (by kernel_rfl) (by kernel_rfl) (fun _ _ _ h => h) (Or.inl ⟨by kernel_rfl, ?_⟩) hS0 ?_
          rotate_left
          focus (intro w hSw; (try dsimp only at hSw); go_simp; first | done | with_reducible rfl)
          try simp only [Act.put]
          try simp only [List.setIfInBounds_toArray]
          try simp only [List.set_cons_succ]
          try simp only [List.set_cons_zero]
          refine takeH (i := 2) (d := (some 11)) (v := ?_) rfl rfl (by kernel_rfl) (by kernel_rfl) (by kernel_rfl) (fun _ _ _ h => h) (Or.inl ⟨by kernel_rfl, ?_⟩) hS0 ?_
          rotate_left
          focus (intro w hSw; (try dsimp only at hSw); go_simp; first | done | with_reducible rfl)
          try simp only [Act.put]
          try simp only [List.setIfInBounds_toArray]
          try simp only [List.set_cons_succ]
          try simp only [List.set_cons_zero]
          refine takeH (i := 3) (d := (some 12)) (v := ?_) rfl rfl (by kernel_rfl) (by kernel_rfl) (by kernel_rfl) (fun _ _ _ h => h) (Or.inl ⟨by kernel_rfl, ?_⟩) hS0 ?_
          rotate_left
          focus (intro w hSw; (try dsimp only at hSw); go_simp; first | done | with_reducible rfl)
          try simp only [Act.put]
          try simp only [List.setIfInBounds_toArray]
          try simp only [List.set_cons_succ]
          try simp only [List.set_cons_zero]
          refine takeH (i := 4) (d := (some 13)) (v := ?_) rfl rfl (by kernel_rfl) (by kernel_rfl) (by kernel_rfl) (fun _ _ _ h => h) (Or.inl ⟨by kernel_rfl, ?_⟩) hS0 ?_
          rotate_left
          focus (intro w hSw; (try dsimp only at hSw); go_simp; first | done | with_reducible rfl)
          try simp only [Act.put]
          try simp only [List.setIfInBounds_toArray]
          try simp only [List.set_cons_succ]
          try simp only [List.set_cons_zero]
          refine takeH (i := 5) (d := (some 14)) (v := ?_) rfl rfl (by kernel_rfl) (by kernel_rfl) (by kernel_rfl) (fun _ _ _ h => h) (Or.inl ⟨by kernel_rfl, ?_⟩) hS0 ?_
          rotate_left
          focus (intro w hSw; (try dsimp only at hSw); go_simp; first | done | with_reducible rfl)
          try simp only [Act.put]
          try simp only [List.setIfInBounds_toArray]
          try simp only [List.set_cons_succ]
          try simp only [List.set_cons_zero]
          refine takeH (i := 6) (d := (some 15)) (v := ?_) rfl rfl (by kernel_rfl) (by kernel_rfl) (by kernel_rfl) (fun _ _ _ h => h) (Or.inl ⟨by kernel_rfl, ?_⟩) hS0 ?_
          rotate_left
          focus (intro w hSw; (try dsimp only at hSw); go_simp; first | done | with_reducible rfl)
          try simp only [Act.put]
          try simp only [List.setIfInBounds_toArray]
          try simp only [List.set_cons_succ]
          try simp only [List.set_cons_zero]
          refine takeH (i := 7) (d := (some 16)) (v := ?_) rfl rfl (by kernel_rfl) (by kernel_rfl) (by kernel_rfl) (fun _ _ _ h => h) (Or.inl ⟨by kernel_rfl, ?_⟩) hS0 ?_
          rotate_left
          focus (intro w hSw; (try dsimp only at hSw); go_simp; first | done | with_reducible rfl)
          try simp only [Act.put]
          try simp only [List.setIfInBounds_toArray]
          try simp only [List.set_cons_succ]
          try simp only [List.set_cons_zero]
          refine takeH (i := 8) (d := (some 17)) (v := ?_) rfl rfl (by kernel_rfl) (by kernel_rfl) (by kernel_rfl) (fun _ _ _ h => h) (Or.inl ⟨by kernel_rfl, ?_⟩) hS0 ?_
          rotate_left
          focus (intro w hSw; (try dsimp only at hSw); go_simp; first | done | with_reducible rfl)
          try simp only [Act.put]
          try simp only [List.setIfInBounds_toArray]
          try simp only [List.set_cons_succ]
          try simp only [List.set_cons_zero]
          refine takeH (i := 9) (d := (some 18)) (v := ?_) rfl rfl (by kernel_rfl) (by kernel_rfl) (by kernel_rfl) (fun _ _ _ h => h) (Or.inl ⟨by kernel_rfl, ?_⟩) hS0 ?_
          rotate_left
          focus (intro w hSw; (try dsimp only at hSw); go_simp; first | done | with_reducible rfl)
          try simp only [Act.put]
          try simp only [List.setIfInBounds_toArray]
          try simp only [List.set_cons_succ]
          try simp only [List.set_cons_zero]
          refine takeH (i := 10) (d := (some 19)) (v := ?_) rfl rfl (by kernel_rfl) (by kernel_rfl) (by kernel_rfl) (fun _ _ _ h => h) (Or.inl ⟨by kernel_rfl, ?_⟩) hS0 ?_
          rotate_left
          focus (intro w hSw; (try dsimp only at hSw); go_simp; first | done | with_reducible rfl)
          try simp only [Act.put]
          try simp only [List.setIfInBounds_toArray]
          try simp only [List.set_cons_succ]
          try simp only [List.set_cons_zero]
          refine takeH (i := 11) (d := (some 20)) (v := ?_) rfl rfl (by kernel_rfl) (by kernel_rfl) (by kernel_rfl) (fun _ _ _ h => h) (Or.inl ⟨by kernel_rfl, ?_⟩) hS0 ?_
          rotate_left
          focus (intro w hSw; (try dsimp only at hSw); go_simp; first | done | with_reducible rfl)
          try simp only [Act.put]
          try simp only [List.setIfInBounds_toArray]
          try simp only [List.set_cons_succ]
          try simp only [List.set_cons_zero]
          refine takeH (i := 12) (d := (some 21)) (v := ?_) rfl rfl (by kernel_rfl) (by kernel_rfl) (by kernel_rfl) (fun _ _ _ h => h) (Or.inl ⟨by kernel_rfl, ?_⟩) hS0 ?_
          rotate_left
          focus (intro w hSw; (try dsimp only at hSw); go_simp; first | done | with_reducible rfl)
          try simp only [Act.put]
          try simp only [List.setIfInBounds_toArray]
          try simp only [List.set_cons_succ]
          try simp only [List.set_cons_zero]
          refine takeH (i := 13) (d := (some 22)) (v := ?_) rfl rfl (by kernel_rfl) (by kernel_rfl) (by kernel_rfl) (fun _ _ _ h => h) (Or.inl ⟨by kernel_rfl, ?_⟩) hS0 ?_
          rotate_left
          focus (intro w hSw; (try dsimp only at hSw); go_simp; first | done | with_reducible rfl)
          try simp only [Act.put]
          try simp only [List.setIfInBounds_toArray]
          try simp only [List.set_cons_succ]
          try simp only [List.set_cons_zero]
          refine takeH (i := 14) (d := (some 23)) (v := ?_) rfl rfl (by kernel_rfl) (by kernel_rfl) (by kernel_rfl) (fun _ _ _ h => h) (Or.inl ⟨by kernel_rfl, ?_⟩) hS0 ?_
          rotate_left
          focus (intro w hSw; (try dsimp only at hSw); go_simp; first | done | with_reducible rfl)
          try simp only [Act.put]
          try simp only [List.setIfInBounds_toArray]
          try simp only [List.set_cons_succ]
          try simp only [List.set_cons_zero]
          refine takeH (i := 15) (d := (some 24)) (v := ?_) rfl rfl (by kernel_rfl) (by kernel_rfl) (by kernel_rfl) (fun _ _ _ h => h) (Or.inl ⟨by kernel_rfl, ?_⟩) hS0 ?_
          rotate_left
          focus (intro w hSw; (try dsimp only at hSw); go_simp; first | done | with_reducible rfl)
          try simp only [Act.put]
          try simp only [List.setIfInBounds_toArray]
          try simp only [List.set_cons_succ]
          try simp only [List.set_cons_zero]
          refine takeH (i := 16) (d := (some 25)) (v := ?_) rfl rfl (by kernel_rfl) (by kernel_rfl) (by kernel_rfl) (fun _ _ _ h => h) (Or.inl ⟨by kernel_rfl, ?_⟩) hS0 ?_
          rotate_left
          focus (intro w hSw; (try dsimp only at hSw); go_simp; first | done | with_reducible rfl)
          try simp only [Act.put]
          try simp only [List.setIfInBounds_toArray]
          try simp only [List.set_cons_succ]
          try simp only [List.set_cons_zero]
          refine wpAnyH_done (by kernel_rfl) ?_ _
          gi_wp2_with (first | (refine ⟨trivial, rfl, ?_⟩; gi_at_call 98; refine (CallsIn.inRound l' (callsIn_wide.2 HCL.out)).mono ?_; rintro e w5 ⟨v5, rfl, hown5, b5⟩; have z5 := b5.size; obtain ⟨av5, cv5, rfl⟩ := own_slice hown5; have w2 : Boxed w5 (q + 2) 22 (.slice none 0 0) := boxed_on HALL.out.2.2.1 ((Below.refl _ A3).drew.trans b5); have w3 : Boxed w5 (q + 3) 4 (.bool false) := boxed_on HALL.out.2.2.2.1 ((Below.refl _ A3).drew.trans b5); have u2 := w2.cell; have u3 := w3.cell; have v2 := w2.frozen; have v3 := w3.frozen; clear w2 w3; have HOWN := Lib.hid hown5; have HB5 := Lib.hid b5; clear hown5 b5))
          exact path_found HALL.out.1 HALL.out.2.1 HALL.out.2.2.1 HALL.out.2.2.2.1 HALL.out.2.2.2.2.1 HALL.out.2.2.2.2.2 HSK.out HH.out (by rw [HPN.out]; exact HOWN.out) HB5.out
        · have hn := HNEXT.out (fun h => i2 (HHIT.out.1 h).2)
          have HN := Lib.hid hn
          clear hn
          gi_wp2
          refine region_round (S := (fun V : World => V.cell? ⟨A.heap.size, 0, none⟩ = some (.pointer (some ⟨b, f, none⟩)) ∧ V.cell? ⟨A.heap.size, 2, none⟩ = some (.int .i64 (z : Int)) ∧ V.cell? ⟨q + 1, 0, none⟩ = some (.int .i64 o) ∧ V.cell? ⟨b, f + 2, none⟩ = some (.string x))) (by kernel_rfl) (by kernel_rfl) (fun ⟨_, _, h⟩ => h) ⟨p0, p2, c1, d1⟩ (fun hS0 => ?_)
          refine takeH (i := 0) (d := (some 9)) (v := ?_) rfl rfl (by kernel_rfl) (by kernel_rfl) (by kernel_rfl) (fun _ _ _ h => h) (Or.inl ⟨by kernel_rfl, ?_⟩) hS0 ?_
          rotate_left
          focus (intro w hSw; (try dsimp only at hSw); go_simp; first | done | with_reducible rfl)
          try simp only [Act.put]
          try simp only [List.setIfInBounds_toArray]
          try simp only [List.set_cons_succ]
          try simp only [List.set_cons_zero]
          refine takeH (i := 1) (d := (some 10)) (v := ?_) rfl rfl (by kernel_rfl) (by kernel_rfl) (by kernel_rfl) (fun _ _ _ h => h) (Or.inl ⟨by kernel_rfl, ?_⟩) hS0 ?_
          rotate_left
          focus (intro w hSw; (try dsimp only at hSw); go_simp; first | done | with_reducible rfl)
          try simp only [Act.put]
          try simp only [List.setIfInBounds_toArray]
          try simp only [List.set_cons_succ]
          try simp only [List.set_cons_zero]
          refine takeH (i := 2) (d := (some 11)) (v := ?_) rfl rfl (by kernel_rfl) (by kernel_rfl) (by kernel_rfl) (fun _ _ _ h => h) (Or.inl ⟨by kernel_rfl, ?_⟩) hS0 ?_
          rotate_left
          focus (intro w hSw; (try dsimp only at hSw); go_simp; first | done | with_reducible rfl)
          try simp only [Act.put]
          try simp only [List.setIfInBounds_toArray]
          try simp only [List.set_cons_succ]
          try simp only [List.set_cons_zero]
          refine takeH (i := 3) (d := (some 12)) (v := ?_) rfl rfl (by kernel_rfl) (by kernel_rfl) (by kernel_rfl) (fun _ _ _ h => h) (Or.inl ⟨by kernel_rfl, ?_⟩) hS0 ?_
          rotate_left
          focus (intro w hSw; (try dsimp only at hSw); go_simp; first | done | with_reducible rfl)
          try simp only [Act.put]
          try simp only [List.setIfInBounds_toArray]
          try simp only [List.set_cons_succ]
          try simp only [List.set_cons_zero]
          refine takeH (i := 4) (d := (some 13)) (v := ?_) rfl rfl (by kernel_rfl) (by kernel_rfl) (by kernel_rfl) (fun _ _ _ h => h) (Or.inl ⟨by kernel_rfl, ?_⟩) hS0 ?_
          rotate_left
          focus (intro w hSw; (try dsimp only at hSw); go_simp; first | done | with_reducible rfl)
          try simp only [Act.put]
          try simp only [List.setIfInBounds_toArray]
          try simp only [List.set_cons_succ]
          try simp only [List.set_cons_zero]
          refine takeH (i := 5) (d := (some 14)) (v := ?_) rfl rfl (by kernel_rfl) (by kernel_rfl) (by kernel_rfl) (fun _ _ _ h => h) (Or.inl ⟨by kernel_rfl, ?_⟩) hS0 ?_
          rotate_left
          focus (intro w hSw; (try dsimp only at hSw); go_simp; first | done | with_reducible rfl)
          try simp only [Act.put]
          try simp only [List.setIfInBounds_toArray]
          try simp only [List.set_cons_succ]
          try simp only [List.set_cons_zero]
          refine takeH (i := 6) (d := (some 15)) (v := ?_) rfl rfl (by kernel_rfl) (by kernel_rfl) (by kernel_rfl) (fun _ _ _ h => h) (Or.inl ⟨by kernel_rfl, ?_⟩) hS0 ?_
          rotate_left
          focus (intro w hSw; (try dsimp only at hSw); go_simp; first | done | with_reducible rfl)
          try simp only [Act.put]
          try simp only [List.setIfInBounds_toArray]
          try simp only [List.set_cons_succ]
          try simp only [List.set_cons_zero]
          refine takeH (i := 7) (d := (some 16)) (v := ?_) rfl rfl (by kernel_rfl) (by kernel_rfl) (by kernel_rfl) (fun _ _ _ h => h) (Or.inl ⟨by kernel_rfl, ?_⟩) hS0 ?_
          rotate_left
          focus (intro w hSw; (try dsimp only at hSw); go_simp; first | done | with_reducible rfl)
          try simp only [Act.put]
          try simp only [List.setIfInBounds_toArray]
          try simp only [List.set_cons_succ]
          try simp only [List.set_cons_zero]
          refine takeH (i := 8) (d := (some 17)) (v := ?_) rfl rfl (by kernel_rfl) (by kernel_rfl) (by kernel_rfl) (fun _ _ _ h => h) (Or.inl ⟨by kernel_rfl, ?_⟩) hS0 ?_
          rotate_left
          focus (intro w hSw; (try dsimp only at hSw); go_simp; first | done | with_reducible rfl)
          try simp only [Act.put]
          try simp only [List.setIfInBounds_toArray]
          try simp only [List.set_cons_succ]
          try simp only [List.set_cons_zero]
          refine takeH (i := 9) (d := (some 18)) (v := ?_) rfl rfl (by kernel_rfl) (by kernel_rfl) (by kernel_rfl) (fun _ _ _ h => h) (Or.inl ⟨by kernel_rfl, ?_⟩) hS0 ?_
          rotate_left
          focus (intro w hSw; (try dsimp only at hSw); go_simp; first | done | with_reducible rfl)
          try simp only [Act.put]
          try simp only [List.setIfInBounds_toArray]
          try simp only [List.set_cons_succ]
          try simp only [List.set_cons_zero]
          refine takeH (i := 10) (d := (some 19)) (v := ?_) rfl rfl (by kernel_rfl) (by kernel_rfl) (by kernel_rfl) (fun _ _ _ h => h) (Or.inl ⟨by kernel_rfl, ?_⟩) hS0 ?_
          rotate_left
          focus (intro w hSw; (try dsimp only at hSw); go_simp; first | done | with_reducible rfl)
          try simp only [Act.put]
          try simp only [List.setIfInBounds_toArray]
          try simp only [List.set_cons_succ]
          try simp only [List.set_cons_zero]
          refine takeH (i := 11) (d := (some 20)) (v := ?_) rfl rfl (by kernel_rfl) (by kernel_rfl) (by kernel_rfl) (fun _ _ _ h => h) (Or.inl ⟨by kernel_rfl, ?_⟩) hS0 ?_
          rotate_left
          focus (intro w hSw; (try dsimp only at hSw); go_simp; first | done | with_reducible rfl)
          try simp only [Act.put]
          try simp only [List.setIfInBounds_toArray]
          try simp only [List.set_cons_succ]
          try simp only [List.set_cons_zero]
          refine takeH (i := 12) (d := (some 21)) (v := ?_) rfl rfl (by kernel_rfl) (by kernel_rfl) (by kernel_rfl) (fun _ _ _ h => h) (Or.inl ⟨by kernel_rfl, ?_⟩) hS0 ?_
          rotate_left
          focus (intro w hSw; (try dsimp only at hSw); go_simp; first | done | with_reducible rfl)
          try simp only [Act.put]
          try simp only [List.setIfInBounds_toArray]
          try simp only [List.set_cons_succ]
          try simp only [List.set_cons_zero]
          refine takeH (i := 13) (d := (some 22)) (v := ?_) rfl rfl (by kernel_rfl) (by kernel_rfl) (by kernel_rfl) (fun _ _ _ h => h) (Or.inl ⟨by kernel_rfl, ?_⟩) hS0 ?_
          rotate_left
          focus (intro w hSw; (try dsimp only at hSw); go_simp; first | done | with_reducible rfl)
          try simp only [Act.put]
          try simp only [List.setIfInBounds_toArray]
          try simp only [List.set_cons_succ]
          try simp only [List.set_cons_zero]
          refine takeH (i := 14) (d := (some 23)) (v := ?_) rfl rfl (by kernel_rfl) (by kernel_rfl) (by kernel_rfl) (fun _ _ _ h => h) (Or.inl ⟨by kernel_rfl, ?_⟩) hS0 ?_
          rotate_left
          focus (intro w hSw; (try dsimp only at hSw); go_simp; first | done | with_reducible rfl)
          try simp only [Act.put]
          try simp only [List.setIfInBounds_toArray]
          try simp only [List.set_cons_succ]
          try simp only [List.set_cons_zero]
          refine takeH (i := 15) (d := (some 24)) (v := ?_) rfl rfl (by kernel_rfl) (by kernel_rfl) (by kernel_rfl) (fun _ _ _ h => h) (Or.inl ⟨by kernel_rfl, ?_⟩) hS0 ?_
          rotate_left
          focus (intro w hSw; (try dsimp only at hSw); go_simp; first | done | with_reducible rfl)
          try simp only [Act.put]
          try simp only [List.setIfInBounds_toArray]
          try simp only [List.set_cons_succ]
          try simp only [List.set_cons_zero]
          refine takeH (i := 16) (d := (some 25)) (v := ?_) rfl rfl (by kernel_rfl) (by kernel_rfl) (by kernel_rfl) (fun _ _ _ h => h) (Or.inl ⟨by kernel_rfl, ?_⟩) hS0 ?_
          rotate_left
          focus (intro w hSw; (try dsimp only at hSw); go_simp; first | done | with_reducible rfl)
          try simp only [Act.put]
          try simp only [List.setIfInBounds_toArray]
          try simp only [List.set_cons_succ]
          try simp only [List.set_cons_zero]
          refine wpAnyH_done (by kernel_rfl) ?_ _
          gi_wp2
          exact HN.out
      · have j1 : decide ((z : Int) ≤ o) = false := by simp; omega
        have hn := HNEXT.out (fun h => i1 (HHIT.out.1 h).1)
        have HN := Lib.hid hn
        clear hn
        gi_wp2
        refine region_round (S := (fun V : World => V.cell? ⟨A.heap.size, 0, none⟩ = some (.pointer (some ⟨b, f, none⟩)) ∧ V.cell? ⟨A.heap.size, 2, none⟩ = some (.int .i64 (z : Int)) ∧ V.cell? ⟨q + 1, 0, none⟩ = some (.int .i64 o) ∧ V.cell? ⟨b, f + 2, none⟩ = some (.string x))) (by kernel_rfl) (by kernel_rfl) (fun ⟨_, _, h⟩ => h) ⟨p0, p2, c1, d1⟩ (fun hS0 => ?_)
        refine takeH (i := 0) (d := (some 9)) (v := ?_) rfl rfl (by kernel_rfl) (by kernel_rfl) (by kernel_rfl) (fun _ _ _ h => h) (Or.inl ⟨by kernel_rfl, ?_⟩) hS0 ?_
        rotate_left
        focus (intro w hSw; (try dsimp only at hSw); go_simp; first | done | with_reducible rfl)
        try simp only [Act.put]
        try simp only [List.setIfInBounds_toArray]
        try simp only [List.set_cons_succ]
        try simp only [List.set_cons_zero]
        refine takeH (i := 1) (d := (some 10)) (v := ?_) rfl rfl (by kernel_rfl) (by kernel_rfl) (by kernel_rfl) (fun _ _ _ h => h) (Or.inl ⟨by kernel_rfl, ?_⟩) hS0 ?_
        rotate_left
        focus (intro w hSw; (try dsimp only at hSw); go_simp; first | done | with_reducible rfl)
        try simp only [Act.put]
        try simp only [List.setIfInBounds_toArray]
        try simp only [List.set_cons_succ]
        try simp only [List.set_cons_zero]
        refine takeH (i := 2) (d := (some 11)) (v := ?_) rfl rfl (by kernel_rfl) (by kernel_rfl) (by kernel_rfl) (fun _ _ _ h => h) (Or.inl ⟨by kernel_rfl, ?_⟩) hS0 ?_
        rotate_left
        focus (intro w hSw; (try dsimp only at hSw); go_simp; first | done | with_reducible rfl)
        try simp only [Act.put]
        try simp only [List.setIfInBounds_toArray]
        try simp only [List.set_cons_succ]
        try simp only [List.set_cons_zero]
        refine takeH (i := 3) (d := (some 12)) (v := ?_) rfl rfl (by kernel_rfl) (by kernel_rfl) (by kernel_rfl) (fun _ _ _ h => h) (Or.inl ⟨by kernel_rfl, ?_⟩) hS0 ?_
        rotate_left
        focus (intro w hSw; (try dsimp only at hSw); go_simp; first | done | with_reducible rfl)
        try simp only [Act.put]
        try simp only [List.setIfInBounds_toArray]
        try simp only [List.set_cons_succ]
        try simp only [List.set_cons_zero]
        refine takeH (i := 4) (d := (some 13)) (v := ?_) rfl rfl (by kernel_rfl) (by kernel_rfl) (by kernel_rfl) (fun _ _ _ h => h) (Or.inl ⟨by kernel_rfl, ?_⟩) hS0 ?_
        rotate_left
        focus (intro w hSw; (try dsimp only at hSw); go_simp; first | done | with_reducible rfl)
        try simp only [Act.put]
        try simp only [List.setIfInBounds_toArray]
        try simp only [List.set_cons_succ]
        try simp only [List.set_cons_zero]
        refine takeH (i := 5) (d := (some 14)) (v := undef) rfl rfl (by kernel_rfl) (by kernel_rfl) (by kernel_rfl) (fun _ _ _ h => h) (Or.inr ⟨by kernel_rfl, rfl⟩) hS0 ?_
        try simp only [Act.put]
        try simp only [List.setIfInBounds_toArray]
        try simp only [List.set_cons_succ]
        try simp only [List.set_cons_zero]
        refine takeH (i := 6) (d := (some 15)) (v := undef) rfl rfl (by kernel_rfl) (by kernel_rfl) (by kernel_rfl) (fun _ _ _ h => h) (Or.inr ⟨by kernel_rfl, rfl⟩) hS0 ?_
        try simp only [Act.put]
        try simp only [List.setIfInBounds_toArray]
        try simp only [List.set_cons_succ]
        try simp only [List.set_cons_zero]
        refine takeH (i := 7) (d := (some 16)) (v := undef) rfl rfl (by kernel_rfl) (by kernel_rfl) (by kernel_rfl) (fun _ _ _ h => h) (Or.inr ⟨by kernel_rfl, rfl⟩) hS0 ?_
        try simp only [Act.put]
        try simp only [List.setIfInBounds_toArray]
        try simp only [List.set_cons_succ]
        try simp only [List.set_cons_zero]
        refine takeH (i := 8) (d := (some 17)) (v := undef) rfl rfl (by kernel_rfl) (by kernel_rfl) (by kernel_rfl) (fun _ _ _ h => h) (Or.inr ⟨by kernel_rfl, rfl⟩) hS0 ?_
        try simp only [Act.put]
        try simp only [List.setIfInBounds_toArray]
        try simp only [List.set_cons_succ]
        try simp only [List.set_cons_zero]
        refine takeH (i := 9) (d := (some 18)) (v := undef) rfl rfl (by kernel_rfl) (by kernel_rfl) (by kernel_rfl) (fun _ _ _ h => h) (Or.inr ⟨by kernel_rfl, rfl⟩) hS0 ?_
        try simp only [Act.put]
        try simp only [List.setIfInBounds_toArray]
        try simp only [List.set_cons_succ]
        try simp only [List.set_cons_zero]
        refine takeH (i := 10) (d := (some 19)) (v := undef) rfl rfl (by kernel_rfl) (by kernel_rfl) (by kernel_rfl) (fun _ _ _ h => h) (Or.inr ⟨by kernel_rfl, rfl⟩) hS0 ?_
        try simp only [Act.put]
        try simp only [List.setIfInBounds_toArray]
        try simp only [List.set_cons_succ]
        try simp only [List.set_cons_zero]
        refine takeH (i := 11) (d := (some 20)) (v := undef) rfl rfl (by kernel_rfl) (by kernel_rfl) (by kernel_rfl) (fun _ _ _ h => h) (Or.inr ⟨by kernel_rfl, rfl⟩) hS0 ?_
        try simp only [Act.put]
        try simp only [List.setIfInBounds_toArray]
        try simp only [List.set_cons_succ]
        try simp only [List.set_cons_zero]
        refine takeH (i := 12) (d := (some 21)) (v := undef) rfl rfl (by kernel_rfl) (by kernel_rfl) (by kernel_rfl) (fun _ _ _ h => h) (Or.inr ⟨by kernel_rfl, rfl⟩) hS0 ?_
        try simp only [Act.put]
        try simp only [List.setIfInBounds_toArray]
        try simp only [List.set_cons_succ]
        try simp only [List.set_cons_zero]
        refine takeH (i := 13) (d := (some 22)) (v := undef) rfl rfl (by kernel_rfl) (by kernel_rfl) (by kernel_rfl) (fun _ _ _ h => h) (Or.inr ⟨by kernel_rfl, rfl⟩) hS0 ?_
        try simp only [Act.put]
        try simp only [List.setIfInBounds_toArray]
        try simp only [List.set_cons_succ]
        try simp only [List.set_cons_zero]
        refine takeH (i := 14) (d := (some 23)) (v := undef) rfl rfl (by kernel_rfl) (by kernel_rfl) (by kernel_rfl) (fun _ _ _ h => h) (Or.inr ⟨by kernel_rfl, rfl⟩) hS0 ?_
        try simp only [Act.put]
        try simp only [List.setIfInBounds_toArray]
        try simp only [List.set_cons_succ]
        try simp only [List.set_cons_zero]
        refine takeH (i := 15) (d := (some 24)) (v := undef) rfl rfl (by kernel_rfl) (by kernel_rfl) (by kernel_rfl) (fun _ _ _ h => h) (Or.inr ⟨by kernel_rfl, rfl⟩) hS0 ?_
        try simp only [Act.put]
        try simp only [List.setIfInBounds_toArray]
        try simp only [List.set_cons_succ]
        try simp only [List.set_cons_zero]
        refine takeH (i := 16) (d := (some 25)) (v := ?_) rfl rfl (by kernel_rfl) (by kernel_rfl) (by kernel_rfl) (fun _ _ _ h => h) (Or.inl ⟨by kernel_rfl, ?_⟩) hS0 ?_
        rotate_left
        focus (intro w hSw; (try dsimp only at hSw); go_simp; first | done | with_reducible rfl)
        try simp only [Act.put]
        try simp only [List.setIfInBounds_toArray]
        try simp only [List.set_cons_succ]
        try simp only [List.set_cons_zero]
        refine wpAnyH_done (by kernel_rfl) ?_ _
        gi_wp2
        exact HN.out
  case hdone =>
    rintro T A hA ⟨h1, h2, h3, h4, h5, h6⟩ hTw hK
    have c2 := h3.cell
    have c3 := h4.cell
    have f2 := h3.frozen
    have f3 := h4.frozen
    rw [HS2.out] at hK
    gi_wp2
    obtain ⟨W8, hW8⟩ : ∃ W, (A.setCell ⟨q + 2, 0, none⟩ (.slice none 0 0)).setCell ⟨q + 3, 0, none⟩ (.bool false) = W := ⟨_, rfl⟩
    have hK8 : W8.heap[q + 5]? = some (.deferred (some [])) := by rw [← hW8]; exact ((Below.heap_setCell _ ⟨q + 3, 0, none⟩ _ (q + 5) (by show q + 5 ≠ q + 3; omega)).trans (Below.heap_setCell _ ⟨q + 2, 0, none⟩ _ (q + 5) (by show q + 5 ≠ q + 2; omega))).trans hK
    have r2 : Boxed W8 (q + 2) 22 (.slice none 0 0) := by rw [← hW8]; exact (Below.heap_setCell _ ⟨q + 3, 0, none⟩ _ (q + 2) (by show q + 2 ≠ q + 3; omega)).trans (h3.set _)
    have r3 : Boxed W8 (q + 3) 4 (.bool false) := by
      rw [← hW8]
      have : Boxed (A.setCell ⟨q + 2, 0, none⟩ (.slice none 0 0)) (q + 3) 4 (.bool false) := (Below.heap_setCell _ ⟨q + 2, 0, none⟩ _ (q + 3) (by show q + 3 ≠ q + 2; omega)).trans h4
      exact this.set _
    have hb8 : Below q w W8 := by rw [← hW8]; exact (((HB1.out.trans (HB2.out.mono (by omega))).trans (h5.mono (by omega))).setCell (p := ⟨q + 2, 0, none⟩) (by show q ≤ q + 2; omega) _).setCell (p := ⟨q + 3, 0, none⟩) (by show q ≤ q + 3; omega) _
    have hF : PathP t o w (.returned (.tuple #[.slice none 0 0, .bool false])) (W8.putObj W2.heap.size (.deferred none)) := by
      refine ⟨by rw [HQ.out]; exact hb8.trans ⟨rfl, rfl, rfl, by simp, fun k hk => World.putObj_heap_other (by rw [HS2.out]; omega)⟩, .inr ⟨fun s hs => ?_, rfl⟩⟩
      obtain ⟨j, hj⟩ := List.getElem?_of_mem hs
      exact h2 j s (List.getElem?_eq_some_iff.1 hj).1 hj
    have r2' : (W8.putObj W2.heap.size (.deferred none)).cell? ⟨q + 2, 0, none⟩ = some (.slice none 0 0) := (show Boxed _ (q + 2) 22 _ from (World.putObj_heap_other (by rw [HS2.out]; omega)).trans r2).cell
    have r3' : (W8.putObj W2.heap.size (.deferred none)).cell? ⟨q + 3, 0, none⟩ = some (.bool false) := (show Boxed _ (q + 3) 4 _ from (World.putObj_heap_other (by rw [HS2.out]; omega)).trans r3).cell
    rw [show ((A.setCell ⟨q + 1 + 1, 0, none⟩ (.slice none 0 0)).setCell ⟨q + 1 + 1 + 1, 0, none⟩ (.bool false)) = W8 from hW8]
    refine ⟨by simp, .inl ⟨_, _, rfl, run_takeDeferred (by rw [HS2.out]; exact hK8), ?_⟩⟩
    exact ⟨.tuple #[.slice none 0 0, .bool false], by simp [results, Tryd.results70, go_sem, r2', r3'], hF⟩
  case hret =>
    rintro T A hA ⟨k, s, v, h0, h1, h2, hT, h3, h4, h7, h5, h6⟩ hTw hK
    rw [HS2.out] at hA
    have hb8 : Below q w A := (HB1.out.trans (HB2.out.mono (by omega))).trans (h5.mono (by omega))
    have hnv : ∀ g, v.ownBlock = some g → g ≠ W2.heap.size := fun g hg e => hTw ((hT _).2 (.inr (.inr (by rw [hg, e]))))
    have hF : PathP t o w (.returned (.tuple #[v, .bool true])) (A.putObj W2.heap.size (.deferred none)) :=
      ⟨by rw [HQ.out]; exact hb8.trans ⟨rfl, rfl, rfl, by simp, fun k hk => World.putObj_heap_other (by rw [HS2.out]; omega)⟩, .inl ⟨k, s, v, h0, h1, h2, rfl, own_base2 (own_same h7 (fun g hg => World.putObj_heap_other (hnv g hg))) (by rw [HQ.out]; omega)⟩⟩
    have r2' : (A.putObj W2.heap.size (.deferred none)).cell? ⟨q + 2, 0, none⟩ = some v := (show Boxed _ (q + 2) 22 _ from (World.putObj_heap_other (by rw [HS2.out]; omega)).trans h3).cell
    have r3' : (A.putObj W2.heap.size (.deferred none)).cell? ⟨q + 3, 0, none⟩ = some (.bool true) := (show Boxed _ (q + 3) 4 _ from (World.putObj_heap_other (by rw [HS2.out]; omega)).trans h4).cell
    gi_wp2
    refine ⟨by simp, .inl ⟨_, _, rfl, run_takeDeferred hK, ?_⟩⟩
    exact ⟨.tuple #[v, .bool true], by simp [results, Tryd.results70, go_sem, r2', r3'], hF⟩

end Go.Proofs.YtgfhhpodcnohpaaDoor

/- The program's clone of a node: nothing of it is shared, and no two of its nodes lie at one place. Conditions: trees of at most 100000 nodes. -/
namespace Go.Proofs.YtgfhhpodcnohpaaDoor
open Go.RowKit Go.Shelf
set_option linter.unusedVariables false

/-- Kids, one after the other, each in blocks of its own. -/
def KL (P : Nat → Nat → Option Addr → Nat → Nat → List Nd → Prop) : Nat → Nat → List Nd → List (Option Addr × Nat × Nat) → Prop
  | lo, hi, [], us => us = [] ∧ lo ≤ hi
  | _, _, _ :: _, [] => False
  | lo, hi, t :: l, u :: us => ∃ mid, P lo mid u.1 u.2.1 u.2.2 t.kids ∧ KL P mid hi l us
/-- The kids of a node lie in blocks from lo on, below hi, each in blocks of its own. -/
def KI : Nat → World → Nat → Nat → Option Addr → Nat → Nat → List Nd → Prop
  | 0, _, _, _, _, _, _, _ => False
  | d + 1, w, lo, hi, a, n, cap, kids => (kids = [] ∧ n = 0 ∧ lo ≤ hi ∧ (a = none → cap = 0) ∧ cap ≤ 9223372036854775807) ∨
      ∃ b us, us.length = kids.length ∧ a = some ⟨b, 0, none⟩ ∧ n = kids.length ∧ w.ownsRow lo 60 4 (.slice (some ⟨b, 0, none⟩) kids.length cap) kids.length (kcs kids us) ∧ kids ≠ [] ∧ KL (KI d w) (b + 1) hi kids us
theorem KL.le {P : Nat → Nat → Option Addr → Nat → Nat → List Nd → Prop} (hp : ∀ lo mid a n c ks, P lo mid a n c ks → lo ≤ mid) : ∀ (l : List Nd) (us : List (Option Addr × Nat × Nat)) (lo hi : Nat), KL P lo hi l us → lo ≤ hi
  | [], us, lo, hi, h => h.2
  | _ :: _, [], lo, hi, h => h.elim
  | t :: l, u :: us, lo, hi, h => by
    obtain ⟨m, k1, k2⟩ := h
    exact Nat.le_trans (hp _ _ _ _ _ _ k1) (KL.le hp l us m hi k2)
theorem KL.snoc {P : Nat → Nat → Option Addr → Nat → Nat → List Nd → Prop} {t : Nd} {u : Option Addr × Nat × Nat} {mid hi : Nat} (h2 : P mid hi u.1 u.2.1 u.2.2 t.kids) (hm : mid ≤ hi) : ∀ (l : List Nd) (us : List (Option Addr × Nat × Nat)) (lo : Nat), KL P lo mid l us → (∀ lo mid' a n c ks, mid' ≤ mid → P mid' hi a n c ks → lo ≤ mid' → P lo hi a n c ks) → KL P lo hi (l ++ [t]) (us ++ [u])
  | [], us, lo, h, hw => by
    obtain ⟨rfl, h1⟩ := h
    exact ⟨hi, hw lo mid _ _ _ _ (Nat.le_refl _) h2 h1, rfl, Nat.le_refl _⟩
  | _ :: _, [], lo, h, hw => h.elim
  | x :: l, v :: us, lo, h, hw => by
    obtain ⟨m, k1, k2⟩ := h
    exact ⟨m, k1, KL.snoc h2 hm l us m k2 hw⟩
theorem KI.le : ∀ (d : Nat) {w : World} {lo hi : Nat} {a : Option Addr} {n cap : Nat} {kids : List Nd}, KI d w lo hi a n cap kids → lo ≤ hi
  | 0, _, _, _, _, _, _, _, h => h.elim
  | d + 1, w, lo, hi, a, n, cap, kids, h => by
    rcases h with ⟨_, _, h, _⟩ | ⟨b, us, h1, rfl, h3, h4, h5, h6⟩
    · exact h
    · have := (h4.lt b rfl).1
      have := KL.le (fun lo mid a n c ks h => KI.le d h) _ _ _ _ h6
      omega
theorem KI.keep : ∀ (d : Nat) {w w' : World} {lo hi : Nat} {a : Option Addr} {n cap : Nat} {kids : List Nd}, KI d w lo hi a n cap kids → (∀ b, lo ≤ b → b < hi → w'.heap[b]? = w.heap[b]?) → KI d w' lo hi a n cap kids
  | 0, _, _, _, _, _, _, _, _, h, _ => h.elim
  | d + 1, w, w', lo, hi, a, n, cap, kids, h, hb => by
    rcases h with h | ⟨b, us, h1, rfl, h3, h4, h5, h6⟩
    · exact .inl h
    · have hlb := (h4.lt b rfl).1
      have hle := KL.le (fun lo mid a n c ks h => KI.le d h) _ _ _ _ h6
      refine .inr ⟨b, us, h1, rfl, h3, own_same h4 (fun g hg => ?_), h5, ?_⟩
      · cases hg; exact hb b hlb (by omega)
      · have key : ∀ (l : List Nd) (us : List (Option Addr × Nat × Nat)) (lo' : Nat), lo ≤ lo' → KL (KI d w) lo' hi l us → KL (KI d w') lo' hi l us := by
          intro l
          induction l with
          | nil => intro us lo' _ h; exact h
          | cons x l ih =>
            intro us lo' hl h
            cases us with
            | nil => exact h.elim
            | cons v us =>
              obtain ⟨m, k1, k2⟩ := h
              have l1 := KI.le d k1
              have l2 := KL.le (fun lo mid a n c ks h => KI.le d h) _ _ _ _ k2
              exact ⟨m, KI.keep d k1 (fun b h1 h2 => hb b (by omega) (by omega)), ih us m (by omega) k2⟩
        exact key kids us (b + 1) (by omega) h6
theorem own_base3 {w : World} {b b' e size n : Nat} {v : Value} {xs : List Value} (h : w.ownsRow b e size v n xs) (hb : ∀ g, v.ownBlock = some g → b' ≤ g) : w.ownsRow b' e size v n xs := by
  refine ⟨h.1, ?_⟩
  rcases h.2 with hn | ⟨g, cap, cur, rfl, h1, r⟩
  · exact .inl hn
  · exact .inr ⟨g, cap, cur, rfl, hb g rfl, r⟩
theorem KI.lo : ∀ (d : Nat) {w : World} {lo lo' hi : Nat} {a : Option Addr} {n cap : Nat} {kids : List Nd}, KI d w lo hi a n cap kids → lo' ≤ lo → KI d w lo' hi a n cap kids
  | 0, _, _, _, _, _, _, _, _, h, _ => h.elim
  | d + 1, w, lo, lo', hi, a, n, cap, kids, h, hb => by
    rcases h with ⟨h1, h2, h3, h4⟩ | ⟨b, us, h1, rfl, h3, h4, h5, h6⟩
    · exact .inl ⟨h1, h2, by omega, h4⟩
    · exact .inr ⟨b, us, h1, rfl, h3, own_base2 h4 hb, h5, h6⟩
theorem KL.hi {P : Nat → Nat → Option Addr → Nat → Nat → List Nd → Prop} : ∀ (l : List Nd) (us : List (Option Addr × Nat × Nat)) (lo hi hi' : Nat), hi ≤ hi' → KL P lo hi l us → KL P lo hi' l us
  | [], us, lo, hi, hi', hh, h => ⟨h.1, by have := h.2; omega⟩
  | _ :: _, [], lo, hi, hi', hh, h => h.elim
  | t :: l, u :: us, lo, hi, hi', hh, h => by
    obtain ⟨mid, h1, h2⟩ := h
    exact ⟨mid, h1, KL.hi l us mid hi hi' hh h2⟩
theorem KI.hi (d : Nat) {w : World} {lo hi hi' : Nat} {a : Option Addr} {n cap : Nat} {kids : List Nd} (h : KI d w lo hi a n cap kids) (hh : hi ≤ hi') : KI d w lo hi' a n cap kids := by
  cases d with
  | zero => exact h.elim
  | succ d =>
    rcases h with ⟨h1, h2, h3, h4⟩ | ⟨b, us, h1, rfl, h3, h4, h5, h6⟩
    · exact .inl ⟨h1, h2, by omega, h4⟩
    · exact .inr ⟨b, us, h1, rfl, h3, h4, h5, KL.hi _ _ _ _ _ hh h6⟩
/-- The kids lie in memory. -/
theorem KI.kv : ∀ (d : Nat) {w : World} {lo hi : Nat} {a : Option Addr} {n cap : Nat} {kids : List Nd} {G : Nat → Prop}, KI d w lo hi a n cap kids → (∀ b, lo ≤ b → b < hi → G b) → KV G w a n cap kids
  | 0, _, _, _, _, _, _, _, _, h, _ => h.elim
  | d + 1, w, lo, hi, a, n, cap, kids, G, h, hG => by
    rcases h with ⟨rfl, rfl, h3, h4, h5⟩ | ⟨b, us, h1, rfl, rfl, h4, h5, h6⟩
    · exact .nil h4 h5
    · have hlb := (h4.lt b rfl)
      have hle := KL.le (fun lo mid a n c ks h => KI.le d h) _ _ _ _ h6
      have key : ∀ (l : List Nd) (us : List (Option Addr × Nat × Nat)) (lo' : Nat), lo ≤ lo' → KL (KI d w) lo' hi l us → ∀ (k : Nat) (t : Nd) (u : Option Addr × Nat × Nat), l[k]? = some t → us[k]? = some u → KV G w u.1 u.2.1 u.2.2 t.kids := by
        intro l
        induction l with
        | nil => intro us lo' _ h k t u h1; simp at h1
        | cons x l ih =>
          intro us lo' hl h k t u h1 h2
          cases us with
          | nil => exact h.elim
          | cons v us =>
            obtain ⟨m, k1, k2⟩ := h
            have l1 := KI.le d k1
            have l2 := KL.le (fun lo mid a n c ks h => KI.le d h) _ _ _ _ k2
            cases k with
            | zero =>
              simp at h1 h2
              subst h1 h2
              exact KI.kv d k1 (fun b h1 h2 => hG b (by omega) (by omega))
            | succ k => exact ih us m (by omega) k2 k t u (by simpa using h1) (by simpa using h2)
      have hus : ∀ k, k < kids.length → ∃ u, us[k]? = some u := fun k hk => ⟨_, List.getElem?_eq_getElem (by rw [h1]; exact hk)⟩
      rcases h4.2 with ⟨e1, e2⟩ | ⟨g, c, cur, e1, e2, e3, e4, e5, _⟩
      · cases e1
      · simp only [Value.slice.injEq] at e1
        obtain ⟨e0, _, rfl⟩ := e1
        cases e0
        refine .cons (fun k => (us[k]?.getD (none, 0, 0)).1) (fun k => (us[k]?.getD (none, 0, 0)).2.1) (fun k => (us[k]?.getD (none, 0, 0)).2.2) rfl (fun e => h5 (List.eq_nil_of_length_eq_zero e)) e4 (by unfold maxLen at e5; omega) hlb.2 (hG b hlb.1 (by omega)) (fun k hk => ?_) (fun k hk => ?_)
        · obtain ⟨u, hu⟩ := hus k hk
          have hg := kcs_get kids us k kids[k] u (List.getElem?_eq_getElem hk) hu
          simp only [hu, Option.getD_some]
          rw [← hg.1, ← hg.2.1, ← hg.2.2.1, ← hg.2.2.2, Nat.zero_add]
          exact ⟨h4.cellAt _ (by omega), h4.cellAt _ (by omega), h4.cellAt _ (by omega), h4.cellAt _ (by omega)⟩
        · obtain ⟨u, hu⟩ := hus k hk
          simp only [hu, Option.getD_some]
          exact key kids us (b + 1) (by omega) h6 k kids[k] u (List.getElem?_eq_getElem hk) hu
theorem kcs_set : ∀ (l : List Nd) (us : List (Option Addr × Nat × Nat)) (k : Nat) (t : Nd) (v : Option Addr × Nat × Nat), l[k]? = some t → k < us.length →
    ((((kcs l us).set (k * 4) (.int .i64 t.id)).set (k * 4 + 1) (.int .i64 t.kind)).set (k * 4 + 2) (.string t.text)).set (k * 4 + 3) (.slice v.1 v.2.1 v.2.2) = kcs l (us.set k v)
  | [], us, k, t, v, h, _ => by simp at h
  | _ :: _, [], k, t, v, _, h => by simp at h
  | x :: l, u :: us, 0, t, v, h, _ => by
    simp at h; subst h
    simp [kcs]
  | x :: l, u :: us, k + 1, t, v, h, hk => by
    have ih := kcs_set l us k t v (by simpa using h) (by simpa using hk)
    rw [show (k + 1) * 4 = k * 4 + 1 + 1 + 1 + 1 by omega]
    simp only [List.set_cons_succ, kcs]
    rw [← ih]

end Go.Proofs.YtgfhhpodcnohpaaDoor

/- The program's clone of a node. Conditions: trees of at most 100000 nodes. -/
namespace Go.Proofs.YtgfhhpodcnohpaaDoor
open Go.RowKit Go.Shelf
set_option linter.unusedVariables false

/-- What the loop over the kids keeps: the node in block q, the result behind it. -/
structure CLs (d : Nat) (w : World) (q : Nat) (id kd : Int) (tx : ByteArray) (ks : List Nd) (uo : List (Option Addr × Nat × Nat)) (av : Option Addr) (c n i : Nat) (us : List (Option Addr × Nat × Nat)) (W : World) : Prop where
  len : us.length = ks.length
  old : ∀ k, i ≤ k → us[k]? = uo[k]?
  own : W.ownsRow (q + 2) 60 4 (.slice av n c) n (kcs ks us)
  new : ∀ g, av = some ⟨g, 0, none⟩ → KL (KI d W) (g + 1) W.heap.size (ks.take i) (us.take i)
  kq : Blk W q 60 #[.int .i64 id, .int .i64 kd, .string tx, .slice av n c]
  kr : Blk W (q + 1) 60 #[.int .i64 0, .int .i64 0, .string ⟨#[]⟩, .slice none 0 0]
  o : Below q w W
theorem KL.keepI (d : Nat) {w w' : World} {hi : Nat} : ∀ (l : List Nd) (us : List (Option Addr × Nat × Nat)) (lo : Nat), KL (KI d w) lo hi l us → (∀ b, lo ≤ b → b < hi → w'.heap[b]? = w.heap[b]?) → KL (KI d w') lo hi l us
  | [], us, lo, h, _ => h
  | _ :: _, [], lo, h, _ => h.elim
  | x :: l, v :: us, lo, h, hb => by
    obtain ⟨m, k1, k2⟩ := h
    have l1 := KI.le d k1
    have l2 := KL.le (fun lo mid a n c ks h => KI.le d h) _ _ _ _ k2
    exact ⟨m, KI.keep d k1 (fun b h1 h2 => hb b h1 (by omega)), KL.keepI d l us m k2 (fun b h1 h2 => hb b (by omega) h2)⟩
theorem set4 (W : World) (g o : Nat) (v0 v1 v2 v3 : Value) : (∀ b, b ≠ g → ((((W.setCell ⟨g, o, none⟩ v0).setCell ⟨g, o + 1, none⟩ v1).setCell ⟨g, o + 2, none⟩ v2).setCell ⟨g, o + 3, none⟩ v3).heap[b]? = W.heap[b]?) ∧ ((((W.setCell ⟨g, o, none⟩ v0).setCell ⟨g, o + 1, none⟩ v1).setCell ⟨g, o + 2, none⟩ v2).setCell ⟨g, o + 3, none⟩ v3).heap.size = W.heap.size :=
  ⟨fun b hb => (((Below.heap_setCell _ ⟨g, o + 3, none⟩ _ b hb).trans (Below.heap_setCell _ ⟨g, o + 2, none⟩ _ b hb)).trans (Below.heap_setCell _ ⟨g, o + 1, none⟩ _ b hb)).trans (Below.heap_setCell _ ⟨g, o, none⟩ _ b hb), by simp [World.setCell]⟩
theorem CLs.step {d : Nat} {w : World} {q : Nat} {id kd : Int} {tx : ByteArray} {ks : List Nd} {uo us : List (Option Addr × Nat × Nat)} {g c n i : Nat} {W w6 : World} {x : Nd} {a' : Option Addr} {n' c' lo : Nat} (h : CLs d w q id kd tx ks uo (some ⟨g, 0, none⟩) c n i us W) (hkl : ks.length = n) (hx : ks[i]? = some x)
    (b5 : Below W.heap.size W w6) (hki : KI d w6 lo w6.heap.size a' n' c' x.kids) (hlo : W.heap.size ≤ lo) :
    CLs d w q id kd tx ks uo (some ⟨g, 0, none⟩) c n i us w6 ∧
    CLs d w q id kd tx ks uo (some ⟨g, 0, none⟩) c n (i + 1) (us.set i (a', n', c')) ((((w6.setCell ⟨g, i * 4, none⟩ (.int .i64 x.id)).setCell ⟨g, i * 4 + 1, none⟩ (.int .i64 x.kind)).setCell ⟨g, i * 4 + 2, none⟩ (.string x.text)).setCell ⟨g, i * 4 + 3, none⟩ (.slice a' n' c')) := by
  have hgl := h.own.lt g rfl
  have hz := b5.size
  have hik : i < ks.length := (List.getElem?_eq_some_iff.1 hx).1
  have hiu : i < us.length := by rw [h.len]; exact hik
  have hw6 : CLs d w q id kd tx ks uo (some ⟨g, 0, none⟩) c n i us w6 :=
    ⟨h.len, h.old, own_same h.own (fun b hb => b5.block b (by cases hb; exact hgl.2)), fun g' hg' => by
      cases hg'
      exact KL.hi _ _ _ _ _ hz (KL.keepI d _ _ _ (h.new g rfl) (fun b h1 h2 => b5.block b h2)), h.kq.same (b5.block q h.kq.lt), h.kr.same (b5.block _ h.kr.lt), h.o.trans (b5.mono (by omega))⟩
  refine ⟨hw6, ?_⟩
  obtain ⟨hb, hs⟩ := set4 w6 g (i * 4) (.int .i64 x.id) (.int .i64 x.kind) (.string x.text) (.slice a' n' c')
  refine ⟨by rw [List.length_set]; exact h.len, fun k hk => ?_, ?_, fun g' hg' => ?_, ?_, ?_, ?_⟩
  · rw [List.getElem?_set_ne (by omega)]; exact h.old k (by omega)
  · have h1 := ((((hw6.own.stored (i * 4) (.int .i64 x.id)).1.stored (i * 4 + 1) (.int .i64 x.kind)).1.stored (i * 4 + 2) (.string x.text)).1.stored (i * 4 + 3) (.slice a' n' c')).1
    rw [kcs_set ks us i x (a', n', c') hx hiu] at h1
    exact h1
  · cases hg'
    rw [hs]
    have ht : (us.set i (a', n', c')).take (i + 1) = us.take i ++ [(a', n', c')] := by
      rw [List.take_succ_eq_append_getElem (by rw [List.length_set]; exact hiu), List.getElem_set_self, List.take_set_of_le (Nat.le_refl _)]
    have hk : ks.take (i + 1) = ks.take i ++ [x] := by
      rw [List.take_succ_eq_append_getElem hik]
      congr 1
      rw [(List.getElem?_eq_some_iff.1 hx).2]
    rw [ht, hk]
    refine KL.snoc (mid := W.heap.size) (t := x) (u := (a', n', c')) ?_ hz _ _ _ ?_ (fun lo mid' a n c ks _ h1 h2 => KI.lo d h1 h2)
    · exact KI.lo d (KI.keep d hki (fun b h1 _ => hb b (by omega))) hlo
    · exact KL.keepI d _ _ _ (h.new g rfl) (fun b h1 h2 => (hb b (by omega)).trans (b5.block b h2))
  · exact hw6.kq.same (hb q (by omega))
  · exact hw6.kr.same (hb (q + 1) (by omega))
  · exact (((hw6.o.setCell (p := ⟨g, i * 4, none⟩) (by show q ≤ g; omega) _).setCell (p := ⟨g, i * 4 + 1, none⟩) (by show q ≤ g; omega) _).setCell (p := ⟨g, i * 4 + 2, none⟩) (by show q ≤ g; omega) _).setCell (p := ⟨g, i * 4 + 3, none⟩) (by show q ≤ g; omega) _
/-- A call hands back a node of its own. -/
def ClP (d : Nat) (id kd : Int) (tx : ByteArray) (ks : List Nd) (n : Nat) (w : World) (e : Ending) (w' : World) : Prop :=
  ∃ (a : Option Addr) (c : Nat), e = .returned (.agg #[.int .i64 id, .int .i64 kd, .string tx, .slice a n c]) ∧ KI d w' w.heap.size w'.heap.size a n c ks ∧ Below w.heap.size w w'

theorem CLs.fin {d : Nat} {w : World} {q : Nat} {id kd : Int} {tx : ByteArray} {ks : List Nd} {uo us : List (Option Addr × Nat × Nat)} {av : Option Addr} {c n : Nat} {W : World} (h : CLs d w q id kd tx ks uo av c n n us W) (hq : w.heap.size = q) (hkl : ks.length = n) :
    Blk ((((W.setCell ⟨q + 1, 0, none⟩ (.int .i64 id)).setCell ⟨q + 1, 1, none⟩ (.int .i64 kd)).setCell ⟨q + 1, 2, none⟩ (.string tx)).setCell ⟨q + 1, 3, none⟩ (.slice av n c)) (q + 1) 60 #[.int .i64 id, .int .i64 kd, .string tx, .slice av n c] ∧
    ClP (d + 1) id kd tx ks n w (.returned (.agg #[.int .i64 id, .int .i64 kd, .string tx, .slice av n c])) ((((W.setCell ⟨q + 1, 0, none⟩ (.int .i64 id)).setCell ⟨q + 1, 1, none⟩ (.int .i64 kd)).setCell ⟨q + 1, 2, none⟩ (.string tx)).setCell ⟨q + 1, 3, none⟩ (.slice av n c)) := by
  obtain ⟨hb, hs⟩ := set4 W (q + 1) 0 (.int .i64 id) (.int .i64 kd) (.string tx) (.slice av n c)
  simp only [Nat.zero_add] at hb hs
  have ho : Below q w ((((W.setCell ⟨q + 1, 0, none⟩ (.int .i64 id)).setCell ⟨q + 1, 1, none⟩ (.int .i64 kd)).setCell ⟨q + 1, 2, none⟩ (.string tx)).setCell ⟨q + 1, 3, none⟩ (.slice av n c)) :=
    (((h.o.setCell (p := ⟨q + 1, 0, none⟩) (by show q ≤ q + 1; omega) _).setCell (p := ⟨q + 1, 1, none⟩) (by show q ≤ q + 1; omega) _).setCell (p := ⟨q + 1, 2, none⟩) (by show q ≤ q + 1; omega) _).setCell (p := ⟨q + 1, 3, none⟩) (by show q ≤ q + 1; omega) _
  refine ⟨by simpa using (((h.kr.set 0 (.int .i64 id)).set 1 (.int .i64 kd)).set 2 (.string tx)).set 3 (.slice av n c), av, c, rfl, ?_, by rw [hq]; exact ho⟩
  rw [hq, hs]
  have hkq := h.kq.lt
  by_cases h0 : n = 0
  · refine .inl ⟨List.eq_nil_of_length_eq_zero (by omega), h0, by omega, ?_⟩
    rcases h.own.2 with ⟨e, _⟩ | ⟨g, c', cur, e, _, _, _, e5, _⟩
    · simp only [Value.slice.injEq] at e
      exact ⟨fun _ => e.2.2, by omega⟩
    · simp only [Value.slice.injEq] at e
      exact ⟨(fun ea => by rw [e.1] at ea; cases ea), by unfold maxLen at e5; omega⟩
  · rcases h.own.2 with ⟨_, e⟩ | ⟨g, c', cur, e, _⟩
    · exact absurd e h0
    · simp only [Value.slice.injEq] at e
      obtain ⟨rfl, _, rfl⟩ := e
      have hgl := h.own.lt g rfl
      subst hkl
      refine .inr ⟨g, us, h.len, rfl, rfl, own_same (own_base2 h.own (by omega)) (fun b hb' => by cases hb'; exact hb g (by omega)), fun e => h0 (by rw [e]; rfl), ?_⟩
      have := h.new g rfl
      rw [List.take_length, ← h.len, List.take_length] at this
      exact KL.keepI d _ _ _ this (fun b h1 _ => hb b (by omega))
set_option maxRecDepth 100000 in
set_option maxHeartbeats 4000000 in
theorem clone_any : ∀ (d : Nat) (t : Nd) (a : Option Addr) (n cap : Nat) (w : World) (G : Nat → Prop), t.dep ≤ d → KV G w a n cap t.kids → t.cnt ≤ 100000 →
    Calls Tryd.prog 100 #[ndv t a n cap] w (ClP d t.id t.kind t.text t.kids n w)
  | 0, t, a, n, cap, w, G, hd, hK, hc => by have := t.dep_eq; omega
  | d + 1, t, a, n, cap, w, G, hd, hK, hc => by
    obtain ⟨hkl, hnc, hcm⟩ := hK.len
    obtain ⟨uo, huo, hsub, hrow⟩ := hK.row
    obtain ⟨q, hq⟩ : ∃ q, w.heap.size = q := ⟨_, rfl⟩
    obtain ⟨W2, hW2⟩ : ∃ W, (w.alloc (.cells (ndc t a n cap) 60)).alloc (.cells #[.int .i64 0, .int .i64 0, .string ⟨#[]⟩, .slice none 0 0] 60) = W := ⟨_, rfl⟩
    have b2 : Below q w W2 := by rw [← hW2, ← hq]; exact ((Below.refl _ _).alloc (Nat.le_refl _) _).alloc (by simp) _
    have k1 : Blk W2 q 60 (ndc t a n cap) := by rw [← hW2, ← hq]; exact (Blk.new _ _ _).alloc _
    have k2 : Blk W2 (q + 1) 60 #[.int .i64 0, .int .i64 0, .string ⟨#[]⟩, .slice none 0 0] := by
      rw [← hW2, ← hq]
      have := Blk.new (w.alloc (.cells (ndc t a n cap) 60)) 60 #[.int .i64 0, .int .i64 0, .string ⟨#[]⟩, .slice none 0 0]
      rw [World.size_alloc] at this
      exact this
    have s2 : W2.heap.size = q + 2 := by rw [← hW2, ← hq]; simp
    have hkn := t.kids_len
    have hrow2 : ∀ ad, a = some ad → ∀ j u, (kcs t.kids uo)[j]? = some u → W2.cell? (ad.add j) = some u := fun ad h j u hj => by
      have h1 := hrow ad h j u hj
      have hlt := World.block_lt_of_cell? w _ h1
      exact (World.cell?_of_block (w := w) (a := ad.add j) (b2.block _ (by rw [hq] at hlt; exact hlt))).trans h1
    have HC := Lib.hid (cloneNode_any a n cap (kcs t.kids uo) W2 (by omega) hnc hcm (by rw [kcs_len _ _ huo, hkl]) (kcs_one _ _) (fun h => (hK.nil_ h).1) hrow2)
    have HREC : Hid (∀ (x : Nd) (a' : Option Addr) (n' c' : Nat) (W : World), x ∈ t.kids → KV G W a' n' c' x.kids → Calls Tryd.prog 100 #[ndv x a' n' c'] W (ClP d x.id x.kind x.text x.kids n' W)) := fun x a' n' c' W hx hk => clone_any d x a' n' c' W G (by have := t.kid_dep hx; omega) hk (by have := t.kid_cnt hx; omega)
    obtain ⟨id, hid⟩ : ∃ x, t.id = x := ⟨_, rfl⟩
    obtain ⟨kd, hkd⟩ : ∃ x, t.kind = x := ⟨_, rfl⟩
    obtain ⟨tx, htx⟩ : ∃ x, t.text = x := ⟨_, rfl⟩
    obtain ⟨ks, hks⟩ : ∃ x, t.kids = x := ⟨_, rfl⟩
    unfold ndv ndc at *
    rw [hid, hkd, htx] at hW2 k1
    rw [hid, hkd, htx, hks]
    rw [hks] at HC HREC hkl huo hsub hkn
    have c3 := k1.cell 3
    have f3 := k1.frozen 3
    simp only [List.getElem?_toArray, List.getElem?_cons_zero, List.getElem?_cons_succ] at c3
    have HW2 := Lib.hid hW2; have HQ := Lib.hid hq; have HK1 := Lib.hid k1; have HK2 := Lib.hid k2; have HB2 := Lib.hid b2; have HS2 := Lib.hid s2; have HKL := Lib.hid hkl; have HUO := Lib.hid huo; have HSUB := Lib.hid hsub
    have hn5 : n ≤ 100000 := by omega
    clear hK hd hc hkl huo hsub hrow hrow2 hW2 b2 k1 k2 s2 hkn hid hkd htx hks hq
    go_enter Tryd.func100, Tryd.ntmps100
    go_wp2_with fail
    rw [HW2.out, HQ.out]
    go_wp2_with fail
    refine HC.out.mono ?_
    rintro e w3 ⟨v, rfl, hown, b3⟩
    obtain ⟨av, c, rfl⟩ := own_slice hown
    have k3 := HK1.out.same (b3.block q HK1.out.lt)
    have k4 := HK2.out.same (b3.block (q + 1) HK2.out.lt)
    have d3 := k3.cell 3
    have g3 := k3.frozen 3
    simp only [List.getElem?_toArray, List.getElem?_cons_zero, List.getElem?_cons_succ] at d3
    obtain ⟨W4, hW4⟩ : ∃ W, w3.setCell ⟨q, 3, none⟩ (.slice av n c) = W := ⟨_, rfl⟩
    have hs4 : Hid (CLs d w q id kd tx ks uo av c n 0 uo W4) := by
      rw [HS2.out] at hown b3
      refine ⟨HUO.out, fun _ _ => rfl, ?_, fun g hg => ?_, ?_, ?_, ?_⟩
      · rw [← hW4]
        exact own_same hown (fun g hg => Below.heap_setCell w3 ⟨q, 3, none⟩ _ g (by have := (hown.lt g hg).1; show g ≠ q; omega))
      · subst hg
        rw [List.take_zero, List.take_zero]
        have := (hown.lt g rfl).2
        refine ⟨rfl, ?_⟩
        rw [← hW4]; simp [World.setCell]; omega
      · rw [← hW4]; simpa using k3.set 3 (.slice av n c)
      · rw [← hW4]; exact k4.same (Below.heap_setCell w3 ⟨q, 3, none⟩ _ (q + 1) (by show q + 1 ≠ q; omega))
      · rw [← hW4]
        exact (HB2.out.trans (b3.mono (by omega))).setCell (p := ⟨q, 3, none⟩) (Nat.le_refl _) _
    have e3 := hs4.out.kq.cell 3
    simp only [List.getElem?_toArray, List.getElem?_cons_zero, List.getElem?_cons_succ] at e3
    rw [← hW4] at e3
    have HW4 := Lib.hid hW4
    clear hown b3 k3 k4 hW4 c3 f3
    go_wp2_with fail
    rw [HW4.out]
    go_loopw [12] (fun g wr => ∃ (i : Nat) (us : List (Option Addr × Nat × Nat)), g = .int .i64 (i : Int) ∧ i ≤ n ∧ Hid (CLs d w q id kd tx ks uo av c n i us wr)) (fun g _ => n - (intOf g).toNat)
    case atStart => exact ⟨0, uo, rfl, by omega, hs4⟩
    case round =>
      obtain ⟨i, us, rfl, hi, HC4⟩ := hrel
      by_cases hin : i < n
      · have hin2 : (i : Int) < (n : Int) := by omega
        have m1 : IntKind.i64.wrap ((i : Int) + 1) = (i : Int) + 1 := by simp [IntKind.wrap, IntKind.signed, IntKind.bits]; omega
        obtain ⟨m', hm'⟩ : ∃ m', n = m' + 1 := ⟨n - 1, by omega⟩
        obtain ⟨g, rfl⟩ : ∃ g, av = some ⟨g, 0, none⟩ := by
          have h1 := HC4.out.own
          rw [hm'] at h1
          obtain ⟨g, cp, h2⟩ := ownsRow_succ h1
          simp only [Value.slice.injEq] at h2
          exact ⟨g, h2.1⟩
        have hik : i < ks.length := by rw [HKL.out]; exact hin
        obtain ⟨x, hx⟩ : ∃ x, ks[i]? = some x := ⟨_, List.getElem?_eq_getElem hik⟩
        obtain ⟨⟨a', n', c'⟩, hu⟩ : ∃ u, uo[i]? = some u := ⟨_, List.getElem?_eq_getElem (by rw [HUO.out]; exact hik)⟩
        have hu2 := (HC4.out.old i (Nat.le_refl _)).trans hu
        have hxm : x ∈ ks := List.mem_of_getElem? hx
        have hkv := (HSUB.out i x _ hx hu)
        obtain ⟨g0, g1, g2, g3'⟩ := kcs_get ks us i x _ hx hu2
        have y0 := HC4.out.own.cellAt (i * 4) (by omega)
        have y1 := HC4.out.own.cellAt (i * 4 + 1) (by omega)
        have y2 := HC4.out.own.cellAt (i * 4 + 2) (by omega)
        have y3 := HC4.out.own.cellAt (i * 4 + 3) (by omega)
        rw [g0] at y0; rw [g1] at y1; rw [g2] at y2; rw [g3'] at y3
        obtain ⟨W5, hW5⟩ : ∃ W, wr.alloc (.cells (ndc x a' n' c') 60) = W := ⟨_, rfl⟩
        have b5 : Below wr.heap.size wr W5 := by rw [← hW5]; exact (Below.refl _ _).alloc (Nat.le_refl _) _
        have s5 : wr.heap.size < W5.heap.size := by rw [← hW5]; simp
        have k5 : Blk W5 wr.heap.size 60 (ndc x a' n' c') := by rw [← hW5]; exact Blk.new _ _ _
        have hbw := HC4.out.o.trans (b5.mono (by have := HC4.out.o.size; have := HQ.out; omega))
        have HC5 := Lib.hid (HREC.out x a' n' c' W5.drew hxm (hkv.on (by rw [HQ.out]; exact hbw.drew)))
        have HSTEP : Hid (∀ (a2 : Option Addr) (c2 : Nat) (w6 : World), KI d w6 W5.drew.heap.size w6.heap.size a2 n' c2 x.kids → Below W5.drew.heap.size W5.drew w6 → CLs d w q id kd tx ks uo (some ⟨g, 0, none⟩) c n i us w6 ∧
            CLs d w q id kd tx ks uo (some ⟨g, 0, none⟩) c n (i + 1) (us.set i (a2, n', c2)) ((((w6.setCell ⟨g, i * 4, none⟩ (.int .i64 x.id)).setCell ⟨g, i * 4 + 1, none⟩ (.int .i64 x.kind)).setCell ⟨g, i * 4 + 2, none⟩ (.string x.text)).setCell ⟨g, i * 4 + 3, none⟩ (.slice a2 n' c2))) := fun a2 c2 w6 h1 h2 =>
          HC4.out.step HKL.out hx (b5.drew.trans (h2.mono (by show wr.heap.size ≤ W5.heap.size; omega))) h1 (by show wr.heap.size ≤ W5.heap.size; omega)
        obtain ⟨xi, hxi⟩ : ∃ z, x.id = z := ⟨_, rfl⟩
        obtain ⟨xk, hxk⟩ : ∃ z, x.kind = z := ⟨_, rfl⟩
        obtain ⟨xt, hxt⟩ : ∃ z, x.text = z := ⟨_, rfl⟩
        obtain ⟨xs, hxs⟩ : ∃ z, x.kids = z := ⟨_, rfl⟩
        unfold ndv at HC5
        unfold ndc at k5 hW5
        rw [hxi, hxk, hxt, hxs] at HC5 HSTEP
        rw [hxi, hxk, hxt] at k5 hW5
        rw [hxi] at y0; rw [hxk] at y1; rw [hxt] at y2
        have z0 := k5.cell 0
        have z1 := k5.cell 1
        have z2 := k5.cell 2
        have z3 := k5.cell 3
        have hkq5 : Blk W5 q 60 #[.int .i64 id, .int .i64 kd, .string tx, .slice (some ⟨g, 0, none⟩) n c] := HC4.out.kq.same (b5.block q HC4.out.kq.lt)
        have q3 := hkq5.cell 3
        simp only [List.getElem?_toArray, List.getElem?_cons_zero, List.getElem?_cons_succ] at z0 z1 z2 z3 q3
        have HM' := Lib.hid hm'
        have HW5 := Lib.hid hW5
        clear hm' hx hu hu2 hxm hkv g0 g1 g2 g3' b5 k5 hbw hxi hxk hxt hxs hkq5 hW5 e3 d3 g3
        go_wp2_with fail
        rw [HW5.out]
        go_region_law (first | (go_simp; go_at_call 100; refine HC5.out.mono ?_; rintro e w6 ⟨a2, c2, rfl, hki, b6⟩; obtain ⟨hs6, hs7⟩ := HSTEP.out a2 c2 w6 hki b6; have q6 := hs6.kq.cell 3; have HN := Lib.hid hs7; simp only [List.getElem?_toArray, List.getElem?_cons_zero, List.getElem?_cons_succ] at q6; have u0 : ∃ u, w6.cell? ⟨g, i * 4, none⟩ = some u := ⟨_, (hs6.own.cellAt (i * 4) (by have := HM'.out; omega)).trans (List.getElem?_eq_getElem (by rw [kcs_len _ _ hs6.len]; omega))⟩; have u1 : ∃ u, w6.cell? ⟨g, i * 4 + 1, none⟩ = some u := ⟨_, (hs6.own.cellAt (i * 4 + 1) (by have := HM'.out; omega)).trans (List.getElem?_eq_getElem (by rw [kcs_len _ _ hs6.len]; omega))⟩; have u2 : ∃ u, w6.cell? ⟨g, i * 4 + 2, none⟩ = some u := ⟨_, (hs6.own.cellAt (i * 4 + 2) (by have := HM'.out; omega)).trans (List.getElem?_eq_getElem (by rw [kcs_len _ _ hs6.len]; omega))⟩; have u3 : ∃ u, w6.cell? ⟨g, i * 4 + 3, none⟩ = some u := ⟨_, (hs6.own.cellAt (i * 4 + 3) (by have := HM'.out; omega)).trans (List.getElem?_eq_getElem (by rw [kcs_len _ _ hs6.len]; omega))⟩; obtain ⟨p0, u0⟩ := u0; obtain ⟨p1, u1⟩ := u1; obtain ⟨p2, u2⟩ := u2; obtain ⟨p3, u3⟩ := u3; have f0 := hs6.own.frozenAt (i * 4); have f1 := hs6.own.frozenAt (i * 4 + 1); have f2 := hs6.own.frozenAt (i * 4 + 2); have f3 := hs6.own.frozenAt (i * 4 + 3); clear hki b6 hs6 hs7))
        all_goals
          go_wp2
          go_roundw
          case rel => exact ⟨i + 1, _, by go_num, by omega, HN⟩
          case measure => simp [intOf]; omega
      · have hin2 : ¬ ((i : Int) < (n : Int)) := by omega
        obtain rfl : i = n := by omega
        have hfin := HC4.out.fin HQ.out HKL.out
        have y0 := HC4.out.kq.cell 0
        have y1 := HC4.out.kq.cell 1
        have y2 := HC4.out.kq.cell 2
        have y3 := HC4.out.kq.cell 3
        have z0 := HC4.out.kr.cell 0
        have z1 := HC4.out.kr.cell 1
        have z2 := HC4.out.kr.cell 2
        have z3 := HC4.out.kr.cell 3
        have f0 := HC4.out.kr.frozen 0
        have f1 := HC4.out.kr.frozen 1
        have f2 := HC4.out.kr.frozen 2
        have f3 := HC4.out.kr.frozen 3
        simp only [List.getElem?_toArray, List.getElem?_cons_zero, List.getElem?_cons_succ] at y0 y1 y2 y3 z0 z1 z2 z3
        have HFIN := Lib.hid hfin
        clear hfin hi e3 d3 g3
        go_wp2_with fail
        obtain ⟨z, hz⟩ := HFIN.out
        have z0 := z.cell 0
        have z1 := z.cell 1
        have z2 := z.cell 2
        have z3 := z.cell 3
        simp only [List.getElem?_toArray, List.getElem?_cons_zero, List.getElem?_cons_succ] at z0 z1 z2 z3
        refine bodyPost_ret (v := .agg #[.int .i64 id, .int .i64 kd, .string tx, .slice av i c]) (by simp [results, Tryd.results100, go_sem, z0, z1, z2, z3]) rfl hz

end Go.Proofs.YtgfhhpodcnohpaaDoor

/- A tree in memory, node by node with its kids. It has no conditions. -/
namespace Go.Proofs.YtgfhhpodcnohpaaDoor
open Go.RowKit Go.Shelf
set_option linter.unusedVariables false

/-- A node and what hangs on it lie in memory: the node at a path where ad says. -/
inductive TA (w : World) (ad : List Nat → Nat × Nat) : Nd → List Nat → Prop
  | mk {t : Nd} {p : List Nat} {a : Option Addr} {cap : Nat} (hb : (ad p).1 < w.heap.size) (h0 : w.cell? ⟨(ad p).1, (ad p).2, none⟩ = some (.int .i64 t.id))
      (h1 : w.cell? ⟨(ad p).1, (ad p).2 + 1, none⟩ = some (.int .i64 t.kind)) (h2 : w.cell? ⟨(ad p).1, (ad p).2 + 2, none⟩ = some (.string t.text)) (h3 : w.cell? ⟨(ad p).1, (ad p).2 + 3, none⟩ = some (.slice a t.kids.length cap))
      (hkv : KV (fun _ => True) w a t.kids.length cap t.kids) (ha : ∀ i, i < t.kids.length → ∃ o, a = some ⟨(ad (p ++ [i])).1, o, none⟩ ∧ (ad (p ++ [i])).2 = o + i * 4)
      (hk : ∀ i (hi : i < t.kids.length), TA w ad t.kids[i] (p ++ [i])) : TA w ad t p
theorem TA.kid {w : World} {ad : List Nat → Nat × Nat} {t : Nd} {p : List Nat} (h : TA w ad t p) {i : Nat} (hi : i < t.kids.length) : TA w ad t.kids[i] (p ++ [i]) := by
  cases h with
  | mk hb h0 h1 h2 h3 hkv ha hk => exact hk i hi
theorem TA.sh {w : World} {ad : List Nat → Nat × Nat} {t : Nd} {p : List Nat} (h : TA w ad t p) : SH w ad t p := by
  induction h with
  | mk hb h0 h1 h2 h3 hkv ha hk ih => exact .mk hb h1 h2 h3 hkv.len.2.1 hkv.len.2.2 ha ih
theorem TA.si {w : World} {ad : List Nat → Nat × Nat} {t : Nd} {p : List Nat} (h : TA w ad t p) : SI w ad t p := by
  induction h with
  | mk hb h0 h1 h2 h3 hkv ha hk ih => exact .mk h0 hb ih
theorem TA.on {w w' : World} {ad : List Nat → Nat × Nat} {t : Nd} {p : List Nat} (h : TA w ad t p) (hb : Below w.heap.size w w') : TA w' ad t p := by
  induction h with
  | mk hb' h0 h1 h2 h3 hkv ha hk ih =>
    have e := hb.block _ hb'
    refine .mk (by have := hb.size; omega) ?_ ?_ ?_ ?_ (hkv.on hb) ha (fun i hi => ih i hi)
    · simp only [World.cell?, e] at h0 ⊢; exact h0
    · simp only [World.cell?, e] at h1 ⊢; exact h1
    · simp only [World.cell?, e] at h2 ⊢; exact h2
    · simp only [World.cell?, e] at h3 ⊢; exact h3
/-- A node's cells, wherever its block lies as it lay. -/
theorem TA.cells {w : World} {ad : List Nat → Nat × Nat} {t : Nd} {p : List Nat} (h : TA w ad t p) : ∃ b o a cap, ad p = (b, o) ∧ b < w.heap.size ∧ KV (fun _ => True) w a t.kids.length cap t.kids ∧
    (∀ i, i < t.kids.length → ∃ b' o', a = some ⟨b', o', none⟩ ∧ ad (p ++ [i]) = (b', o' + i * 4)) ∧
    ∀ V : World, V.heap[b]? = w.heap[b]? → V.cell? ⟨b, o, none⟩ = some (.int .i64 t.id) ∧ V.cell? ⟨b, o + 1, none⟩ = some (.int .i64 t.kind) ∧ V.cell? ⟨b, o + 2, none⟩ = some (.string t.text) ∧ V.cell? ⟨b, o + 3, none⟩ = some (.slice a t.kids.length cap) := by
  cases h with
  | @mk _ _ a cap hb h0 h1 h2 h3 hkv ha hk =>
    refine ⟨(ad p).1, (ad p).2, a, cap, rfl, hb, hkv, fun i hi => ?_, fun V hV => ?_⟩
    · obtain ⟨o, h4, h5⟩ := ha i hi
      exact ⟨_, o, h4, Prod.ext rfl h5⟩
    · simp only [World.cell?, hV] at h0 h1 h2 h3 ⊢
      exact ⟨h0, h1, h2, h3⟩
theorem TA.shift {w : World} {ad ad' : List Nat → Nat × Nat} {t : Nd} {p : List Nat} (h : TA w ad t p) : ∀ p', (∀ r, ad' (p' ++ r) = ad (p ++ r)) → TA w ad' t p' := by
  induction h with
  | @mk t p a cap hb' h0 h1 h2 h3 hkv ha hk ih =>
    intro p' he
    have e : ad' p' = ad p := by have := he []; simpa using this
    have ek : ∀ i, ad' (p' ++ [i]) = ad (p ++ [i]) := fun i => he [i]
    refine .mk (by rw [e]; exact hb') (by rw [e]; exact h0) (by rw [e]; exact h1) (by rw [e]; exact h2) (by rw [e]; exact h3) hkv (fun i hi => by rw [ek]; exact ha i hi) (fun i hi => ih i hi _ (fun r => ?_))
    rw [List.append_assoc, List.append_assoc]; exact he ([i] ++ r)
theorem kv_ta {G : Nat → Prop} {w : World} {a : Option Addr} {n cap : Nat} {kids : List Nd} (h : KV G w a n cap kids) :
    ∃ ad : List Nat → Nat × Nat, (∀ i, i < kids.length → ∃ o, a = some ⟨(ad [i]).1, o, none⟩ ∧ (ad [i]).2 = o + i * 4) ∧ ∀ i (hi : i < kids.length), TA w ad kids[i] [i] := by
  induction h with
  | nil h1 h2 => exact ⟨fun _ => (0, 0), fun i hi => by simp at hi, fun i hi => by simp at hi⟩
  | @cons b off n cap kids u un uc hn h0 hle hmx hb hG hc hk ih =>
    have ih' : ∀ k, ∃ ad : List Nat → Nat × Nat, ∀ (hk : k < kids.length), (∀ i, i < kids[k].kids.length → ∃ o, u k = some ⟨(ad [i]).1, o, none⟩ ∧ (ad [i]).2 = o + i * 4) ∧ ∀ i (hi : i < kids[k].kids.length), TA w ad kids[k].kids[i] [i] := fun k => by
      by_cases hk' : k < kids.length
      · obtain ⟨ad, h1⟩ := ih k hk'
        exact ⟨ad, fun _ => h1⟩
      · exact ⟨fun _ => (0, 0), fun h => absurd h hk'⟩
    obtain ⟨adk, hadk⟩ := Classical.axiomOfChoice ih'
    refine ⟨fun p => match p with
      | [] => (0, 0)
      | [i] => (b, off + i * 4)
      | i :: j :: r => adk i (j :: r), fun i hi => ⟨off, rfl, rfl⟩, fun i hi => ?_⟩
    obtain ⟨q0, q1, q2, q3⟩ := hc i hi
    obtain ⟨e1, e2⟩ := hadk i hi
    have hki := hk i hi
    obtain ⟨k1, k2, k3⟩ := hki.len
    rw [← k1] at q3 hki
    refine .mk hb q0 q1 q2 q3 (hki.keep (Nat.le_refl _) (fun _ _ _ => rfl) (fun _ _ _ => trivial)) (fun j hj => ?_) (fun j hj => ?_)
    · exact e1 j hj
    · exact (e2 j hj).shift _ (fun r => rfl)
/-- A node in a block of its own. -/
theorem root_ta {G : Nat → Prop} {w W : World} {t : Nd} {a : Option Addr} {n cap : Nat} (h : KV G w a n cap t.kids) (hw : Below w.heap.size w W) {q : Nat} (hq : Blk W q 60 (ndc t a n cap)) :
    ∃ ad, ad [] = (q, 0) ∧ TA W ad t [] := by
  obtain ⟨ad, h1, h2⟩ := kv_ta h
  have hkv := (h.on hw).keep (G' := fun _ => True) (Nat.le_refl _) (fun _ _ _ => rfl) (fun _ _ _ => trivial)
  obtain ⟨k1, k2, k3⟩ := h.len
  subst k1
  refine ⟨fun p => match p with
    | [] => (q, 0)
    | i :: r => ad (i :: r), rfl, .mk hq.lt (hq.cell 0) (hq.cell 1) (hq.cell 2) (hq.cell 3) hkv (fun i hi => h1 i hi) (fun i hi => ?_)⟩
  exact ((h2 i hi).on hw).shift _ (fun r => rfl)

/-- The node that a path leads to, and its offset. -/
def getN : Nd → List Int → Option (Nd × Nat)
  | t, [] => some (t, 0)
  | t, k :: p => if h : 0 ≤ k ∧ k.toNat < t.kids.length then (getN t.kids[k.toNat] p).map fun x => (x.1, pws (t.kids.take k.toNat) + x.2) else none
theorem getN_snoc : ∀ (p : List Int) (t : Nd) (k : Int) (x : Nd) (o : Nat), getN t p = some (x, o) → getN t (p ++ [k]) = if h : 0 ≤ k ∧ k.toNat < x.kids.length then some (x.kids[k.toNat], o + pws (x.kids.take k.toNat)) else none
  | [], t, k, x, o, h => by
    simp only [getN, Option.some.injEq, Prod.mk.injEq] at h
    obtain ⟨rfl, rfl⟩ := h
    simp only [List.nil_append, getN]
    by_cases hk : 0 ≤ k ∧ k.toNat < t.kids.length
    · rw [dif_pos hk, dif_pos hk]; simp
    · rw [dif_neg hk, dif_neg hk]
  | j :: p, t, k, x, o, h => by
    rw [getN] at h
    by_cases hj : 0 ≤ j ∧ j.toNat < t.kids.length
    · rw [dif_pos hj] at h
      obtain ⟨⟨y, o'⟩, h1, h2⟩ := Option.map_eq_some_iff.1 h
      simp only [Prod.mk.injEq] at h2
      obtain ⟨rfl, rfl⟩ := h2
      have ih := getN_snoc p t.kids[j.toNat] k y o' h1
      rw [List.cons_append, getN, dif_pos hj, ih]
      by_cases hk : 0 ≤ k ∧ k.toNat < y.kids.length
      · rw [dif_pos hk, dif_pos hk]; simp [Nat.add_assoc]
      · rw [dif_neg hk, dif_neg hk]; rfl
    · rw [dif_neg hj] at h; cases h
theorem getN_none : ∀ (p : List Int) (t : Nd) (r : List Int), getN t p = none → getN t (p ++ r) = none
  | [], t, r, h => by simp [getN] at h
  | j :: p, t, r, h => by
    rw [getN] at h
    rw [List.cons_append, getN]
    by_cases hj : 0 ≤ j ∧ j.toNat < t.kids.length
    · rw [dif_pos hj] at h ⊢
      rw [getN_none p _ r (by simpa using h)]; rfl
    · rw [dif_neg hj]
/-- A path as numbers. -/
abbrev nat (p : List Int) : List Nat := p.map Int.toNat
theorem TA.get {w : World} {ad : List Nat → Nat × Nat} : ∀ (z : List Int) (t : Nd) (p : List Nat) (x : Nd) (o : Nat), TA w ad t p → getN t z = some (x, o) → TA w ad x (p ++ nat z)
  | [], t, p, x, o, h, hg => by
    simp only [getN, Option.some.injEq, Prod.mk.injEq] at hg
    obtain ⟨rfl, _⟩ := hg
    simpa using h
  | j :: z, t, p, x, o, h, hg => by
    rw [getN] at hg
    by_cases hj : 0 ≤ j ∧ j.toNat < t.kids.length
    · rw [dif_pos hj] at hg
      obtain ⟨⟨y, o'⟩, h1, h2⟩ := Option.map_eq_some_iff.1 hg
      simp only [Prod.mk.injEq] at h2
      obtain ⟨rfl, _⟩ := h2
      have := TA.get z _ _ y o' (h.kid hj.2) h1
      rw [List.append_assoc] at this
      exact this
    · rw [dif_neg hj] at hg; cases hg
theorem getN_bd : ∀ (z : List Int) (t x : Nd) (o : Nat), getN t z = some (x, o) → o + x.pw ≤ t.pw ∧ x.cnt ≤ t.cnt
  | [], t, x, o, hg => by
    simp only [getN, Option.some.injEq, Prod.mk.injEq] at hg
    obtain ⟨rfl, rfl⟩ := hg
    omega
  | j :: z, t, x, o, hg => by
    rw [getN] at hg
    by_cases hj : 0 ≤ j ∧ j.toNat < t.kids.length
    · rw [dif_pos hj] at hg
      obtain ⟨⟨y, o'⟩, h1, h2⟩ := Option.map_eq_some_iff.1 hg
      simp only [Prod.mk.injEq] at h2
      obtain ⟨rfl, rfl⟩ := h2
      have h3 := getN_bd z _ y o' h1
      have h4 := t.kid_cnt (List.getElem_mem hj.2)
      have h5 := pws_take t.kids j.toNat hj.2
      have h6 := pws_le t.kids (j.toNat + 1)
      have h7 := t.pw_eq
      omega
    · rw [dif_neg hj] at hg; cases hg

end Go.Proofs.YtgfhhpodcnohpaaDoor

/- The program's find: the place to which a path leads. Conditions: trees of at most 100000 nodes and 1000000000 bytes, paths of at most 100000 indices. -/
namespace Go.Proofs.YtgfhhpodcnohpaaDoor
open Go.RowKit Go.Shelf
set_option linter.unusedVariables false

/-- What find hands back. -/
def FindP (ad : List Nat → Nat × Nat) (t : Nd) (zs : List Int) (w : World) (e : Ending) (w' : World) : Prop := Below w.heap.size w w' ∧
  ((∃ (x : Nd) (o : Nat) (pa : Option Addr) (pn pc : Nat), getN t zs = some (x, o) ∧ e = .returned (.tuple #[.agg #[.pointer (some ⟨(ad (nat zs)).1, (ad (nat zs)).2, none⟩), .slice pa pn pc, .int .i64 (o : Int)], .bool true])) ∨
   (getN t zs = none ∧ e = .returned (.tuple #[.agg #[.pointer none, .slice none 0 0, .int .i64 0], .bool false])))
/-- What the loop over the path keeps. -/
structure FiS (ad : List Nat → Nat × Nat) (t : Nd) (zs : List Int) (w : World) (r i : Nat) (pv : Value) (x : Nd) (o : Nat) (W : World) : Prop where
  get : getN t (zs.take i) = some (x, o)
  blk : Blk W r 109 #[.pointer (some ⟨(ad (nat (zs.take i))).1, (ad (nat (zs.take i))).2, none⟩), pv, .int .i64 (o : Int)]
  o : Below r w W
theorem slice_at {G : Nat → Prop} {w : World} {a : Option Addr} {n cap : Nat} {kids : List Nd} (h : KV G w a n cap kids) {k : Nat} (hk : k < kids.length) : ∃ b o, a = some ⟨b, o, none⟩ := by
  obtain ⟨b, o, _, _, _, h1, _⟩ := h.kid hk
  exact ⟨b, o, h1⟩

set_option maxRecDepth 100000 in
set_option maxHeartbeats 4000000 in
theorem pfind_any (ad : List Nat → Nat × Nat) (t : Nd) (pa : Option Addr) (pc : Nat) (zs : List Int) (w : World) (hT : TA w ad t []) (hp : Sli .i64 w pa pc zs) (hz : zs.length ≤ 100000) (hc : t.cnt ≤ 100000) (hw : t.pw ≤ 1000000000) :
    Calls Tryd.prog 99 #[.pointer (some ⟨(ad []).1, (ad []).2, none⟩), .slice pa zs.length pc] w (FindP ad t zs w) := by
  obtain ⟨r, hr⟩ : ∃ r, w.heap.size = r := ⟨_, rfl⟩
  obtain ⟨B, hB⟩ : ∃ B, (ad []).1 = B := ⟨_, rfl⟩
  obtain ⟨F, hF⟩ : ∃ F, (ad []).2 = F := ⟨_, rfl⟩
  obtain ⟨n, hn⟩ : ∃ n, zs.length = n := ⟨_, rfl⟩
  have hle := hp.le
  have hmx := hp.mx
  have hW0 : Hid (FiS ad t zs w r 0 (.slice pa n pc) t 0 (w.alloc (.cells #[.pointer (some ⟨B, F, none⟩), .slice pa n pc, .int .i64 0] 109))) := by
    refine ⟨rfl, ?_, ?_⟩
    · rw [← hr]
      have := Blk.new w 109 #[.pointer (some ⟨B, F, none⟩), .slice pa n pc, .int .i64 0]
      simpa [nat, hB, hF] using this
    · rw [← hr]
      exact (Below.refl _ w).alloc (Nat.le_refl _) _
  rw [hB, hF, hn]
  rw [hn] at hle hz
  have HT := Lib.hid hT; have HP := Lib.hid hp; have HR := Lib.hid hr; have HB := Lib.hid hB; have HF := Lib.hid hF; have HN := Lib.hid hn; have HC := Lib.hid hc; have HW := Lib.hid hw
  clear hT hp hr hB hF hn hc hw
  go_enter Tryd.func99, Tryd.ntmps99
  go_wp2_with fail
  rw [HR.out]
  go_loopw [16] (fun g wr => ∃ (i : Nat) (x : Nd) (o : Nat), g = .int .i64 (i : Int) ∧ i ≤ n ∧ Hid (FiS ad t zs w r i (.slice pa n pc) x o wr)) (fun g _ => n - (intOf g).toNat)
  case atStart => exact ⟨0, t, 0, rfl, by omega, hW0⟩
  case round =>
    obtain ⟨i, x, o, rfl, hi, HS⟩ := hrel
    have hTx := (TA.get _ t [] x o HT.out HS.out.get)
    rw [List.nil_append] at hTx
    have hbd := getN_bd _ t x o HS.out.get
    have hCW := HC.out
    have hPW := HW.out
    obtain ⟨b, f, a, cap, had, hb, hkv, hads, hcell⟩ := hTx.cells
    have hblk := HS.out.blk
    rw [had] at hblk
    have e0 := hblk.cell 0
    have e1 := hblk.cell 1
    have e2 := hblk.cell 2
    have y0 := hblk.frozen 0
    have y1 := hblk.frozen 1
    have y2 := hblk.frozen 2
    simp only [List.getElem?_toArray, List.getElem?_cons_zero, List.getElem?_cons_succ] at e0 e1 e2
    by_cases hin : i < n
    · have hin2 : (i : Int) < (n : Int) := by omega
      have m1 : IntKind.i64.wrap ((i : Int) + 1) = (i : Int) + 1 := by simp [IntKind.wrap, IntKind.signed, IntKind.bits]; omega
      obtain ⟨pb, po, rfl, hpb, hpc⟩ : ∃ b off, pa = some ⟨b, off, none⟩ ∧ b < w.heap.size ∧ ∀ j, j < zs.length → w.cell? ⟨b, off + j, none⟩ = some (.int .i64 (zs[j]?.getD 0)) := by
        rcases HP.out.cells with h | h
        · have := HN.out; rw [h] at this; simp at this; omega
        · exact h
      have q1 := (HS.out.o.cell (p := ⟨pb, po + i, none⟩) (by rw [← HR.out]; exact hpb)).trans (hpc i (by rw [HN.out]; exact hin))
      have hiz : i < zs.length := by rw [HN.out]; exact hin
      have htk : zs.take (i + 1) = zs.take i ++ [zs[i]?.getD 0] := by
        rw [List.take_succ_eq_append_getElem hiz, List.getElem?_eq_getElem hiz]; rfl
      obtain ⟨k, hk⟩ : ∃ k : Int, zs[i]?.getD 0 = k := ⟨_, rfl⟩
      rw [hk] at q1 htk
      have hsn := getN_snoc _ t k x o HS.out.get
      rw [← htk] at hsn
      have d3 := (hcell wr (HS.out.o.block b (by rw [← HR.out]; exact hb))).2.2.2
      obtain ⟨m, hm⟩ : ∃ m, x.kids.length = m := ⟨_, rfl⟩
      rw [hm] at d3 hkv
      have hmc := hkv.len
      have HSN := Lib.hid hsn; have HTK := Lib.hid htk; have HM := Lib.hid hm; have HKV := Lib.hid hkv; have HADS := Lib.hid hads; have HAD := Lib.hid had; have HBLK := Lib.hid hblk
      have HNONE : Hid (¬ (0 ≤ k ∧ k.toNat < m) → FindP ad t zs w (.returned (.tuple #[.agg #[.pointer none, .slice none 0 0, .int .i64 0], .bool false])) ((((wr.setCell ⟨r, 0, none⟩ (.pointer none)).setCell ⟨r, 1, none⟩ (.slice none 0 0)).setCell ⟨r, 2, none⟩ (.int .i64 0)))) := fun h => by
        refine ⟨?_, .inr ⟨?_, rfl⟩⟩
        · rw [HR.out]
          exact ((HS.out.o.setCell (p := ⟨r, 0, none⟩) (Nat.le_refl _) _).setCell (p := ⟨r, 1, none⟩) (Nat.le_refl _) _).setCell (p := ⟨r, 2, none⟩) (Nat.le_refl _) _
        · have h1 := HSN.out
          rw [dif_neg (by rw [HM.out]; exact h)] at h1
          have h2 := getN_none _ t (zs.drop (i + 1)) h1
          rwa [List.take_append_drop] at h2
      have hblk2 : Blk (((wr.setCell ⟨r, 0, none⟩ (.pointer none)).setCell ⟨r, 1, none⟩ (.slice none 0 0)).setCell ⟨r, 2, none⟩ (.int .i64 0)) r 109 #[.pointer none, .slice none 0 0, .int .i64 0] := by
        have := ((hblk.set 0 (.pointer none)).set 1 (.slice none 0 0)).set 2 (.int .i64 0)
        simpa using this
      have HB2 := Lib.hid hblk2
      clear hTx hb hkv hads hcell hblk hpb hpc hiz htk hk hsn hm had hblk2
      by_cases k0 : k < 0
      · have HE := Lib.hid (HNONE.out (by omega))
        go_wp2_with fail
        have z0 := HB2.out.cell 0
        have z1 := HB2.out.cell 1
        have z2 := HB2.out.cell 2
        simp only [List.getElem?_toArray, List.getElem?_cons_zero, List.getElem?_cons_succ] at z0 z1 z2
        refine bodyPost_ret (v := .tuple #[.agg #[.pointer none, .slice none 0 0, .int .i64 0], .bool false]) (by simp [results, Tryd.results99, go_sem, z0, z1, z2]) rfl HE.out
      · by_cases k1 : k < (m : Int)
        · obtain ⟨K, rfl⟩ : ∃ K : Nat, k = (K : Int) := ⟨k.toNat, by omega⟩
          have k2 : ¬ (m : Int) ≤ (K : Int) := by omega
          have k3 : K < m := by omega
          have k4 : 0 ≤ (K : Int) := by omega
          have k5 : K ≤ cap := by omega
          obtain ⟨kb, ko, rfl⟩ := slice_at HKV.out (k := K) (by rw [HM.out]; exact k3)
          have HSN2 : Hid (∃ hK : K < x.kids.length, getN t (zs.take (i + 1)) = some (x.kids[K], o + pws (x.kids.take K))) := by
            have h1 := HSN.out
            have hK : K < x.kids.length := by rw [HM.out]; exact k3
            rw [dif_pos ⟨k4, by simpa using hK⟩] at h1
            exact ⟨hK, by simpa using h1⟩
          have HADK : Hid (ad (nat (zs.take (i + 1))) = (kb, ko + K * 4)) := by
            obtain ⟨b', o', h1, h2⟩ := HADS.out K (by rw [HM.out]; exact k3)
            cases h1
            show ad _ = _
            rw [HTK.out, show nat (zs.take i ++ [(K : Int)]) = nat (zs.take i) ++ [K] by simp [nat]]
            exact h2
          have hko : Hid (o + pws x.kids ≤ 1000000000) := by have := x.pw_eq; show _ ≤ _; omega
          go_wp2_with fail
          go_loopw [38] (fun g wq => ∃ j : Nat, g = .int .i64 (j : Int) ∧ j ≤ K ∧ Hid (Blk wq r 109 #[.pointer (some ⟨b, f, none⟩), .slice (some ⟨pb, po, none⟩) n pc, .int .i64 ((o + pws (x.kids.take j) : Nat) : Int)] ∧ Below r w wq)) (fun g _ => K - (intOf g).toNat)
          case atStart => exact ⟨0, rfl, by omega, by simpa [pws] using HBLK.out, HS.out.o⟩
          case round =>
            obtain ⟨j, rfl, hj, HJ⟩ := hrel
            by_cases hjn : j < K
            · have hjn2 : (j : Int) < (K : Int) := by omega
              have m2 : IntKind.i64.wrap ((j : Int) + 1) = (j : Int) + 1 := by simp [IntKind.wrap, IntKind.signed, IntKind.bits]; omega
              have hjx : j < x.kids.length := by rw [HM.out]; omega
              obtain ⟨b2, o2, u, un, uc, hkk, _, hb2, hku, hcl⟩ := HKV.out.kid hjx
              cases hkk
              have hsub := getN_bd _ t x o HS.out.get
              have hkcnt := x.kid_cnt (List.getElem_mem hjx)
              have hpk := pws_take x.kids j hjx
              have hpl := pws_le x.kids (j + 1)
              have hko' := hko.out
              obtain ⟨y, hy⟩ : ∃ y, x.kids[j] = y := ⟨_, rfl⟩
              rw [hy] at hku hcl hkcnt hpk
              obtain ⟨d0, d1, d2, d3'⟩ := hcl wr (HJ.out.2.block kb (by rw [← HR.out]; exact hb2))
              obtain ⟨z, hz'⟩ : ∃ z, o + pws (x.kids.take j) = z := ⟨_, rfl⟩
              have hz2 : o + pws (x.kids.take (j + 1)) = z + y.pw := by omega
              have hzy : z + y.pw ≤ 1000000000 := by omega
              obtain ⟨W5, hW5⟩ : ∃ W, wr.alloc (.cells (ndc y u un uc) 60) = W := ⟨_, rfl⟩
              have b5 : Below wr.heap.size wr W5 := by rw [← hW5]; exact (Below.refl _ _).alloc (Nat.le_refl _) _
              have s5 : wr.heap.size < W5.heap.size := by rw [← hW5]; simp
              have k5' : Blk W5 wr.heap.size 60 (ndc y u un uc) := by rw [← hW5]; exact Blk.new _ _ _
              have hrw : r < wr.heap.size := HJ.out.1.lt
              have hbw : Below r w W5 := HJ.out.2.trans (b5.mono (by omega))
              have HWI := Lib.hid (pwidth_any y u un uc W5.drew (fun _ => True) (hku.on (by rw [HR.out]; exact hbw.drew)) (by omega) (by omega))
              have hbl5 : Blk W5 r 109 #[.pointer (some ⟨b, f, none⟩), .slice (some ⟨pb, po, none⟩) n pc, .int .i64 (z : Int)] := by rw [← hz']; exact HJ.out.1.same (b5.block r hrw)
              have HNX : Hid (∀ w6, Below W5.drew.heap.size W5.drew w6 → Blk w6 r 109 #[.pointer (some ⟨b, f, none⟩), .slice (some ⟨pb, po, none⟩) n pc, .int .i64 (z : Int)] ∧
                  Blk (w6.setCell ⟨r, 2, none⟩ (.int .i64 ((z : Int) + (y.pw : Int)))) r 109 #[.pointer (some ⟨b, f, none⟩), .slice (some ⟨pb, po, none⟩) n pc, .int .i64 ((o + pws (x.kids.take (j + 1)) : Nat) : Int)] ∧ Below r w (w6.setCell ⟨r, 2, none⟩ (.int .i64 ((z : Int) + (y.pw : Int))))) := fun w6 b6 => by
                have hb6 : Below W5.heap.size W5 w6 := (Below.refl _ W5).drew.trans b6
                have hk6 := hbl5.same (hb6.block r (by omega))
                refine ⟨hk6, ?_, (hbw.trans (hb6.mono (by omega))).setCell (p := ⟨r, 2, none⟩) (Nat.le_refl _) _⟩
                rw [hz2, Int.natCast_add]
                simpa using hk6.set 2 (.int .i64 ((z : Int) + (y.pw : Int)))
              have g0 := k5'.cell 0
              have g1 := k5'.cell 1
              have g2 := k5'.cell 2
              have g3 := k5'.cell 3
              have g4 := hbl5.cell 2
              obtain ⟨yi, hyi⟩ : ∃ v, y.id = v := ⟨_, rfl⟩
              obtain ⟨yk, hyk⟩ : ∃ v, y.kind = v := ⟨_, rfl⟩
              obtain ⟨yt, hyt⟩ : ∃ v, y.text = v := ⟨_, rfl⟩
              obtain ⟨yp, hyp⟩ : ∃ v, y.pw = v := ⟨_, rfl⟩
              unfold ndc at g0 g1 g2 g3 hW5
              unfold ndv at HWI
              simp only [List.getElem?_toArray, List.getElem?_cons_zero, List.getElem?_cons_succ] at g0 g1 g2 g3 g4
              rw [hyi] at g0 d0 HWI hW5
              rw [hyk] at g1 d1 HWI hW5
              rw [hyt] at g2 d2 HWI hW5
              rw [hyp] at HWI HNX hzy
              have m3 : IntKind.i64.wrap ((z : Int) + (yp : Int)) = (z : Int) + (yp : Int) := by simp [IntKind.wrap, IntKind.signed, IntKind.bits]; omega
              have HW5 := Lib.hid hW5
              clear hjx hb2 hku hcl hy hz' hz2 hW5 b5 k5' hbw hbl5 hyi hyk hyt hyp hsub hkcnt hpk hpl hko'
              go_wp2_with fail
              rw [HW5.out]
              go_region_law (first | (go_simp; go_at_call 118; refine HWI.out.mono ?_; rintro e w6 ⟨rfl, b6⟩; obtain ⟨hk6, hn6⟩ := HNX.out w6 b6; have x2 := hk6.cell 2; have xf := hk6.frozen 2; have HN6 := Lib.hid hn6; simp only [List.getElem?_toArray, List.getElem?_cons_zero, List.getElem?_cons_succ] at x2; clear b6 hk6 hn6))
              all_goals
                go_wp2
                go_roundw
                case rel => exact ⟨j + 1, by go_num, by omega, HN6⟩
                case measure => simp [intOf]; omega
            · have hjn2 : ¬ ((j : Int) < (K : Int)) := by omega
              obtain rfl : j = K := by omega
              obtain ⟨hb6, ho6⟩ := HJ.out
              have v0 := hb6.cell 0
              have vf := hb6.frozen 0
              simp only [List.getElem?_toArray, List.getElem?_cons_zero] at v0
              obtain ⟨hK, hgn⟩ := HSN2.out
              have HNX : Hid (FiS ad t zs w r (i + 1) (.slice (some ⟨pb, po, none⟩) n pc) x.kids[j] (o + pws (x.kids.take j)) (wr.setCell ⟨r, 0, none⟩ (.pointer (some ⟨kb, ko + j * 4, none⟩)))) := by
                refine ⟨hgn, ?_, ho6.setCell (p := ⟨r, 0, none⟩) (Nat.le_refl _) _⟩
                rw [HADK.out]
                simpa using hb6.set 0 (.pointer (some ⟨kb, ko + j * 4, none⟩))
              obtain ⟨X, hX⟩ : ∃ X, x.kids[j] = X := ⟨_, rfl⟩
              obtain ⟨O, hO⟩ : ∃ O, o + pws (x.kids.take j) = O := ⟨_, rfl⟩
              rw [hX, hO] at HNX
              have HX := Lib.hid hX
              clear hb6 ho6 hgn hX hO
              go_wp2
              go_roundw
              case rel => exact ⟨i + 1, X, O, by go_num, by omega, HNX⟩
              case measure => simp [intOf]; omega
        · have k2 : (m : Int) ≤ k := by omega
          have HE := Lib.hid (HNONE.out (by omega))
          go_wp2_with fail
          have z0 := HB2.out.cell 0
          have z1 := HB2.out.cell 1
          have z2 := HB2.out.cell 2
          simp only [List.getElem?_toArray, List.getElem?_cons_zero, List.getElem?_cons_succ] at z0 z1 z2
          refine bodyPost_ret (v := .tuple #[.agg #[.pointer none, .slice none 0 0, .int .i64 0], .bool false]) (by simp [results, Tryd.results99, go_sem, z0, z1, z2]) rfl HE.out
    · have hin2 : ¬ ((i : Int) < (n : Int)) := by omega
      obtain rfl : i = n := by omega
      have hall : zs.take i = zs := List.take_of_length_le (Nat.le_of_eq HN.out)
      have hget := HS.out.get
      rw [hall] at had hget
      have hfin : FindP ad t zs w (.returned (.tuple #[.agg #[.pointer (some ⟨b, f, none⟩), .slice pa i pc, .int .i64 (o : Int)], .bool true])) (((wr.setCell ⟨r, 0, none⟩ (.pointer (some ⟨b, f, none⟩))).setCell ⟨r, 1, none⟩ (.slice pa i pc)).setCell ⟨r, 2, none⟩ (.int .i64 (o : Int))) := by
        refine ⟨?_, .inl ⟨x, o, pa, i, pc, hget, by rw [had]⟩⟩
        rw [HR.out]
        exact ((HS.out.o.setCell (p := ⟨r, 0, none⟩) (Nat.le_refl _) _).setCell (p := ⟨r, 1, none⟩) (Nat.le_refl _) _).setCell (p := ⟨r, 2, none⟩) (Nat.le_refl _) _
      have hblk2 : Blk (((wr.setCell ⟨r, 0, none⟩ (.pointer (some ⟨b, f, none⟩))).setCell ⟨r, 1, none⟩ (.slice pa i pc)).setCell ⟨r, 2, none⟩ (.int .i64 (o : Int))) r 109 #[.pointer (some ⟨b, f, none⟩), .slice pa i pc, .int .i64 (o : Int)] := by
        simpa using ((hblk.set 0 (.pointer (some ⟨b, f, none⟩))).set 1 (.slice pa i pc)).set 2 (.int .i64 (o : Int))
      have HE := Lib.hid hfin; have HB2 := Lib.hid hblk2
      clear hall hget had hfin hblk2 hTx hkv hads hcell hblk hi
      go_wp2_with fail
      have z0 := HB2.out.cell 0
      have z1 := HB2.out.cell 1
      have z2 := HB2.out.cell 2
      simp only [List.getElem?_toArray, List.getElem?_cons_zero, List.getElem?_cons_succ] at z0 z1 z2
      refine bodyPost_ret (v := .tuple #[.agg #[.pointer (some ⟨b, f, none⟩), .slice pa i pc, .int .i64 (o : Int)], .bool true]) (by simp [results, Tryd.results99, go_sem, z0, z1, z2]) rfl HE.out

end Go.Proofs.YtgfhhpodcnohpaaDoor

/- The program's Get. Conditions: trees of at most 100000 nodes and 1000000000 bytes, paths of at most 100000 indices. -/
namespace Go.Proofs.YtgfhhpodcnohpaaDoor
open Go.RowKit Go.Shelf
set_option linter.unusedVariables false

/-- What Get hands back. -/
def GetP (t : Nd) (zs : List Int) (w : World) (e : Ending) (w' : World) : Prop := Below w.heap.size w w' ∧
  ((∃ (x : Nd) (o : Nat) (a : Option Addr) (c : Nat), getN t zs = some (x, o) ∧ e = .returned (.tuple #[ndv x a x.kids.length c, .int .i64 (o : Int), .bool true]) ∧ KV (fun b => w.heap.size ≤ b) w' a x.kids.length c x.kids) ∨
   (getN t zs = none ∧ e = .returned (.tuple #[.agg #[.int .i64 0, .int .i64 0, .string ⟨#[]⟩, .slice none 0 0], .int .i64 0, .bool false])))

set_option maxRecDepth 100000 in
set_option maxHeartbeats 4000000 in
theorem pget_any (t : Nd) (a : Option Addr) (n cap : Nat) (pa : Option Addr) (pc : Nat) (zs : List Int) (w : World) (G : Nat → Prop) (hK : KV G w a n cap t.kids) (hc : t.cnt ≤ 100000) (hw : t.pw ≤ 1000000000) (hp : Sli .i64 w pa pc zs) (hz : zs.length ≤ 100000) :
    Calls Tryd.prog 71 #[ndv t a n cap, .slice pa zs.length pc] w (GetP t zs w) := by
  obtain ⟨q, hq⟩ : ∃ q, w.heap.size = q := ⟨_, rfl⟩
  obtain ⟨W2, hW2⟩ : ∃ W, (w.alloc (.cells (ndc t a n cap) 60)).alloc (.cells #[.int .i64 0, .int .i64 0, .string ⟨#[]⟩, .slice none 0 0] 60) = W := ⟨_, rfl⟩
  have b2 : Below q w W2 := by rw [← hW2, ← hq]; exact ((Below.refl _ _).alloc (Nat.le_refl _) _).alloc (by simp) _
  have k1 : Blk W2 q 60 (ndc t a n cap) := by rw [← hW2, ← hq]; exact (Blk.new _ _ _).alloc _
  have k2 : Blk W2 (q + 1) 60 #[.int .i64 0, .int .i64 0, .string ⟨#[]⟩, .slice none 0 0] := by
    rw [← hW2, ← hq]
    have := Blk.new (w.alloc (.cells (ndc t a n cap) 60)) 60 #[.int .i64 0, .int .i64 0, .string ⟨#[]⟩, .slice none 0 0]
    rw [World.size_alloc] at this
    exact this
  have s2 : W2.heap.size = q + 2 := by rw [← hW2, ← hq]; simp
  obtain ⟨ad, had, hTA⟩ := root_ta hK (by rw [hq]; exact b2) k1
  have HFI := Lib.hid (pfind_any ad t pa pc zs W2 hTA (hp.below (by rw [hq]; exact b2)) hz hc hw)
  obtain ⟨pn, hpn⟩ : ∃ z, zs.length = z := ⟨_, rfl⟩
  rw [had] at HFI
  rw [hpn] at HFI ⊢
  obtain ⟨id, hid⟩ : ∃ x, t.id = x := ⟨_, rfl⟩
  obtain ⟨kd, hkd⟩ : ∃ x, t.kind = x := ⟨_, rfl⟩
  obtain ⟨tx, htx⟩ : ∃ x, t.text = x := ⟨_, rfl⟩
  unfold ndv ndc at *
  rw [hid, hkd, htx] at hW2 ⊢
  have HW2 := Lib.hid hW2; have HQ := Lib.hid hq; have HK2 := Lib.hid k2; have HB2 := Lib.hid b2; have HS2 := Lib.hid s2; have HTA := Lib.hid hTA; have HC := Lib.hid hc
  clear hK hc hw hp hz hW2 b2 k1 k2 s2 hid hkd htx hq had hTA hpn
  go_enter Tryd.func71, Tryd.ntmps71
  go_wp2_with fail
  rw [HW2.out, HQ.out]
  refine HFI.out.mono ?_
  rintro e w3 ⟨b3, ⟨x, o, fa, fn, fc, hg, rfl⟩ | ⟨hg, rfl⟩⟩
  · have hTx := TA.get zs t [] x o (HTA.out.on b3) hg
    rw [List.nil_append] at hTx
    obtain ⟨b, f, ka, kc, had, hb, hkv, _, hcell⟩ := hTx.cells
    obtain ⟨W4, hW4⟩ : ∃ W, w3.alloc (.cells #[.pointer (some ⟨b, f, none⟩), .slice fa fn fc, .int .i64 (o : Int)] 109) = W := ⟨_, rfl⟩
    have b4 : Below w3.heap.size w3 W4 := by rw [← hW4]; exact (Below.refl _ _).alloc (Nat.le_refl _) _
    have k4 : Blk W4 w3.heap.size 109 #[.pointer (some ⟨b, f, none⟩), .slice fa fn fc, .int .i64 (o : Int)] := by rw [← hW4]; exact Blk.new _ _ _
    have s4 : w3.heap.size < W4.heap.size := by rw [← hW4]; simp
    have hz3 := b3.size
    have hs2 := HS2.out
    have hkq : Blk W4 (q + 1) 60 #[.int .i64 0, .int .i64 0, .string ⟨#[]⟩, .slice none 0 0] := (HK2.out.same (b3.block _ HK2.out.lt)).same (b4.block _ (by omega))
    have hbx := getN_bd _ t x o hg
    have hCC := HC.out
    have HCL := Lib.hid (clone_any x.dep x ka x.kids.length kc W4.drew (fun _ => True) (Nat.le_refl _) ((hkv.on b4).keep (Nat.le_refl _) (fun _ _ _ => rfl) (fun _ h _ => h)) (by omega))
    obtain ⟨d0, d1, d2, d3⟩ := hcell W4 (b4.block b hb)
    have g0 := k4.cell 0
    have g2 := k4.cell 2
    simp only [List.getElem?_toArray, List.getElem?_cons_zero, List.getElem?_cons_succ] at g0 g2
    have HB4 : Hid (Below q w W4) := (HB2.out.trans (b3.mono (by omega))).trans (b4.mono (by omega))
    have HFIN : Hid (∀ (a' : Option Addr) (c' : Nat) (w6 : World), KI x.dep w6 W4.drew.heap.size w6.heap.size a' x.kids.length c' x.kids → Below W4.drew.heap.size W4.drew w6 →
        Blk w6 (q + 1) 60 #[.int .i64 0, .int .i64 0, .string ⟨#[]⟩, .slice none 0 0] ∧ w6.cell? ⟨w3.heap.size, 0, none⟩ = some (.pointer (some ⟨b, f, none⟩)) ∧ w6.cell? ⟨w3.heap.size, 2, none⟩ = some (.int .i64 (o : Int)) ∧
        Blk ((((w6.setCell ⟨q + 1, 0, none⟩ (.int .i64 x.id)).setCell ⟨q + 1, 1, none⟩ (.int .i64 x.kind)).setCell ⟨q + 1, 2, none⟩ (.string x.text)).setCell ⟨q + 1, 3, none⟩ (.slice a' x.kids.length c')) (q + 1) 60 (ndc x a' x.kids.length c') ∧
        GetP t zs w (.returned (.tuple #[ndv x a' x.kids.length c', .int .i64 (o : Int), .bool true])) ((((w6.setCell ⟨q + 1, 0, none⟩ (.int .i64 x.id)).setCell ⟨q + 1, 1, none⟩ (.int .i64 x.kind)).setCell ⟨q + 1, 2, none⟩ (.string x.text)).setCell ⟨q + 1, 3, none⟩ (.slice a' x.kids.length c'))) := fun a' c' w6 hki b6 => by
      have b6' : Below W4.heap.size W4 w6 := (Below.refl _ W4).drew.trans b6
      have hkq6 := hkq.same (b6'.block _ hkq.lt)
      have k46 := k4.same (b6'.block _ k4.lt)
      obtain ⟨hbb, hss⟩ := set4 w6 (q + 1) 0 (.int .i64 x.id) (.int .i64 x.kind) (.string x.text) (.slice a' x.kids.length c')
      simp only [Nat.zero_add] at hbb hss
      refine ⟨hkq6, k46.cell 0, k46.cell 2, by simpa using (((hkq6.set 0 (.int .i64 x.id)).set 1 (.int .i64 x.kind)).set 2 (.string x.text)).set 3 (.slice a' x.kids.length c'), ?_, .inl ⟨x, o, a', c', hg, rfl, ?_⟩⟩
      · rw [HQ.out]
        exact ((((HB4.out.trans (b6'.mono (by omega))).setCell (p := ⟨q + 1, 0, none⟩) (by show q ≤ q + 1; omega) _).setCell (p := ⟨q + 1, 1, none⟩) (by show q ≤ q + 1; omega) _).setCell (p := ⟨q + 1, 2, none⟩) (by show q ≤ q + 1; omega) _).setCell (p := ⟨q + 1, 3, none⟩) (by show q ≤ q + 1; omega) _
      · have h1 : q + 2 ≤ W4.drew.heap.size := by show q + 2 ≤ W4.heap.size; omega
        rw [HQ.out]
        exact (hki.kv x.dep (G := fun b => q + 2 ≤ b) (fun b hb _ => by omega)).keep (by omega) (fun b hb _ => hbb b (by omega)) (fun b hb _ => by omega)
    obtain ⟨kn, hkn⟩ : ∃ v, x.kids.length = v := ⟨_, rfl⟩
    obtain ⟨xi, hxi⟩ : ∃ v, x.id = v := ⟨_, rfl⟩
    obtain ⟨xk, hxk⟩ : ∃ v, x.kind = v := ⟨_, rfl⟩
    obtain ⟨xt, hxt⟩ : ∃ v, x.text = v := ⟨_, rfl⟩
    have hadf : (ad (nat zs)).1 = b ∧ (ad (nat zs)).2 = f := by rw [had]; exact ⟨rfl, rfl⟩
    rw [hadf.1, hadf.2]
    unfold ndv ndc at HFIN
    unfold ndv at HCL
    rw [hkn] at d3 HCL HFIN
    rw [hxi] at d0 HCL HFIN
    rw [hxk] at d1 HCL HFIN
    rw [hxt] at d2 HCL HFIN
    have hne1 : ¬ (q + 1 = w3.heap.size) := by omega
    have hne2 : ¬ (w3.heap.size = q + 1) := by omega
    have HW4 := Lib.hid hW4
    clear hTx had hkv hcell hW4 b4 k4 hkq hbx hCC hkn hxi hxk hxt hadf hg b3 hz3 hs2
    go_wp2_with fail
    rw [HW4.out]
    go_region_law (first | (go_simp; go_at_call 100; refine HCL.out.mono ?_; rintro e w6 ⟨a', c', rfl, hki, b6⟩; obtain ⟨hk6, x0, x2, hn6⟩ := HFIN.out a' c' w6 hki b6; have y0 := hk6.cell 0; have y1 := hk6.cell 1; have y2 := hk6.cell 2; have y3 := hk6.cell 3; have f0 := hk6.frozen 0; have f1 := hk6.frozen 1; have f2 := hk6.frozen 2; have f3 := hk6.frozen 3; have HN6 := Lib.hid hn6; simp only [List.getElem?_toArray, List.getElem?_cons_zero, List.getElem?_cons_succ] at y0 y1 y2 y3; clear hki b6 hk6 hn6))
    all_goals
      obtain ⟨hz, hfin⟩ := HN6.out
      have z0 := hz.cell 0
      have z1 := hz.cell 1
      have z2 := hz.cell 2
      have z3 := hz.cell 3
      simp only [List.getElem?_toArray, List.getElem?_cons_zero, List.getElem?_cons_succ] at z0 z1 z2 z3
      have HF := Lib.hid hfin
      clear hz hfin
      go_wp2_with fail
      refine bodyPost_ret (v := .tuple #[.agg #[.int .i64 xi, .int .i64 xk, .string xt, .slice a' kn c'], .int .i64 (o : Int), .bool true]) (by simp [results, Tryd.results71, go_sem, z0, z1, z2, z3]) rfl HF.out
  · obtain ⟨W4, hW4⟩ : ∃ W, w3.alloc (.cells #[.pointer none, .slice none 0 0, .int .i64 0] 109) = W := ⟨_, rfl⟩
    have b4 : Below w3.heap.size w3 W4 := by rw [← hW4]; exact (Below.refl _ _).alloc (Nat.le_refl _) _
    have hz3 := b3.size
    have hs2 := HS2.out
    have hkq : Blk W4 (q + 1) 60 #[.int .i64 0, .int .i64 0, .string ⟨#[]⟩, .slice none 0 0] := (HK2.out.same (b3.block _ HK2.out.lt)).same (b4.block _ (by omega))
    have hfin : GetP t zs w (.returned (.tuple #[.agg #[.int .i64 0, .int .i64 0, .string ⟨#[]⟩, .slice none 0 0], .int .i64 0, .bool false])) ((((W4.setCell ⟨q + 1, 0, none⟩ (.int .i64 0)).setCell ⟨q + 1, 1, none⟩ (.int .i64 0)).setCell ⟨q + 1, 2, none⟩ (.string ⟨#[]⟩)).setCell ⟨q + 1, 3, none⟩ (.slice none 0 0)) := by
      refine ⟨?_, .inr ⟨hg, rfl⟩⟩
      rw [HQ.out]
      exact (((((HB2.out.trans (b3.mono (by omega))).trans (b4.mono (by omega))).setCell (p := ⟨q + 1, 0, none⟩) (by show q ≤ q + 1; omega) _).setCell (p := ⟨q + 1, 1, none⟩) (by show q ≤ q + 1; omega) _).setCell (p := ⟨q + 1, 2, none⟩) (by show q ≤ q + 1; omega) _).setCell (p := ⟨q + 1, 3, none⟩) (by show q ≤ q + 1; omega) _
    have hz : Blk ((((W4.setCell ⟨q + 1, 0, none⟩ (.int .i64 0)).setCell ⟨q + 1, 1, none⟩ (.int .i64 0)).setCell ⟨q + 1, 2, none⟩ (.string ⟨#[]⟩)).setCell ⟨q + 1, 3, none⟩ (.slice none 0 0)) (q + 1) 60 #[.int .i64 0, .int .i64 0, .string ⟨#[]⟩, .slice none 0 0] := by simpa using (((hkq.set 0 (.int .i64 0)).set 1 (.int .i64 0)).set 2 (.string ⟨#[]⟩)).set 3 (.slice none 0 0)
    have y0 := hkq.cell 0
    have y1 := hkq.cell 1
    have y2 := hkq.cell 2
    have y3 := hkq.cell 3
    have f0 := hkq.frozen 0
    have f1 := hkq.frozen 1
    have f2 := hkq.frozen 2
    have f3 := hkq.frozen 3
    simp only [List.getElem?_toArray, List.getElem?_cons_zero, List.getElem?_cons_succ] at y0 y1 y2 y3
    have HZ := Lib.hid hz; have HF := Lib.hid hfin
    clear hkq hfin hz b4 b3 hz3 hs2
    subst hW4
    go_wp2_with fail
    have z0 := HZ.out.cell 0
    have z1 := HZ.out.cell 1
    have z2 := HZ.out.cell 2
    have z3 := HZ.out.cell 3
    simp only [List.getElem?_toArray, List.getElem?_cons_zero, List.getElem?_cons_succ] at z0 z1 z2 z3
    refine bodyPost_ret (v := .tuple #[.agg #[.int .i64 0, .int .i64 0, .string ⟨#[]⟩, .slice none 0 0], .int .i64 0, .bool false]) (by simp [results, Tryd.results71, go_sem, z0, z1, z2, z3]) rfl HF.out

end Go.Proofs.YtgfhhpodcnohpaaDoor

/- The tree of the documented examples. It has no conditions. -/
namespace Go.Proofs.YtgfhhpodcnohpaaDoor
open Go.RowKit Go.Shelf
set_option linter.unusedVariables false

/-- The tree of the documented examples. -/
def exT : Nd := .mk 0 37 ⟨#[]⟩ [.mk 0 50 ⟨#[]⟩ [.mk 0 2 ⟨#[97]⟩ []], .mk 0 6 ⟨#[43]⟩ [], .mk 0 49 ⟨#[]⟩ [.mk 0 0 ⟨#[32]⟩ [], .mk 0 4 ⟨#[49]⟩ []]]

set_option maxRecDepth 100000 in
set_option maxHeartbeats 4000000 in
theorem example_any (w : World) :
    Calls Tryd.prog 69 #[] w fun e w' => ∃ a, e = .returned (ndv exT a 3 3) ∧ KV (fun b => w.heap.size ≤ b) w' a 3 3 exT.kids ∧ Below w.heap.size w w' := by
  go_enter Tryd.func69, Tryd.ntmps69
  go_wp2_with fail
  obtain ⟨q, hq⟩ : ∃ q, w.heap.size = q := ⟨_, rfl⟩
  rw [hq]
  obtain ⟨v0, h0⟩ : ∃ c : Array Value, c = #[.int .i64 0, .int .i64 37, .string ⟨#[]⟩, .slice (some ⟨q + 1 + 1 + 1 + 1 + 1, 0, none⟩) 3 3] := ⟨_, rfl⟩
  obtain ⟨v1, h1⟩ : ∃ c : Array Value, c = #[.int .i64 0, .int .i64 2, .string ⟨#[97]⟩, .slice none 0 0] := ⟨_, rfl⟩
  obtain ⟨v2, h2⟩ : ∃ c : Array Value, c = #[.int .i64 0, .int .i64 50, .string ⟨#[]⟩, .slice (some ⟨q + 1, 0, none⟩) 1 1] := ⟨_, rfl⟩
  obtain ⟨v3, h3⟩ : ∃ c : Array Value, c = #[.int .i64 0, .int .i64 0, .string ⟨#[32]⟩, .slice none 0 0, .int .i64 0, .int .i64 4, .string ⟨#[49]⟩, .slice none 0 0] := ⟨_, rfl⟩
  obtain ⟨v4, h4⟩ : ∃ c : Array Value, c = #[.int .i64 0, .int .i64 49, .string ⟨#[]⟩, .slice (some ⟨q + 1 + 1 + 1, 0, none⟩) 2 2] := ⟨_, rfl⟩
  obtain ⟨v5, h5⟩ : ∃ c : Array Value, c = #[.int .i64 0, .int .i64 50, .string ⟨#[]⟩, .slice (some ⟨q + 1, 0, none⟩) 1 1, .int .i64 0, .int .i64 6, .string ⟨#[43]⟩, .slice none 0 0, .int .i64 0, .int .i64 49, .string ⟨#[]⟩, .slice (some ⟨q + 1 + 1 + 1, 0, none⟩) 2 2] := ⟨_, rfl⟩
  rw [← h0, ← h1, ← h2, ← h3, ← h4, ← h5]
  obtain ⟨W, hW⟩ : ∃ W, (((((w.alloc (.cells v0 60)).alloc (.cells v1 60)).alloc (.cells v2 60)).alloc (.cells v3 60)).alloc (.cells v4 60)).alloc (.cells v5 60) = W := ⟨_, rfl⟩
  have k0 : Blk W q 60 v0 := by rw [← hW, ← hq]; exact (((((Blk.new w _ _).alloc _).alloc _).alloc _).alloc _).alloc _
  have k1 : Blk W (q + 1) 60 v1 := by
    have := Blk.new (w.alloc (.cells v0 60)) 60 v1
    simp only [World.size_alloc, hq] at this
    rw [← hW]; exact (((this.alloc _).alloc _).alloc _).alloc _
  have k3 : Blk W (q + 1 + 1 + 1) 60 v3 := by
    have := Blk.new (((w.alloc (.cells v0 60)).alloc (.cells v1 60)).alloc (.cells v2 60)) 60 v3
    simp only [World.size_alloc, hq] at this
    rw [← hW]; exact (this.alloc _).alloc _
  have k5 : Blk W (q + 1 + 1 + 1 + 1 + 1) 60 v5 := by
    have := Blk.new (((((w.alloc (.cells v0 60)).alloc (.cells v1 60)).alloc (.cells v2 60)).alloc (.cells v3 60)).alloc (.cells v4 60)) 60 v5
    simp only [World.size_alloc, hq] at this
    rw [← hW]; exact this
  have hb : Below q w W := by
    rw [← hW, ← hq]
    exact ((((((Below.refl _ w).alloc (Nat.le_refl _) _).alloc (by simp) _).alloc (by simp; omega) _).alloc (by simp; omega) _).alloc (by simp; omega) _).alloc (by simp; omega) _
  rw [hW]
  have r0 := k0.cell 0
  have r1 := k0.cell 1
  have r2 := k0.cell 2
  have r3 := k0.cell 3
  have kz1 := k1.lt
  have kz3 := k3.lt
  have kz5 := k5.lt
  subst h0 h1 h3 h5
  simp only [List.getElem?_toArray, List.getElem?_cons_zero, List.getElem?_cons_succ] at r0 r1 r2 r3
  refine bodyPost_ret (v := .agg #[.int .i64 0, .int .i64 37, .string ⟨#[]⟩, .slice (some ⟨q + 1 + 1 + 1 + 1 + 1, 0, none⟩) 3 3]) (by simp [results, Tryd.results69, go_sem, r0, r1, r2, r3]) rfl ?_
  refine ⟨_, rfl, ?_, hb⟩
  refine .cons (fun k => if k = 0 then some ⟨q + 1, 0, none⟩ else if k = 1 then none else some ⟨q + 1 + 1 + 1, 0, none⟩) (fun k => if k = 0 then 1 else if k = 1 then 0 else 2) (fun k => if k = 0 then 1 else if k = 1 then 0 else 2) rfl (by omega) (by omega) (by omega) kz5 (by omega) (fun k hk => ?_) (fun k hk => ?_)
  · match k, hk with
    | 0, _ => exact ⟨k5.cell 0, k5.cell 1, k5.cell 2, k5.cell 3⟩
    | 1, _ => exact ⟨k5.cell 4, k5.cell 5, k5.cell 6, k5.cell 7⟩
    | 2, _ => exact ⟨k5.cell 8, k5.cell 9, k5.cell 10, k5.cell 11⟩
  · match k, hk with
    | 0, _ =>
      refine KV.cons (fun _ => none) (fun _ => 0) (fun _ => 0) rfl (by simp) (by simp) (by simp) kz1 (by omega) (fun k hk => ?_) (fun k hk => ?_)
      · match k, hk with
        | 0, _ => exact ⟨k1.cell 0, k1.cell 1, k1.cell 2, k1.cell 3⟩
      · match k, hk with
        | 0, _ => exact .nil (fun _ => rfl) (by omega)
    | 1, _ => exact .nil (fun _ => rfl) (by simp)
    | 2, _ =>
      refine KV.cons (fun _ => none) (fun _ => 0) (fun _ => 0) rfl (by simp) (by simp) (by simp) kz3 (by omega) (fun k hk => ?_) (fun k hk => ?_)
      · match k, hk with
        | 0, _ => exact ⟨k3.cell 0, k3.cell 1, k3.cell 2, k3.cell 3⟩
        | 1, _ => exact ⟨k3.cell 4, k3.cell 5, k3.cell 6, k3.cell 7⟩
      · match k, hk with
        | 0, _ => exact .nil (fun _ => rfl) (by omega)
        | 1, _ => exact .nil (fun _ => rfl) (by omega)

theorem ex_lspots : lspots exT = [⟨[0, 0], .mk 0 2 ⟨#[97]⟩ [], 0⟩, ⟨[1], .mk 0 6 ⟨#[43]⟩ [], 1⟩, ⟨[2, 0], .mk 0 0 ⟨#[32]⟩ [], 2⟩, ⟨[2, 1], .mk 0 4 ⟨#[49]⟩ [], 3⟩] := by
  simp [lspots, exT, spots, spotsL, Nd.leaf, Nd.kind, Nd.pw, pws, ByteArray.size]
theorem ex_cnt : exT.cnt = 7 := by simp [exT, Nd.cnt, cnts]
theorem ex_dep : exT.dep = 3 := by simp [exT, Nd.dep, deps]
theorem ex_pw : exT.pw = 4 := by simp [exT, Nd.pw, pws, ByteArray.size]
theorem ex_text : bs (ltx (lspots exT)) = ⟨#[97, 43, 32, 49]⟩ := by
  rw [ex_lspots]; rfl
theorem ex_get : getN exT [2] = some (.mk 0 49 ⟨#[]⟩ [.mk 0 0 ⟨#[32]⟩ [], .mk 0 4 ⟨#[49]⟩ []], 2) := by
  simp [getN, exT, Nd.kids, pws, Nd.pw, ByteArray.size]
theorem ex_path2 {w w' : World} {e : Ending} (h : PathP exT 2 w e w') : ∃ a c, e = .returned (.tuple #[.slice a 2 c, .bool true]) ∧ Sli .i64 w' a c [2, 0] ∧ Below w.heap.size w w' := by
  obtain ⟨hb, ⟨k, s, v, h1, h2, h3, rfl, h5⟩ | ⟨h1, rfl⟩⟩ := h
  · rw [ex_lspots] at h1 h2
    have hs : s = ⟨[2, 0], .mk 0 0 ⟨#[32]⟩ [], 2⟩ := by
      match k, h1 with
      | 0, h1 => simp at h1; subst h1; simp [Hit, Nd.text, ByteArray.size] at h3
      | 1, h1 => simp at h1; subst h1; simp [Hit, Nd.text, ByteArray.size] at h3
      | 2, h1 => simp at h1; exact h1.symm
      | 3, h1 => simp at h1; subst h1; simp [Hit, Nd.text, ByteArray.size] at h3
      | n + 4, h1 => simp at h1
    subst hs
    obtain ⟨_, a, c, rfl, hs⟩ := sli_of_own (zs := [2, 0]) (by simpa [ints] using h5)
    exact ⟨a, c, rfl, hs, hb⟩
  · exact absurd ⟨by simp, by simp [Nd.text, ByteArray.size]⟩ (h1 ⟨[2, 0], .mk 0 0 ⟨#[32]⟩ [], 2⟩ (by rw [ex_lspots]; simp))
theorem ex_path4 {w w' : World} {e : Ending} (h : PathP exT 4 w e w') : e = .returned (.tuple #[.slice none 0 0, .bool false]) ∧ Below w.heap.size w w' := by
  obtain ⟨hb, ⟨k, s, v, h1, h2, h3, rfl, h5⟩ | ⟨h1, rfl⟩⟩ := h
  · rw [ex_lspots] at h1
    exfalso
    match k, h1 with
    | 0, h1 => simp at h1; subst h1; simp [Hit, Nd.text, ByteArray.size] at h3
    | 1, h1 => simp at h1; subst h1; simp [Hit, Nd.text, ByteArray.size] at h3
    | 2, h1 => simp at h1; subst h1; simp [Hit, Nd.text, ByteArray.size] at h3
    | 3, h1 => simp at h1; subst h1; simp [Hit, Nd.text, ByteArray.size] at h3
    | n + 4, h1 => simp at h1
  · exact ⟨rfl, hb⟩

end Go.Proofs.YtgfhhpodcnohpaaDoor

/- SameInts compares. Conditions: at most 100000 elements. -/
namespace Go.Proofs.YtgfhhpodcnohpaaDoor
open Go.RowKit Go.Shelf

set_option maxRecDepth 100000 in
set_option maxHeartbeats 1000000 in
theorem sameInts_any (a b : Option Addr) (ca cb : Nat) (xs ys : List Int) (w : World) (hx : Sli .i64 w a ca xs) (hy : Sli .i64 w b cb ys) (hl : xs.length ≤ 100000) (_hl2 : ys.length ≤ 100000) :
    Calls Tryd.prog 74 #[.slice a xs.length ca, .slice b ys.length cb] w fun e w' => e = .returned (.bool (decide (xs = ys))) ∧ Below w.heap.size w w' := by
  by_cases hne : xs.length = ys.length
  · have HX := Lib.hid hx.cells
    have HY := Lib.hid hy.cells
    obtain ⟨n, hn⟩ : ∃ n, xs.length = n := ⟨_, rfl⟩
    rw [← hne, hn]
    have hn2 : ys.length = n := by omega
    have HN := Lib.hid hn
    have HN2 := Lib.hid hn2
    have hln : n ≤ 100000 := by omega
    clear hx hy hne hn hn2 hl
    go_enter Tryd.func74, Tryd.ntmps74
    go_wp2
    go_loopw [5] (fun i wr => ∃ k : Nat, k ≤ n ∧ i = .int .i64 k ∧ xs.take k = ys.take k ∧ Below w.heap.size w wr) (fun i _ => n - (intOf i).toNat)
    case atStart => exact ⟨0, Nat.zero_le _, rfl, rfl, Below.refl _ _⟩
    case round =>
      obtain ⟨k, hk, rfl, htk, hB⟩ := hrel
      have HTK := Lib.hid htk
      clear htk
      by_cases hlt : k < n
      · have HX2 := HX.out.below hB
        have HY2 := HY.out.below hB
        rcases HX2 with h | ⟨b1, o1, h1, _, hc1⟩
        · exact absurd (congrArg List.length h) (by rw [HN.out]; simp; omega)
        rcases HY2 with h | ⟨b2, o2, h2, _, hc2⟩
        · exact absurd (congrArg List.length h) (by rw [HN2.out]; simp; omega)
        have hk1 := hc1 k (by rw [HN.out]; omega)
        have hk2 := hc2 k (by rw [HN2.out]; omega)
        have hstep := take_step xs ys k (by rw [HN.out]; omega) (by rw [HN2.out]; omega) HTK.out
        have hstop := take_stop xs ys k (by rw [HN.out]; omega) (by rw [HN2.out]; omega)
        generalize xs[k]?.getD 0 = x at hk1 hstep hstop
        generalize ys[k]?.getD 0 = y at hk2 hstep hstop
        have HS := Lib.hid hstep
        have HS2 := Lib.hid hstop
        clear hc1 hc2 hstep hstop
        subst h1 h2
        by_cases hxy : x = y
        · have HXY := Lib.hid hxy
          have hq : (x != y) = false := by simp [hxy]
          clear hxy
          go_wp2
          go_quiet (fail)
          go_wp2
          go_roundw
          case rel => exact ⟨k + 1, by omega, by go_num, HS.out HXY.out, below_drewN hB _⟩
          case measure => simp [intOf]; omega
        · have HXY := Lib.hid hxy
          have hq : (x != y) = true := by simp [hxy]
          clear hxy
          go_wp2
          go_quiet (fail)
          go_wp2
          go_ret
          exact ⟨by rw [decide_eq_false (HS2.out HXY.out)]; rfl, below_drewN hB _⟩
      · have hkn : k = n := by omega
        subst hkn
        go_wp2
        go_ret
        exact ⟨by rw [decide_eq_true (by have := HTK.out; rwa [List.take_of_length_le (by rw [HN.out]; omega), List.take_of_length_le (by rw [HN2.out]; omega)] at this)]; rfl, hB⟩
  · have hq : ((xs.length : Int) != (ys.length : Int)) = true := by simp; omega
    have hf : decide (xs = ys) = false := decide_eq_false (fun h => hne (by rw [h]))
    rw [hf]
    clear hf hne
    go_enter Tryd.func74, Tryd.ntmps74
    go_wp2
    go_ret
    exact ⟨rfl, Below.refl _ _⟩

end Go.Proofs.YtgfhhpodcnohpaaDoor

/- The documented examples hold. It has no conditions. -/
namespace Go.Proofs.YtgfhhpodcnohpaaDoor
open Go.RowKit Go.Shelf
set_option linter.unusedVariables false

set_option maxRecDepth 100000 in
set_option maxHeartbeats 4000000 in
theorem slives_any (w : World) : Calls Tryd.prog 41 #[] w fun e w' => e = .returned (.bool true) ∧ Below w.heap.size w w' := by
  have HE := Lib.hid (example_any w)
  go_enter Tryd.func41, Tryd.ntmps41
  go_wp2_with fail
  refine HE.out.mono ?_
  rintro e w2 ⟨a, rfl, hk2, b2⟩
  obtain ⟨W3, hW3⟩ : ∃ W, w2.alloc (.cells (ndc exT a 3 3) 60) = W := ⟨_, rfl⟩
  have b3 : Below w2.heap.size w2 W3 := by rw [← hW3]; exact (Below.refl _ _).alloc (Nat.le_refl _) _
  have k3 : Blk W3 w2.heap.size 60 (ndc exT a 3 3) := by rw [← hW3]; exact Blk.new _ _ _
  have hk3 := hk2.on b3
  obtain ⟨q, hq⟩ : ∃ q, w2.heap.size = q := ⟨_, rfl⟩
  rw [hq] at k3
  have HX : Hid (∀ W, Below W3.heap.size W3 W → W.cell? ⟨q, 0, none⟩ = some (.int .i64 0) ∧ W.cell? ⟨q, 1, none⟩ = some (.int .i64 37) ∧ W.cell? ⟨q, 2, none⟩ = some (.string ⟨#[]⟩) ∧ W.cell? ⟨q, 3, none⟩ = some (.slice a 3 3) ∧ KV (fun b => w.heap.size ≤ b) W a 3 3 exT.kids ∧ Below w.heap.size w W ∧ q < W.heap.size) := fun W hW => by
    have kk := k3.same (hW.block q k3.lt)
    exact ⟨kk.cell 0, kk.cell 1, kk.cell 2, kk.cell 3, hk3.on hW, (b2.trans (b3.mono b2.size)).trans (hW.mono (by have := b2.size; have := b3.size; omega)), kk.lt⟩
  have HPA : Hid (∀ (o : Int) W, -9223372036854775808 ≤ o → o ≤ 9223372036854775807 → Below W3.heap.size W3 W → Calls Tryd.prog 70 #[.agg #[.int .i64 0, .int .i64 37, .string ⟨#[]⟩, .slice a 3 3], .int .i64 o] W (PathP exT o W)) := fun o W h1 h2 hW =>
    ppath_any exT a 3 3 o W _ (HX.out W hW).2.2.2.2.1 (by rw [ex_cnt]; omega) (by rw [ex_pw]; omega) ⟨h1, h2⟩
  have HTX : Hid (∀ W, Below W3.heap.size W3 W → Calls Tryd.prog 38 #[.agg #[.int .i64 0, .int .i64 37, .string ⟨#[]⟩, .slice a 3 3]] W fun e w' => e = .returned (.string ⟨#[97, 43, 32, 49]⟩) ∧ Below W.heap.size W w') := fun W hW => by
    have := ptext_any exT a 3 3 W _ (HX.out W hW).2.2.2.2.1 (by rw [ex_cnt]; omega) (by rw [ex_pw]; omega)
    rw [ex_text] at this
    exact this
  have HCO : Hid (∀ W, Below W3.heap.size W3 W → Calls Tryd.prog 72 #[.agg #[.int .i64 0, .int .i64 37, .string ⟨#[]⟩, .slice a 3 3]] W fun e w' => e = .returned (.int .i64 7) ∧ Below W.heap.size W w') := fun W hW => by
    have := pcount_any exT a 3 3 W _ (HX.out W hW).2.2.2.2.1 (by rw [ex_cnt]; omega) (by rw [ex_pw]; omega)
    rw [ex_cnt] at this
    exact this
  have HDE : Hid (∀ W, Below W3.heap.size W3 W → Calls Tryd.prog 73 #[.agg #[.int .i64 0, .int .i64 37, .string ⟨#[]⟩, .slice a 3 3]] W fun e w' => e = .returned (.int .i64 3) ∧ Below W.heap.size W w') := fun W hW => by
    have := pdepth_any exT a 3 3 W _ (HX.out W hW).2.2.2.2.1 (by rw [ex_cnt]; omega) (by rw [ex_pw]; omega)
    rw [ex_dep] at this
    exact this
  have HGE : Hid (∀ W (b c : Nat), Below W3.heap.size W3 W → Sli .i64 W (some ⟨b, 0, none⟩) c [2] → Calls Tryd.prog 71 #[.agg #[.int .i64 0, .int .i64 37, .string ⟨#[]⟩, .slice a 3 3], .slice (some ⟨b, 0, none⟩) 1 c] W fun e w' => ∃ a' c', e = .returned (.tuple #[.agg #[.int .i64 0, .int .i64 49, .string ⟨#[]⟩, .slice a' 2 c'], .int .i64 2, .bool true]) ∧ Below W.heap.size W w') := fun W b c hW hs => by
    refine (pget_any exT a 3 3 (some ⟨b, 0, none⟩) c [2] W _ (HX.out W hW).2.2.2.2.1 (by rw [ex_cnt]; omega) (by rw [ex_pw]; omega) hs (by simp)).mono ?_
    rintro e w' ⟨hb, ⟨x, o, a', c', hg, rfl, _⟩ | ⟨hg, _⟩⟩
    · rw [ex_get] at hg
      simp only [Option.some.injEq, Prod.mk.injEq] at hg
      obtain ⟨rfl, rfl⟩ := hg
      exact ⟨a', c', rfl, hb⟩
    · rw [ex_get] at hg; cases hg
  have HW3 : Hid (w2.alloc (.cells #[.int .i64 0, .int .i64 37, .string ⟨#[]⟩, .slice a 3 3] 60) = W3) := hW3
  have HQ := Lib.hid hq
  clear hk2 b2 hW3 b3 k3 hk3 hq
  go_wp2_with fail
  rw [show exT.id = 0 from rfl, show exT.kind = 37 from rfl, show exT.text = ⟨#[]⟩ from rfl, HW3.out, HQ.out]
  refine (HPA.out 2 W3 (by omega) (by omega) (Below.refl _ _)).mono ?_
  rintro e w4 h4
  obtain ⟨pa, pc, rfl, hs4, b4⟩ := ex_path2 h4
  obtain ⟨c0, c1, c2, c3, _, _, _⟩ := HX.out w4 b4
  have HS4 := Lib.hid hs4
  have HB4 := Lib.hid b4
  clear h4 hs4 b4
  go_wp2_with fail
  refine (HPA.out 4 w4 (by omega) (by omega) HB4.out).mono ?_
  rintro e w5 h5
  obtain ⟨rfl, b5'⟩ := ex_path4 h5
  have b5 : Below W3.heap.size W3 w5 := HB4.out.trans (b5'.mono HB4.out.size)
  have HS5 : Hid (Sli .i64 w5 pa pc [2, 0]) := HS4.out.below b5'
  obtain ⟨c0, c1, c2, c3, _, _, _⟩ := HX.out w5 b5
  have HB5 := Lib.hid b5
  clear h5 b5' b5 HS4
  obtain ⟨W6, hW6⟩ : ∃ W, w5.alloc (.cells #[.int .i64 2] 3) = W := ⟨_, rfl⟩
  have b6' : Below w5.heap.size w5 W6 := by rw [← hW6]; exact (Below.refl _ _).alloc (Nat.le_refl _) _
  have k6 : Blk W6 w5.heap.size 3 #[.int .i64 2] := by rw [← hW6]; exact Blk.new _ _ _
  have b6 : Below W3.heap.size W3 W6 := HB5.out.trans (b6'.mono HB5.out.size)
  have HS6 : Hid (Sli .i64 W6 pa pc [2, 0]) := HS5.out.below b6'
  have hsl : Sli .i64 W6 (some ⟨w5.heap.size, 0, none⟩) 1 [2] := ⟨by simp, by omega, (fun h => by cases h), .inr ⟨w5.heap.size, 0, rfl, k6.lt, fun j hj => by
    obtain rfl : j = 0 := by simp at hj; omega
    exact k6.cell 0⟩⟩
  have HG6 := Lib.hid (HGE.out W6 w5.heap.size 1 b6 hsl)
  have HB6 := Lib.hid b6
  have HW6 := Lib.hid hW6
  clear b6' k6 b6 hsl HS5 hW6
  go_wp2_with fail
  rw [HW6.out]
  refine HG6.out.mono ?_
  rintro e w7 ⟨ga, gc, rfl, b7'⟩
  have b7 : Below W3.heap.size W3 w7 := HB6.out.trans (b7'.mono HB6.out.size)
  have HS7 : Hid (Sli .i64 w7 pa pc [2, 0]) := HS6.out.below b7'
  obtain ⟨W8, hW8⟩ : ∃ W, w7.alloc (.cells #[.int .i64 0, .int .i64 49, .string ⟨#[]⟩, .slice ga 2 gc] 60) = W := ⟨_, rfl⟩
  have b8' : Below w7.heap.size w7 W8 := by rw [← hW8]; exact (Below.refl _ _).alloc (Nat.le_refl _) _
  have k8 : Blk W8 w7.heap.size 60 #[.int .i64 0, .int .i64 49, .string ⟨#[]⟩, .slice ga 2 gc] := by rw [← hW8]; exact Blk.new _ _ _
  have b8 : Below W3.heap.size W3 W8 := b7.trans (b8'.mono b7.size)
  have HS8 : Hid (Sli .i64 W8 pa pc [2, 0]) := HS7.out.below b8'
  obtain ⟨c0, c1, c2, c3, _, _, hq8⟩ := HX.out W8 b8
  rw [← hW8] at c0 c1 c2 c3
  have HB8 := Lib.hid b8
  have HK8 := Lib.hid k8
  have HW8 := Lib.hid hW8
  clear b7' b7 b8' k8 b8 HS7 HS6 hW8
  go_wp2_with fail
  rw [HW8.out]
  refine (HTX.out W8 HB8.out).mono ?_
  rintro e w9 ⟨rfl, b9'⟩
  have b9 : Below W3.heap.size W3 w9 := HB8.out.trans (b9'.mono HB8.out.size)
  have HS9 : Hid (Sli .i64 w9 pa pc [2, 0]) := HS8.out.below b9'
  have HK9 := Lib.hid (HK8.out.same (b9'.block _ HK8.out.lt))
  obtain ⟨c0, c1, c2, c3, _, _, _⟩ := HX.out w9 b9
  have HB9 := Lib.hid b9
  clear b9' b9
  go_wp2_with fail
  refine (HCO.out w9 HB9.out).mono ?_
  rintro e w10 ⟨rfl, b10'⟩
  have b10 : Below W3.heap.size W3 w10 := HB9.out.trans (b10'.mono HB9.out.size)
  have HS10 : Hid (Sli .i64 w10 pa pc [2, 0]) := HS9.out.below b10'
  have HK10 := Lib.hid (HK9.out.same (b10'.block _ HK9.out.lt))
  obtain ⟨c0, c1, c2, c3, _, _, _⟩ := HX.out w10 b10
  have HB10 := Lib.hid b10
  clear b10' b10
  go_wp2_with fail
  refine (HDE.out w10 HB10.out).mono ?_
  rintro e w11 ⟨rfl, b11'⟩
  have b11 : Below W3.heap.size W3 w11 := HB10.out.trans (b11'.mono HB10.out.size)
  have HS11 : Hid (Sli .i64 w11 pa pc [2, 0]) := HS10.out.below b11'
  have HK11 := Lib.hid (HK10.out.same (b11'.block _ HK10.out.lt))
  obtain ⟨W12, hW12⟩ : ∃ W, w11.alloc (.cells #[.int .i64 2, .int .i64 0] 3) = W := ⟨_, rfl⟩
  have b12' : Below w11.heap.size w11 W12 := by rw [← hW12]; exact (Below.refl _ _).alloc (Nat.le_refl _) _
  have k12 : Blk W12 w11.heap.size 3 #[.int .i64 2, .int .i64 0] := by rw [← hW12]; exact Blk.new _ _ _
  have b12 : Below W3.heap.size W3 W12 := b11.trans (b12'.mono b11.size)
  have hs12 : Sli .i64 W12 pa pc [2, 0] := HS11.out.below b12'
  have HK12 := Lib.hid (HK11.out.same (b12'.block _ HK11.out.lt))
  have hsl : Sli .i64 W12 (some ⟨w11.heap.size, 0, none⟩) 2 [2, 0] := ⟨by simp, by omega, (fun h => by cases h), .inr ⟨w11.heap.size, 0, rfl, k12.lt, fun j hj => by
    match j, hj with
    | 0, _ => exact k12.cell 0
    | 1, _ => exact k12.cell 1⟩⟩
  have HSI : Hid (Calls Tryd.prog 74 #[.slice pa 2 pc, .slice (some ⟨w11.heap.size, 0, none⟩) 2 2] W12 fun e w' => e = .returned (.bool true) ∧ Below W12.heap.size W12 w') := by
    have := sameInts_any pa (some ⟨w11.heap.size, 0, none⟩) pc 2 [2, 0] [2, 0] W12 hs12 hsl (by simp) (by simp)
    rw [decide_eq_true rfl] at this
    exact this
  have HB12 := Lib.hid b12
  have HW12 := Lib.hid hW12
  clear b11' b11 b12' k12 b12 hs12 hsl hW12
  go_wp2_with fail
  rw [HW12.out]
  refine HSI.out.mono ?_
  rintro e w13 ⟨rfl, b13'⟩
  have b13 : Below W3.heap.size W3 w13 := HB12.out.trans (b13'.mono HB12.out.size)
  have d1 := (HK12.out.same (b13'.block _ HK12.out.lt)).cell 1
  simp only [List.getElem?_toArray, List.getElem?_cons_zero, List.getElem?_cons_succ] at d1
  have HF := Lib.hid (HX.out w13 b13).2.2.2.2.2.1
  clear b13' b13
  go_wp2
  go_ret
  exact ⟨rfl, HF.out⟩

end Go.Proofs.YtgfhhpodcnohpaaDoor

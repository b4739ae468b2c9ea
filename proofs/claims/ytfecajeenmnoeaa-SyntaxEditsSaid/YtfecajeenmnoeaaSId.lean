/- The reference's IDs. Conditions: trees of at most 100000 nodes. -/
import Derived.Test.YtfecajeenmnoeaaSNo
namespace Go.Proofs.Ytfecajeenmnoeaa
open Go.RowKit Go.Shelf
set_option linter.unusedVariables false

/-- The IDs of nodes, as integers in memory. -/
abbrev idv (l : List Nd) : List Value := l.map fun (t : Nd) => Value.int .i64 t.id

set_option maxRecDepth 100000 in
set_option maxHeartbeats 4000000 in
theorem rids_any (t : Nd) (a : Option Addr) (n cap : Nat) (w : World) (G : Nat → Prop) (hK : KV G w a n cap t.kids) (hc : t.cnt ≤ 100000) :
    Calls Try.prog 28 #[ndv t a n cap] w fun e w' => ∃ u, e = .returned u ∧ w'.ownsRow w.heap.size 3 1 u t.all.length (idv t.all) ∧ Below w.heap.size w w' := by
  obtain ⟨i3, hi3, iy0, iy1, iy2⟩ := info_parts info3
  obtain ⟨W1, hW1⟩ : ∃ W, w.alloc (.cells (ndc t a n cap) 25) = W := ⟨_, rfl⟩
  have b1 : Below w.heap.size w W1 := by rw [← hW1]; exact (Below.refl _ _).alloc (Nat.le_refl _) _
  have HC := Lib.hid (rnodes_any t.dep t a n cap W1 G (Nat.le_refl _) (hK.on b1) hc)
  have hll := t.all_len
  obtain ⟨L, hL⟩ : ∃ l, t.all = l := ⟨_, rfl⟩
  rw [hL] at HC hll ⊢
  obtain ⟨id, hid⟩ : ∃ x, t.id = x := ⟨_, rfl⟩
  obtain ⟨kd, hkd⟩ : ∃ x, t.kind = x := ⟨_, rfl⟩
  obtain ⟨tx, htx⟩ : ∃ x, t.text = x := ⟨_, rfl⟩
  unfold ndv ndc at *
  rw [hid, hkd, htx] at HC hW1 ⊢
  have HW1 := Lib.hid hW1; have HB1 := Lib.hid b1
  obtain ⟨N, hNN⟩ : ∃ N, L.length = N := ⟨_, rfl⟩
  have HN := Lib.hid hNN
  have hN5 : N ≤ 100000 := by omega
  clear hK hc hW1 b1 hL hid hkd htx hll hNN
  go_enter Try.func28, Try.ntmps28
  go_wp2_with fail
  rw [show w.alloc (.cells #[.int .i64 id, .int .i64 kd, .string tx, .slice a n cap] 25) = W1 from HW1.out]
  refine HC.out.mono ?_
  rintro e w2 ⟨u, rfl, vs, hrow, hnd, hb2⟩
  have HB2 : Hid (Below w.heap.size w w2) := HB1.out.trans (hb2.mono HB1.out.size)
  rw [HN.out] at hrow
  obtain ⟨au, cu, rfl⟩ := own_slice hrow
  have HCELL : Hid (∀ i (hi : i < L.length), ∃ g, au = some ⟨g, 0, none⟩ ∧ g < w2.heap.size ∧ ∀ V : World, V.heap[g]? = w2.heap[g]? → V.cell? ⟨g, i * 4, none⟩ = some (.int .i64 (L[i]).id)) := fun i hi => by
    obtain ⟨m, hm⟩ : ∃ m, N = m + 1 := ⟨N - 1, by have := HN.out; omega⟩
    have h1 := hrow
    rw [hm] at h1
    obtain ⟨g, cp, h2⟩ := ownsRow_succ h1
    rw [← hm] at h2
    simp only [Value.slice.injEq] at h2
    obtain ⟨rfl, _, _⟩ := h2
    refine ⟨g, rfl, (hrow.lt g rfl).2, fun V hV => ?_⟩
    have h3 := hrow.cellAt (i * 4) (by have := HN.out; omega)
    rw [hnd.2.1 i hi] at h3
    simp only [World.cell?, hV] at h3 ⊢
    exact h3
  clear hrow hnd hb2
  go_wp2_with fail
  go_loopw [4, 5] (fun s q wr => ∃ i : Nat, q = .int .i64 (i : Int) ∧ i ≤ N ∧ Hid (wr.ownsRow w2.heap.size 3 1 s (L.take i).length (idv (L.take i))) ∧ Hid (Below w2.heap.size w2 wr)) (fun _ q _ => N - (intOf q).toNat)
  case atStart => exact ⟨0, rfl, by omega, by rw [List.take_zero]; exact World.ownsRow_nil _ _ _ _, Lib.hid (Below.refl _ _)⟩
  case round =>
    obtain ⟨i, rfl, hi, HO, HR⟩ := hrel
    have m1 : IntKind.i64.wrap ((i : Int) + 1) = (i : Int) + 1 := by simp [IntKind.wrap, IntKind.signed, IntKind.bits]; omega
    by_cases hin : i < N
    · have hin2 : (i : Int) < (N : Int) := by omega
      have hiL : i < L.length := by rw [HN.out]; exact hin
      obtain ⟨g, rfl, hg, hcell⟩ := HCELL.out i hiL
      have c1 := hcell wr (HR.out.block g hg)
      have htk : L.take (i + 1) = L.take i ++ [L[i]] := List.take_succ_eq_append_getElem hiL
      obtain ⟨x, hx⟩ : ∃ x, L[i] = x := ⟨_, rfl⟩
      rw [hx] at c1 htk
      obtain ⟨z, hz⟩ : ∃ z, x.id = z := ⟨_, rfl⟩
      rw [hz] at c1
      have hlt : (L.take i).length = i := by rw [List.length_take]; omega
      rw [hlt] at HO
      obtain ⟨W3, hW3⟩ : ∃ W, wr.alloc (.cells #[.int .i64 z] 3) = W := ⟨_, rfl⟩
      have b3 : Below wr.heap.size wr W3 := by rw [← hW3]; exact (Below.refl _ _).alloc (Nat.le_refl _) _
      have HR3 : Hid (Below w2.heap.size w2 W3) := HR.out.trans (b3.mono HR.out.size)
      have HO3 : Hid (W3.ownsRow w2.heap.size 3 1 u4 i (idv (L.take i))) := own_same HO.out (fun g hg => b3.block g (HO.out.lt g hg).2)
      have HNW : Hid (∀ j u, ([.int .i64 z] : List Value)[j]? = some u → W3.cell? ((⟨wr.heap.size, 0, none⟩ : Addr).add j) = some u) := fun j u h => by
        have hk : Blk W3 wr.heap.size 3 #[.int .i64 z] := by rw [← hW3]; exact Blk.new _ _ _
        cases j with
        | zero => simp at h; subst h; exact hk.cell 0
        | succ j => simp at h
      have HW3 := Lib.hid hW3
      have hz3 : w2.heap.size ≤ W3.heap.size := HR3.out.size
      have HTK : Hid (idv (L.take (i + 1)) = idv (L.take i) ++ [.int .i64 z] ∧ (L.take (i + 1)).length = i + 1) := ⟨by rw [htk]; simp [hz], by rw [List.length_take]; omega⟩
      clear hcell hx htk hz hlt b3 hW3 hg
      go_wp2_with (at_builtin; rw [show wr.alloc (.cells #[.int .i64 z] 3) = W3 from HW3.out]; refine wpList_append_own_at _ rfl _ _ 22 rfl w2.heap.size 3 i3 (.int .i64 0) 1 8 Try.underlying22 hi3 iy0 iy1 iy2 rfl (by decide) _ i (idv (L.take i)) rfl HO3.out ⟨wr.heap.size, 0, none⟩ 1 1 [.int .i64 z] rfl rfl HNW.out (by intro u hu; simp at hu; subst hu; rfl) (by unfold maxLen; omega) (by omega) hz3 ?_; intro v6 w6 hown6 hgrow6 hnn6 hat6)
      have HB6 : Hid (Below w2.heap.size w2 w6) := HR3.out.grown hgrow6 hz3 (fun g hg => (HO3.out.lt g hg).1)
      exact ⟨⟨i + 1, by go_num, by omega, by rw [HTK.out.1, HTK.out.2]; exact hown6, HB6⟩, by simp [intOf]; omega⟩
    · have hin2 : ¬ ((i : Int) < (N : Int)) := by omega
      obtain rfl : i = N := by omega
      have hall : L.take i = L := List.take_of_length_le (Nat.le_of_eq HN.out)
      rw [hall] at HO
      have HFIN : Hid (wr.ownsRow w.heap.size 3 1 u4 L.length (idv L) ∧ Below w.heap.size w wr) := ⟨own_base2 HO.out HB2.out.size, HB2.out.trans (HR.out.mono HB2.out.size)⟩
      clear hall
      go_wp2_with fail
      go_ret
      exact ⟨_, rfl, HFIN.out.1, HFIN.out.2⟩

end Go.Proofs.Ytfecajeenmnoeaa

/- The contracts of Around, Pick and the generator's next: the numbers that trees are made from. It has no conditions. -/
import Derived.Test.YtgfhhpodcnohpaaDoorSRf
namespace Go.Proofs.YtgfhhpodcnohpaaDoor
open Go.RowKit Go.Shelf
set_option linter.unusedVariables false

theorem around2 (x : Int) (m : Nat) (h1 : -9223372036854775808 ≤ x) (h2 : x ≤ 9223372036854775807) (hm : 1 ≤ m) (hm2 : m ≤ 4398046511104) :
    ∃ k : Nat, k < m ∧ ∀ w, Calls Tryd.prog 23 #[.int .i64 x, .int .i64 (m : Int)] w fun e w' => e = .returned (.int .i64 (k : Int)) ∧ w' = w := by
  have hm0 : ¬ (m : Int) = 0 := by omega
  by_cases h : x < 0
  · have hq : -(x + 1).tmod (m : Int) = (-(x + 1)) % (m : Int) := by
      rw [← Int.neg_tmod, Int.tmod_eq_emod_of_nonneg (by omega)]
    have h3 := Int.emod_nonneg (-(x + 1)) hm0
    have h4 := Int.emod_lt_of_pos (-(x + 1)) (show (0 : Int) < m by omega)
    obtain ⟨K, hK⟩ : ∃ K : Nat, (-(x + 1)) % (m : Int) = (K : Int) := ⟨((-(x + 1)) % (m : Int)).toNat, by omega⟩
    have HQ := Lib.hid (hq.trans hK)
    refine ⟨K, by omega, fun w => ?_⟩
    clear hq h3 h4 hK
    go_enter Tryd.func23, Tryd.ntmps23
    go_wp2
    go_ret
    refine ⟨?_, rfl⟩
    rw [← HQ.out]
    rfl
  · have h3 := Int.emod_nonneg x hm0
    have h4 := Int.emod_lt_of_pos x (show (0 : Int) < m by omega)
    obtain ⟨K, hK⟩ : ∃ K : Nat, x % (m : Int) = (K : Int) := ⟨(x % (m : Int)).toNat, by omega⟩
    have HQ := Lib.hid hK
    refine ⟨K, by omega, fun w => ?_⟩
    clear h3 h4 hK
    go_enter Tryd.func23, Tryd.ntmps23
    go_wp2
    go_ret
    refine ⟨?_, rfl⟩
    rw [← HQ.out]
    rfl

/-- The numbers lie in memory. -/
def SlJ (B : Nat) (w : World) (a : Option Addr) (n : Nat) : Prop :=
  n = 0 ∨ ∃ b off, a = some ⟨b, off, none⟩ ∧ b < B ∧ ∀ j, j < n → ∃ x : Int, -9223372036854775808 ≤ x ∧ x ≤ 9223372036854775807 ∧ w.cell? ⟨b, off + j, none⟩ = some (.int .i64 x)
theorem SlJ.of {w : World} {a : Option Addr} {cap : Nat} {ls : List Int} (h : Sli .i64 w a cap ls) (hi : ∀ n ∈ ls, -9223372036854775808 ≤ n ∧ n ≤ 9223372036854775807) : SlJ w.heap.size w a ls.length := by
  rcases h.cells with h0 | ⟨b, off, ha, hb, hc⟩
  · exact .inl (by rw [h0]; rfl)
  · refine .inr ⟨b, off, ha, hb, fun j hj => ?_⟩
    have hm : ls[j]?.getD 0 ∈ ls := by rw [List.getElem?_eq_getElem hj]; exact List.getElem_mem hj
    exact ⟨_, (hi _ hm).1, (hi _ hm).2, hc j hj⟩
theorem SlJ.keep {B : Nat} {w w' : World} {a : Option Addr} {n : Nat} (h : SlJ B w a n) (hb : ∀ b, b < B → w'.heap[b]? = w.heap[b]?) : SlJ B w' a n := by
  rcases h with h0 | ⟨b, off, ha, hlt, hc⟩
  · exact .inl h0
  · exact .inr ⟨b, off, ha, hlt, fun j hj => by
      obtain ⟨x, h1, h2, h3⟩ := hc j hj
      exact ⟨x, h1, h2, (World.cell?_of_block (w := w) (a := ⟨b, off + j, none⟩) (hb b hlt)).trans h3⟩⟩
theorem SlJ.below {B : Nat} {w w' : World} {a : Option Addr} {n : Nat} (h : SlJ B w a n) (hb : Below B w w') : SlJ B w' a n := h.keep hb.block
theorem SlJ.only {B : Nat} {w w' : World} {a : Option Addr} {n : Nat} {T : Nat → Prop} (h : SlJ B w a n) (hB : B ≤ w.heap.size) (hb : Only T w w') (hT : ∀ k, T k → B ≤ k) : SlJ B w' a n :=
  h.keep fun b hlt => hb.block b (by omega) (fun e => by have := hT b e; omega)

set_option maxRecDepth 100000 in
theorem pickj_any (B : Nat) (a : Option Addr) (n cap : Nat) (j : Int) (m : Nat) (w : World) (h : SlJ B w a n) (hj1 : -9223372036854775808 ≤ j) (hj2 : j ≤ 9223372036854775807) (hcap : n ≤ cap) (hcap2 : cap ≤ 9223372036854775807) (hm : 1 ≤ m) (hm2 : m ≤ 1000000) :
    ∃ k : Nat, k < m ∧ ∀ W : World, (∀ b, b < B → W.heap[b]? = w.heap[b]?) → Calls Tryd.prog 67 #[.slice a n cap, .int .i64 j, .int .i64 (m : Int)] W fun e w' => e = .returned (.int .i64 (k : Int)) ∧ w' = W := by
  by_cases hj0 : j < 0
  · refine ⟨0, by omega, fun W hW => ?_⟩
    go_enter Tryd.func67, Tryd.ntmps67
    go_wp2
    go_ret
    exact ⟨rfl, rfl⟩
  obtain ⟨j, rfl⟩ : ∃ k : Nat, j = (k : Int) := ⟨j.toNat, by omega⟩
  by_cases hlt : j < n
  · rcases h with h0 | ⟨b, off, rfl, hbB, hc⟩
    · omega
    obtain ⟨x, hx1, hx2, hcx⟩ := hc j hlt
    obtain ⟨k, hk, C⟩ := around2 x m hx1 hx2 hm (by omega)
    refine ⟨k, hk, fun W hW => ?_⟩
    have hcx2 := (World.cell?_of_block (w := w) (w' := W) (a := ⟨b, off + j, none⟩) (hW b hbB)).trans hcx
    have hjn : ¬ (n : Int) ≤ (j : Int) := by omega
    have hjn2 : (j : Int) < (n : Int) := by omega
    have C := Lib.hid C
    clear hc hcx hW
    go_enter Tryd.func67, Tryd.ntmps67
    go_wp2_with fail
    refine (C.out _).mono ?_
    rintro e w' ⟨rfl, rfl⟩
    go_wp2
    go_ret
    exact ⟨rfl, rfl⟩
  · have hjn : (n : Int) ≤ (j : Int) := by omega
    refine ⟨0, by omega, fun W hW => ?_⟩
    go_enter Tryd.func67, Tryd.ntmps67
    go_wp2
    go_ret
    exact ⟨rfl, rfl⟩

theorem wrap_in (z : Int) : -9223372036854775808 ≤ IntKind.i64.wrap z ∧ IntKind.i64.wrap z ≤ 9223372036854775807 := by
  simp only [IntKind.wrap, IntKind.signed, IntKind.bits]
  simp
  omega

end Go.Proofs.YtgfhhpodcnohpaaDoor

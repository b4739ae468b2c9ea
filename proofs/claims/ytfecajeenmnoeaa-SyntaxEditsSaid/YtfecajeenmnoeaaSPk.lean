/- The contracts of Around, Pick and the generator's next: the numbers that trees are made from. It has no conditions. -/
import Derived.Test.YtfecajeenmnoeaaSRf
namespace Go.Proofs.Ytfecajeenmnoeaa
open Go.RowKit Go.Shelf
set_option linter.unusedVariables false

theorem around2 (x : Int) (m : Nat) (h1 : -9223372036854775808 ≤ x) (h2 : x ≤ 9223372036854775807) (hm : 1 ≤ m) (hm2 : m ≤ 4398046511104) :
    ∃ k : Nat, k < m ∧ ∀ w, Calls Try.prog 53 #[.int .i64 x, .int .i64 (m : Int)] w fun e w' => e = .returned (.int .i64 (k : Int)) ∧ w' = w := by
  have hm0 : ¬ (m : Int) = 0 := by omega
  by_cases h : x < 0
  · have hq : -(x + 1).tmod (m : Int) = (-(x + 1)) % (m : Int) := by
      rw [← Int.neg_tmod, Int.tmod_eq_emod_of_nonneg (by omega)]
    have h3 := Int.emod_nonneg (-(x + 1)) hm0
    have h4 := Int.emod_lt_of_pos (-(x + 1)) (show (0 : Int) < m by omega)
    obtain ⟨K, hK⟩ : ∃ K : Nat, (-(x + 1)) % (m : Int) = (K : Int) := ⟨((-(x + 1)) % (m : Int)).toNat, by omega⟩
    have HQ := Lib.hid (hq.trans hK)
    refine ⟨K, by omega, fun w => ?_⟩
    clear hq h3 h4 hK
    go_enter Try.func53, Try.ntmps53
    go_wp2
    go_ret
    refine ⟨?_, rfl⟩
    rw [← HQ.out]
    rfl
  · have h3 := Int.emod_nonneg x hm0
    have h4 := Int.emod_lt_of_pos x (show (0 : Int) < m by omega)
    obtain ⟨K, hK⟩ : ∃ K : Nat, x % (m : Int) = (K : Int) := ⟨(x % (m : Int)).toNat, by omega⟩
    have HQ := Lib.hid hK
    refine ⟨K, by omega, fun w => ?_⟩
    clear h3 h4 hK
    go_enter Try.func53, Try.ntmps53
    go_wp2
    go_ret
    refine ⟨?_, rfl⟩
    rw [← HQ.out]
    rfl

/-- The numbers lie in memory. -/
def SlJ (B : Nat) (w : World) (a : Option Addr) (n : Nat) : Prop :=
  n = 0 ∨ ∃ b off, a = some ⟨b, off, none⟩ ∧ b < B ∧ ∀ j, j < n → ∃ x : Int, -9223372036854775808 ≤ x ∧ x ≤ 9223372036854775807 ∧ w.cell? ⟨b, off + j, none⟩ = some (.int .i64 x)
theorem SlJ.of {w : World} {a : Option Addr} {cap : Nat} {ls : List Int} (h : Sli .i64 w a cap ls) (hi : ∀ n ∈ ls, -9223372036854775808 ≤ n ∧ n ≤ 9223372036854775807) : SlJ w.heap.size w a ls.length := by
  rcases h.cells with h0 | ⟨b, off, ha, hb, hc⟩
  · exact .inl (by rw [h0]; rfl)
  · refine .inr ⟨b, off, ha, hb, fun j hj => ?_⟩
    have hm : ls[j]?.getD 0 ∈ ls := by rw [List.getElem?_eq_getElem hj]; exact List.getElem_mem hj
    exact ⟨_, (hi _ hm).1, (hi _ hm).2, hc j hj⟩
theorem SlJ.keep {B : Nat} {w w' : World} {a : Option Addr} {n : Nat} (h : SlJ B w a n) (hb : ∀ b, b < B → w'.heap[b]? = w.heap[b]?) : SlJ B w' a n := by
  rcases h with h0 | ⟨b, off, ha, hlt, hc⟩
  · exact .inl h0
  · exact .inr ⟨b, off, ha, hlt, fun j hj => by
      obtain ⟨x, h1, h2, h3⟩ := hc j hj
      exact ⟨x, h1, h2, (World.cell?_of_block (w := w) (a := ⟨b, off + j, none⟩) (hb b hlt)).trans h3⟩⟩
theorem SlJ.below {B : Nat} {w w' : World} {a : Option Addr} {n : Nat} (h : SlJ B w a n) (hb : Below B w w') : SlJ B w' a n := h.keep hb.block
theorem SlJ.only {B : Nat} {w w' : World} {a : Option Addr} {n : Nat} {T : Nat → Prop} (h : SlJ B w a n) (hB : B ≤ w.heap.size) (hb : Only T w w') (hT : ∀ k, T k → B ≤ k) : SlJ B w' a n :=
  h.keep fun b hlt => hb.block b (by omega) (fun e => by have := hT b e; omega)

set_option maxRecDepth 100000 in
theorem pickj_any (B : Nat) (a : Option Addr) (n cap : Nat) (j : Int) (m : Nat) (w : World) (h : SlJ B w a n) (hj1 : -9223372036854775808 ≤ j) (hj2 : j ≤ 9223372036854775807) (hcap : n ≤ cap) (hcap2 : cap ≤ 9223372036854775807) (hm : 1 ≤ m) (hm2 : m ≤ 1000000) :
    ∃ k : Nat, k < m ∧ ∀ W : World, (∀ b, b < B → W.heap[b]? = w.heap[b]?) → Calls Try.prog 50 #[.slice a n cap, .int .i64 j, .int .i64 (m : Int)] W fun e w' => e = .returned (.int .i64 (k : Int)) ∧ w' = W := by
  by_cases hj0 : j < 0
  · refine ⟨0, by omega, fun W hW => ?_⟩
    go_enter Try.func50, Try.ntmps50
    go_wp2
    go_ret
    exact ⟨rfl, rfl⟩
  obtain ⟨j, rfl⟩ : ∃ k : Nat, j = (k : Int) := ⟨j.toNat, by omega⟩
  by_cases hlt : j < n
  · rcases h with h0 | ⟨b, off, rfl, hbB, hc⟩
    · omega
    obtain ⟨x, hx1, hx2, hcx⟩ := hc j hlt
    obtain ⟨k, hk, C⟩ := around2 x m hx1 hx2 hm (by omega)
    refine ⟨k, hk, fun W hW => ?_⟩
    have hcx2 := (World.cell?_of_block (w := w) (w' := W) (a := ⟨b, off + j, none⟩) (hW b hbB)).trans hcx
    have hjn : ¬ (n : Int) ≤ (j : Int) := by omega
    have hjn2 : (j : Int) < (n : Int) := by omega
    have C := Lib.hid C
    clear hc hcx hW
    go_enter Try.func50, Try.ntmps50
    go_wp2_with fail
    refine (C.out _).mono ?_
    rintro e w' ⟨rfl, rfl⟩
    go_wp2
    go_ret
    exact ⟨rfl, rfl⟩
  · have hjn : (n : Int) ≤ (j : Int) := by omega
    refine ⟨0, by omega, fun W hW => ?_⟩
    go_enter Try.func50, Try.ntmps50
    go_wp2
    go_ret
    exact ⟨rfl, rfl⟩

/-- The generator in memory. -/
def GG (p : Nat) (l : Option Addr) (nl cl : Nat) (w : World) : Prop := ∃ i : Int, Blk w p 71 #[.slice l nl cl, .int .i64 i]
theorem GG.same {p : Nat} {l : Option Addr} {nl cl : Nat} {w w' : World} (h : GG p l nl cl w) (hb : w'.heap[p]? = w.heap[p]?) : GG p l nl cl w' := by
  obtain ⟨i, h1⟩ := h
  exact ⟨i, h1.same hb⟩
theorem GG.lt {p : Nat} {l : Option Addr} {nl cl : Nat} {w : World} (h : GG p l nl cl w) : p < w.heap.size := by
  obtain ⟨i, h1⟩ := h
  exact h1.lt
/-- next hands back a number below m and turns the generator alone. -/
def Nx (p : Nat) (l : Option Addr) (nl cl m : Nat) (w : World) (e : Ending) (w' : World) : Prop := ∃ k : Nat, k < m ∧ e = .returned (.int .i64 (k : Int)) ∧ GG p l nl cl w' ∧ Only (fun b => b = p) w w'
theorem wrap_in (z : Int) : -9223372036854775808 ≤ IntKind.i64.wrap z ∧ IntKind.i64.wrap z ≤ 9223372036854775807 := by
  simp only [IntKind.wrap, IntKind.signed, IntKind.bits]
  simp
  omega

set_option maxRecDepth 100000 in
set_option maxHeartbeats 1000000 in
theorem next_any (B p : Nat) (l : Option Addr) (nl cl m : Nat) (w : World) (h : SlJ B w l nl) (hcap : nl ≤ cl) (hcap2 : cl ≤ 9223372036854775807) (hB : B ≤ p) (hg : GG p l nl cl w) (hm : 1 ≤ m) (hm2 : m ≤ 1000000) :
    Calls Try.prog 44 #[.pointer (some ⟨p, 0, none⟩), .int .i64 (m : Int)] w (Nx p l nl cl m w) := by
  obtain ⟨i, hb⟩ := hg
  have c0 := hb.cell 0
  have c1 := hb.cell 1
  have f1 := hb.frozen 1
  obtain ⟨x, hx⟩ : ∃ x, IntKind.i64.wrap (i + 1) = x := ⟨_, rfl⟩
  obtain ⟨y, hy⟩ : ∃ y, IntKind.i64.wrap (x - 1) = y := ⟨_, rfl⟩
  have hyr := wrap_in (x - 1)
  rw [hy] at hyr
  obtain ⟨W1, hW1⟩ : ∃ W1, w.setCell ⟨p, 1, none⟩ (.int .i64 x) = W1 := ⟨_, rfl⟩
  have k1 : Blk W1 p 71 #[.slice l nl cl, .int .i64 x] := by rw [← hW1]; exact hb.set 1 _
  have o1 : Only (fun b => b = p) w W1 := by rw [← hW1]; exact (Only.refl (fun b => b = p) w).setCell (p := ⟨p, 1, none⟩) (.inr rfl) _
  have h1 := h.only (by have := hb.lt; omega) o1 (fun k e => by omega)
  obtain ⟨k, hk, HP⟩ := pickj_any B l nl cl y m W1 h1 hyr.1 hyr.2 hcap hcap2 hm hm2
  have d0 := k1.cell 0
  have d1 := k1.cell 1
  simp only [List.getElem?_toArray, List.getElem?_cons_zero, List.getElem?_cons_succ] at c0 c1 d0 d1
  have HP := Lib.hid HP
  have HF : Hid (∀ n, Nx p l nl cl m w (.returned (.int .i64 (k : Int))) (W1.drewN n)) := fun n => ⟨k, hk, rfl, ⟨x, k1.drewN n⟩, o1.drewN n⟩
  have HW1 := Lib.hid hW1
  clear h hb o1 k1 h1 hyr hW1 hk
  go_enter Try.func44, Try.ntmps44
  go_wp2_with fail
  rw [HW1.out]
  go_quiet (first | (go_at_call 50; exact Calls.quiet_of_same (HP.out _ (fun _ _ => rfl))))
  go_wp2
  go_ret
  exact HF.out _

end Go.Proofs.Ytfecajeenmnoeaa

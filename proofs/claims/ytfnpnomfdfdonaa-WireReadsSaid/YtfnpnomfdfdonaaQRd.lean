/- The reference's Reader in memory, and the contracts of its Uint, Int, Bool and End. Conditions: at most 100000 bytes are left. -/
import Derived.Test.YtfnpnomfdfdonaaWDec
namespace Go.Proofs.Ytfnpnomfdfdonaa
open Go.RowKit Go.Shelf
set_option linter.unusedVariables false

/-- The bytes that are left, with the room behind them, lie in a block below base. -/
def LeftQ (w : World) (base : Nat) (a : Option Addr) (cap : Nat) (zs : List Int) : Prop :=
  (a = none ∧ zs = [] ∧ cap = 0) ∨ ∃ b off, a = some ⟨b, off, none⟩ ∧ b < base ∧ ∀ j, j < zs.length → w.cell? ⟨b, off + j, none⟩ = some (.int .u8 (zs[j]?.getD 0))
theorem LeftQ.keep {w w' : World} {base cap : Nat} {a : Option Addr} {zs : List Int} (h : LeftQ w base a cap zs) (hb : ∀ b, b < base → w'.heap[b]? = w.heap[b]?) : LeftQ w' base a cap zs := by
  rcases h with h | ⟨b, off, ha, h1, hc⟩
  · exact .inl h
  · exact .inr ⟨b, off, ha, h1, fun j hj => (World.cell?_of_block (w := w) (a := ⟨b, off + j, none⟩) (hb b h1)).trans (hc j hj)⟩
/-- The reference's Reader lies at p in a state. -/
def Rq (w : World) (base p : Nat) (st : Rs) : Prop :=
  ∃ a cap zs e, Blk w p 47 #[.slice a zs.length cap, .int .i64 e] ∧ base ≤ p ∧ zs.length ≤ cap ∧ cap ≤ 9223372036854775807 ∧ LeftQ w base a cap zs ∧ Byt zs ∧ zs.length ≤ 100000 ∧ Fits zs e st
theorem Rq.lt {w : World} {base p : Nat} {st : Rs} (h : Rq w base p st) : base ≤ p ∧ p < w.heap.size := by
  obtain ⟨a, cap, zs, e, hb, h1, _⟩ := h; exact ⟨h1, hb.lt⟩
theorem Rq.keep {w w' : World} {base p : Nat} {st : Rs} (h : Rq w base p st) (hb : ∀ b, b < base ∨ b = p → w'.heap[b]? = w.heap[b]?) : Rq w' base p st := by
  obtain ⟨a, cap, zs, e, h0, h1, h2, h3, h4, h5, h6, h7⟩ := h
  exact ⟨a, cap, zs, e, h0.same (hb p (.inr rfl)), h1, h2, h3, h4.keep (fun b hb1 => hb b (.inl hb1)), h5, h6, h7⟩
theorem Rq.only {w w' : World} {T : Nat → Prop} {base p : Nat} {st : Rs} (h : Rq w base p st) (ho : Only T w w') (hT : ∀ b, b < base ∨ b = p → ¬ T b) : Rq w' base p st :=
  h.keep fun b h1 => ho.block b (by have := h.lt; omega) (hT b h1)
theorem Rq.below {w w' : World} {base p : Nat} {st : Rs} (h : Rq w base p st) (ho : Below w.heap.size w w') : Rq w' base p st :=
  h.only (Only.of_below (T := fun _ => False) ho) (fun _ _ h => h)
def QPost (base p : Nat) (v : Value) (st : Rs) (w : World) (e : Ending) (w' : World) : Prop := e = .returned v ∧ Rq w' base p st ∧ Only (fun k => k = p) w w'
theorem Rq.ok_err {w : World} {base p : Nat} {t : List Int} (h : Rq w base p (.ok t)) : w.cell? ⟨p, 1, none⟩ = some (.int .i64 0) ∧ w.frozen? ⟨p, 1, none⟩ = false ∧
    ∀ x, x = 2 ∨ x = 3 → Rq (w.setCell ⟨p, 1, none⟩ (.int .i64 x)) base p (.bad x) ∧ Only (fun k => k = p) w (w.setCell ⟨p, 1, none⟩ (.int .i64 x)) := by
  obtain ⟨a, cap, zs, e, h0, g1, g2, g3, g4, g5, g6, rfl, rfl⟩ := h
  refine ⟨h0.cell 1, h0.frozen 1, fun x hx => ⟨⟨a, cap, zs, x, h0.set 1 _, g1, g2, g3, ?_, g5, g6, rfl, hx⟩, Only.setCell (T := fun k => k = p) (Only.refl _ _) (p := ⟨p, 1, none⟩) (.inr rfl) _⟩⟩
  exact g4.keep fun b hb => Below.heap_setCell w ⟨p, 1, none⟩ _ b (by show b ≠ p; omega)
theorem Rq.byt {w : World} {base p : Nat} {t : List Int} (h : Rq w base p (.ok t)) : Byt t ∧ t.length ≤ 100000 := by
  obtain ⟨a, cap, zs, e, h0, g1, g2, g3, g4, g5, g6, rfl, rfl⟩ := h
  exact ⟨g5, g6⟩
theorem Rq.u_lt {w : World} {base p : Nat} {st : Rs} (h : Rq w base p st) : (rdU st).1 < 18446744073709551616 := by
  cases st with
  | bad x => simp [rdU]
  | ok zs => exact rdU_lt h.byt.1
/-- The recorded error. -/
theorem Rq.bad_err {w : World} {base p : Nat} {x : Int} (h : Rq w base p (.bad x)) : w.cell? ⟨p, 1, none⟩ = some (.int .i64 x) ∧ (x = 2 ∨ x = 3) := by
  obtain ⟨a, cap, zs, e, h0, g1, g2, g3, g4, g5, g6, rfl, hx⟩ := h
  exact ⟨h0.cell 1, hx⟩
/-- The bytes that are left, as a slice, and what is left behind the first k of them. -/
theorem Rq.cut {w : World} {base p : Nat} {zs : List Int} (h : Rq w base p (.ok zs)) :
    ∃ a cap, w.cell? ⟨p, 0, none⟩ = some (.slice a zs.length cap) ∧ w.frozen? ⟨p, 0, none⟩ = false ∧ zs.length ≤ cap ∧ cap ≤ 9223372036854775807 ∧
    ((a = none ∧ zs.length = 0 ∧ cap = 0) ∨ ∃ b off, a = some ⟨b, off, none⟩ ∧ b < p) ∧
    (∀ k, k < zs.length → ∃ b off, a = some ⟨b, off, none⟩ ∧ b < p ∧ w.cell? ⟨b, off + k, none⟩ = some (.int .u8 (zs[k]?.getD 0))) ∧
    (∀ k, k ≤ zs.length → ∀ a' cap', (cap' = cap - k) → ((a' = none ∧ zs.length = k ∧ cap' = 0) ∨ ∃ b off off', a = some ⟨b, off, none⟩ ∧ a' = some ⟨b, off', none⟩ ∧ (off' = off + k ∨ zs.length = k)) →
      Rq (w.setCell ⟨p, 0, none⟩ (.slice a' (zs.length - k) cap')) base p (.ok (zs.drop k)) ∧ Only (fun j => j = p) w (w.setCell ⟨p, 0, none⟩ (.slice a' (zs.length - k) cap'))) ∧
    (∀ k, k ≤ zs.length → SliAt .u8 p w a cap (zs.take k)) := by
  obtain ⟨a, cap, zs', e, h0, g1, g2, g3, g4, g5, g6, rfl, rfl⟩ := h
  refine ⟨a, cap, h0.cell 0, h0.frozen 0, g2, g3, ?_, fun k hk => ?_, fun k hk a' cap' hc ha => ⟨⟨a', cap', zs'.drop k, 0, ?_, g1, by rw [List.length_drop]; omega, by omega, ?_, g5.drop k, by rw [List.length_drop]; omega, rfl, rfl⟩, Only.setCell (T := fun k => k = p) (Only.refl _ _) (p := ⟨p, 0, none⟩) (.inr rfl) _⟩, fun k hk => ?_⟩
  · rcases g4 with ⟨rfl, rfl, rfl⟩ | ⟨b, off, rfl, h1, h3⟩
    · exact .inl ⟨rfl, rfl, rfl⟩
    · exact .inr ⟨b, off, rfl, by omega⟩
  · rcases g4 with ⟨rfl, rfl, rfl⟩ | ⟨b, off, rfl, h1, h3⟩
    · simp at hk
    · exact ⟨b, off, rfl, by omega, h3 k hk⟩
  · rw [List.length_drop]; exact h0.set 0 _
  · rcases ha with ⟨rfl, h, rfl⟩ | ⟨b, off, off', rfl, rfl, hoff⟩
    · exact .inl ⟨rfl, List.drop_eq_nil_of_le (by omega), rfl⟩
    · rcases g4 with ⟨h, _⟩ | ⟨b', o2, hab, h1, h3⟩
      · cases h
      · simp only [Option.some.injEq, Addr.mk.injEq] at hab
        obtain ⟨rfl, rfl, _⟩ := hab
        refine .inr ⟨b, off', rfl, h1, fun j hj => ?_⟩
        rw [List.length_drop] at hj
        rcases hoff with rfl | h
        · refine (World.cell?_of_block (w := w) (a := ⟨b, off + k + j, none⟩) (Below.heap_setCell w ⟨p, 0, none⟩ _ b (by show b ≠ p; omega))).trans ?_
          rw [Nat.add_assoc, h3 (k + j) (by omega), List.getElem?_drop]
        · omega
  · rcases g4 with ⟨rfl, rfl, rfl⟩ | ⟨b, off, rfl, h1, h3⟩
    · exact ⟨by simp, by omega, fun _ => rfl, .inl (by simp)⟩
    · refine ⟨by rw [List.length_take]; omega, g3, (fun h => by cases h), .inr ⟨b, off, rfl, by omega, fun j hj => ?_⟩⟩
      rw [List.length_take] at hj
      rw [h3 j (by omega), List.getElem?_take, if_pos (by omega)]

end Go.Proofs.Ytfnpnomfdfdonaa

/- Tokens: the reference's Same of equal lists of tokens. Conditions: at most 100000 tokens. -/
import Derived.Test.YtgfhhpodcnohpaaDoorLTn
import Derived.Deep.QuietTactic
namespace Go.Proofs.YtgfhhpodcnohpaaDoor
open Go.RowKit Go.Shelf
set_option linter.unusedVariables false

theorem tks_at : ∀ (L : List Tk) (k : Nat), k < L.length → ∀ j, j < 3 → (tks L)[k * 3 + j]? = (tkCs (tg L k))[j]?
  | [], k, h, j, hj => by simp at h
  | x :: L, 0, h, j, hj => by
    show (tkCs x ++ tks L)[0 * 3 + j]? = (tkCs x)[j]?
    rw [Nat.zero_mul, Nat.zero_add, List.getElem?_append_left (by simp [tkCs]; omega)]
  | x :: L, k + 1, h, j, hj => by
    have ih := tks_at L k (by simpa using h) j hj
    show (tkCs x ++ tks L)[(k + 1) * 3 + j]? = (tkCs (tg L k))[j]?
    rw [List.getElem?_append_right (by simp [tkCs]; omega), ← ih]
    congr 1
    simp [tkCs]
    omega
/-- The cells of an own row of tokens. -/
theorem trow {w : World} {base n : Nat} {v : Value} {L : List Tk} (h : w.ownsRow base 31 3 v n (tks L)) (hl : L.length = n) :
    ∃ a cap, v = .slice a n cap ∧ (0 < n → ∃ g, a = some ⟨g, 0, none⟩ ∧ g < w.heap.size ∧ ∀ W : World, W.heap[g]? = w.heap[g]? → ∀ k, k < n → W.cell? ⟨g, k * 3, none⟩ = some (.int .i64 (tg L k).1) ∧ W.cell? ⟨g, k * 3 + 1, none⟩ = some (.string (tbs (tg L k).2.1)) ∧ W.cell? ⟨g, k * 3 + 2, none⟩ = some (.int .i64 ((tg L k).2.2 : Int))) := by
  obtain ⟨a, cap, rfl⟩ := own_slice h
  refine ⟨a, cap, rfl, fun hn => ?_⟩
  obtain ⟨m, rfl⟩ : ∃ m, n = m + 1 := ⟨n - 1, by omega⟩
  obtain ⟨g, c, hg⟩ := ownsRow_succ h
  simp only [Value.slice.injEq] at hg
  obtain ⟨rfl, _, rfl⟩ := hg
  refine ⟨g, rfl, (h.lt g rfl).2, fun W hW k hk => ?_⟩
  have hc : ∀ j, j < 3 → W.cell? ⟨g, k * 3 + j, none⟩ = (tkCs (tg L k))[j]? := fun j hj => by
    rw [World.cell?_of_block (w := w) (w' := W) (a := ⟨g, k * 3 + j, none⟩) hW, h.cellAt (k * 3 + j) (by omega), tks_at L k (by omega) j hj]
  exact ⟨hc 0 (by omega), hc 1 (by omega), hc 2 (by omega)⟩
set_option maxRecDepth 100000 in
set_option maxHeartbeats 4000000 in
theorem rsame_any (L : List Tk) (u v : Value) (b1 b2 : Nat) (w : World) (hl : L.length ≤ 100000) (h1 : w.ownsRow b1 31 3 u L.length (tks L)) (h2 : w.ownsRow b2 31 3 v L.length (tks L)) :
    Calls Tryd.prog 13 #[u, v] w fun e w' => e = .returned (.bool true) ∧ Below w.heap.size w w' := by
  obtain ⟨a, ca, rfl, hA⟩ := trow h1 rfl
  obtain ⟨a', ca', rfl, hA'⟩ := trow h2 rfl
  obtain ⟨n, hn⟩ : ∃ n, L.length = n := ⟨_, rfl⟩
  rw [hn] at hA hA' hl ⊢
  have HA := Lib.hid hA; have HA' := Lib.hid hA'
  have hq0 : ((n : Int) != (n : Int)) = false := by simp
  clear h1 h2 hA hA' hn
  go_enter Tryd.func13, Tryd.ntmps13
  go_wp2_with fail
  go_loopw [5] (fun q wr => ∃ k : Nat, k ≤ n ∧ q = .int .i64 (k : Int) ∧ Hid (Below w.heap.size w wr)) (fun q _ => n - (RowKit.intOf q).toNat)
  case atStart => exact ⟨0, by omega, rfl, Below.refl _ _⟩
  case round =>
    obtain ⟨k, hk, rfl, HR⟩ := hrel
    by_cases hlt : k < n
    · obtain ⟨g, hg, hgl, hcell⟩ := HA.out (by omega)
      obtain ⟨g', hg', hgl', hcell'⟩ := HA'.out (by omega)
      subst hg hg'
      obtain ⟨c0, c1, c2⟩ := hcell wr (HR.out.block g hgl) k hlt
      obtain ⟨d0, d1, d2⟩ := hcell' wr (HR.out.block g' hgl') k hlt
      obtain ⟨x0, hx0⟩ : ∃ x, (tg L k).1 = x := ⟨_, rfl⟩
      obtain ⟨x1, hx1⟩ : ∃ x, tbs (tg L k).2.1 = x := ⟨_, rfl⟩
      obtain ⟨x2, hx2⟩ : ∃ x, (tg L k).2.2 = x := ⟨_, rfl⟩
      rw [hx0] at c0 d0
      rw [hx1] at c1 d1
      rw [hx2] at c2 d2
      have hkk : (k : Int) < (n : Int) := by omega
      clear hcell hcell' hx0 hx1 hx2 hgl hgl'
      go_wp2_with fail
      go_quiet (fail)
      go_wp2
      go_roundw
      case rel => exact ⟨k + 1, by omega, by go_num, below_drewN HR.out _⟩
      case measure => simp only [RowKit.intOf, Int.toNat_natCast]; omega
    · obtain rfl : n = k := by omega
      go_wp2
      go_ret
      exact ⟨rfl, HR.out⟩

end Go.Proofs.YtgfhhpodcnohpaaDoor

/- The reference's SameTokens. Conditions: at most 100000 tokens. -/
import Derived.Test.YtfecajeenmnoeaaSEq
namespace Go.Proofs.Ytfecajeenmnoeaa
open Go.RowKit Go.Shelf
set_option linter.unusedVariables false

/-- Tokens lie in memory, in blocks that lay in w. -/
def TkA (w : World) (a : Option Addr) (l : List (Int × ByteArray × Nat)) : Prop :=
  l = [] ∨ ∃ b off, a = some ⟨b, off, none⟩ ∧ b < w.heap.size ∧ ∀ k (h : k < l.length), w.cell? ⟨b, off + k * 3, none⟩ = some (.int .i64 (l[k]).1) ∧ w.cell? ⟨b, off + k * 3 + 1, none⟩ = some (.string (l[k]).2.1) ∧ w.cell? ⟨b, off + k * 3 + 2, none⟩ = some (.int .i64 ((l[k]).2.2 : Int))
theorem TkA.on {w w' : World} {a : Option Addr} {l : List (Int × ByteArray × Nat)} (h : TkA w a l) (hb : Below w.heap.size w w') : TkA w' a l := by
  rcases h with h | ⟨b, off, h1, h2, h3⟩
  · exact .inl h
  · refine .inr ⟨b, off, h1, by have := hb.size; omega, fun k hk => ?_⟩
    obtain ⟨c0, c1, c2⟩ := h3 k hk
    have e := hb.block b h2
    simp only [World.cell?, e] at c0 c1 c2 ⊢
    exact ⟨c0, c1, c2⟩
theorem take_same {α : Type} {xs ys : List α} {k : Nat} (h1 : k < xs.length) (h2 : k < ys.length) (h : xs.take k = ys.take k) (he : xs[k] = ys[k]) : xs.take (k + 1) = ys.take (k + 1) := by
  rw [List.take_succ_eq_append_getElem h1, List.take_succ_eq_append_getElem h2, h, he]
theorem take_diff {α : Type} {xs ys : List α} {k : Nat} (h1 : k < xs.length) (h2 : k < ys.length) (he : xs[k] ≠ ys[k]) : xs ≠ ys := by
  rintro rfl; exact he rfl

set_option maxRecDepth 100000 in
set_option maxHeartbeats 1000000 in
theorem sameTk_any (a b : Option Addr) (ca cb : Nat) (xs ys : List (Int × ByteArray × Nat)) (w : World) (hx : TkA w a xs) (hy : TkA w b ys) (hl : xs.length ≤ 100000) :
    Calls Try.prog 42 #[.slice a xs.length ca, .slice b ys.length cb] w fun e w' => e = .returned (.bool (decide (xs = ys))) ∧ Below w.heap.size w w' := by
  by_cases hne : xs.length = ys.length
  · have HX := Lib.hid hx
    have HY := Lib.hid hy
    obtain ⟨n, hn⟩ : ∃ n, xs.length = n := ⟨_, rfl⟩
    rw [← hne, hn]
    have hn2 : ys.length = n := by omega
    have HN := Lib.hid hn
    have HN2 := Lib.hid hn2
    have hln : n ≤ 100000 := by omega
    have hmx : Try.prog.follows .mixedOrders = true := by kernel_rfl
    clear hx hy hne hn hn2 hl
    go_enter Try.func42, Try.ntmps42
    go_wp2
    go_loopw [5] (fun i wr => ∃ k : Nat, k ≤ n ∧ i = .int .i64 k ∧ Hid (xs.take k = ys.take k) ∧ Hid (Below w.heap.size w wr)) (fun i _ => n - (intOf i).toNat)
    case atStart => exact ⟨0, Nat.zero_le _, rfl, rfl, Below.refl _ _⟩
    case round =>
      obtain ⟨k, hk, rfl, HTK, HB⟩ := hrel
      by_cases hlt : k < n
      · have hk1 : k < xs.length := by rw [HN.out]; exact hlt
        have hk2 : k < ys.length := by rw [HN2.out]; exact hlt
        rcases HX.out.on HB.out with h | ⟨b1, o1, h1, hb1, hc1⟩
        · exact absurd (congrArg List.length h) (by rw [HN.out]; simp; omega)
        rcases HY.out.on HB.out with h | ⟨b2, o2, h2, hb2, hc2⟩
        · exact absurd (congrArg List.length h) (by rw [HN2.out]; simp; omega)
        obtain ⟨c0, c1, c2⟩ := hc1 k hk1
        obtain ⟨d0, d1, d2⟩ := hc2 k hk2
        have HSTEP : Hid (xs[k] = ys[k] → xs.take (k + 1) = ys.take (k + 1)) := fun h => take_same hk1 hk2 HTK.out h
        have HSTOP : Hid (xs[k] ≠ ys[k] → xs ≠ ys) := fun h => take_diff hk1 hk2 h
        have hkk : (k : Int) < (n : Int) := by omega
        have m1 : IntKind.i64.wrap ((k : Int) + 1) = (k : Int) + 1 := by simp [IntKind.wrap, IntKind.signed, IntKind.bits]; omega
        obtain ⟨⟨x1, x2, x3⟩, hx⟩ : ∃ x, xs[k] = x := ⟨_, rfl⟩
        obtain ⟨⟨y1, y2, y3⟩, hy⟩ : ∃ x, ys[k] = x := ⟨_, rfl⟩
        rw [hx] at c0 c1 c2 HSTEP HSTOP
        rw [hy] at d0 d1 d2 HSTEP HSTOP
        dsimp only at c0 c1 c2 d0 d1 d2
        clear hc1 hc2 hx hy hb1 hb2 hk1 hk2
        subst h1 h2
        by_cases e : x1 = y1 ∧ x2 = y2 ∧ x3 = y3
        · obtain ⟨rfl, rfl, rfl⟩ := e
          have HS := Lib.hid (HSTEP.out rfl)
          have qt : (x2.toList == x2.toList) = true := by simp
          go_wp2
          go_region
          all_goals
            go_wp2
            go_roundw
            case rel => exact ⟨k + 1, by omega, by go_num, HS, HB.out.drew⟩
            case measure => simp [intOf]; omega
        · have HS := Lib.hid (HSTOP.out (fun h => e (by simp only [Prod.mk.injEq] at h; exact h)))
          by_cases e1 : x1 = y1
          · by_cases e2 : x2 = y2
            · have e3 : ¬ ((x3 : Int) = (y3 : Int)) := fun h => e ⟨e1, e2, by omega⟩
              subst e1 e2
              clear e
              go_wp2
              go_region
              all_goals
                go_wp2
                go_ret
                exact ⟨by rw [decide_eq_false HS.out]; rfl, HB.out.drew⟩
            · have e4 : ¬ (x2.toList = y2.toList) := fun h => e2 (seq_inj h)
              subst e1
              clear e e2
              go_wp2
              go_region
              all_goals
                go_wp2
                go_ret
                exact ⟨by rw [decide_eq_false HS.out]; rfl, HB.out.drew⟩
          · clear e
            go_wp2
            go_region
            all_goals
              go_wp2
              go_ret
              exact ⟨by rw [decide_eq_false HS.out]; rfl, HB.out.drew⟩
      · have hkn : k = n := by omega
        subst hkn
        go_wp2
        go_ret
        exact ⟨by rw [decide_eq_true (by have := HTK.out; rwa [List.take_of_length_le (by rw [HN.out]; omega), List.take_of_length_le (by rw [HN2.out]; omega)] at this)]; rfl, HB.out⟩
  · have hq : ((xs.length : Int) != (ys.length : Int)) = true := by simp; omega
    have hf : decide (xs = ys) = false := decide_eq_false (fun h => hne (by rw [h]))
    rw [hf]
    clear hf hne
    go_enter Try.func42, Try.ntmps42
    go_wp2
    go_ret
    exact ⟨rfl, Below.refl _ _⟩

end Go.Proofs.Ytfecajeenmnoeaa

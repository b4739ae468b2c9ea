/- Tokens: the reference's Lines of a text without a line feed; what a row of tokens holds while it is changed. Conditions: texts of at most 100000 bytes. -/
import Derived.Test.YtgfhhpodcnohpaaDoorLSo
import Derived.Test.YtgfhhpodcnohpaaDoorLMf
import Derived.Test.YtgfhhpodcnohpaaDoorStr
namespace Go.Proofs.YtgfhhpodcnohpaaDoor
open Go.RowKit Go.Shelf
set_option linter.unusedVariables false

set_option maxRecDepth 100000 in
set_option maxHeartbeats 1000000 in
theorem rlines_none (s : ByteArray) (hs : s.size ≤ 100000) (h : ∀ c ∈ sb s, c ≠ 10) (w : World) :
    Calls Tryd.prog 33 #[.string s] w fun e w' => ∃ a c, e = .returned (.slice a 1 c) ∧ Below w.heap.size w w' := by
  have H := Lib.hid h
  clear h
  go_enter Tryd.func33, Tryd.ntmps33
  go_wp2
  go_loopw [3, 4] (fun v3 vi wr => v3 = .slice (some ⟨w.heap.size, 0, none⟩) 1 1 ∧ ∃ k : Nat, k ≤ s.size ∧ vi = .int .i64 (k : Int) ∧ Hid (Below w.heap.size w wr)) (fun _ vi _ => s.size - (RowKit.intOf vi).toNat)
  case atStart => exact ⟨rfl, 0, Nat.zero_le _, rfl, Lib.hid ((Below.refl _ _).alloc (Nat.le_refl _) _)⟩
  case round =>
    obtain ⟨rfl, k, hk, rfl, HB⟩ := hrel
    by_cases hlt : k < s.size
    · have hltz : (k : Int) < (s.size : Int) := by omega
      obtain ⟨c, hc⟩ : ∃ c : Int, ((s[k]'hlt).toNat : Int) = c := ⟨_, rfl⟩
      have hget := sbAt s k hlt
      rw [hc] at hget
      have h10 := H.out c (List.mem_of_getElem? hget)
      have hb : (c == 10) = false := by simpa using h10
      clear hget h10
      go_wp2
      go_roundw
      case rel => exact ⟨rfl, k + 1, by omega, by go_num, HB⟩
      case measure => simp only [RowKit.intOf, Int.toNat_natCast]; omega
    · have hltz : ¬ (k : Int) < (s.size : Int) := by omega
      go_wp2
      go_ret
      exact ⟨⟨_, _, rfl⟩, HB.out⟩

theorem lex_byt : ∀ (N : Nat) (l : List Int) (p : Nat), l.length ≤ N → Byt l → ∀ t ∈ lex l p, Byt t.2.1 ∧ t.2.1.length ≤ l.length := by
  intro N
  induction N with
  | zero =>
    intro l p h
    have : l = [] := List.eq_nil_of_length_eq_zero (by omega)
    subst this
    intro _ t ht
    cases ht
  | succ N ih =>
    intro l p h hb
    by_cases h0 : l = []
    · subst h0; intro t ht; cases ht
    · have hp := fst_pos h0
      rw [lex_step h0]
      intro t ht
      rcases List.mem_cons.1 ht with rfl | ht
      · exact ⟨hb.take _, by simp only [List.length_take]; omega⟩
      · have := ih (l.drop (fst_ l).2) (p + (fst_ l).2) (by rw [List.length_drop]; omega) (hb.drop _) t ht
        rw [List.length_drop] at this
        exact ⟨this.1, by omega⟩
theorem tg_mem {L : List Tk} {k : Nat} (h : k < L.length) : tg L k ∈ L := by
  unfold tg
  rw [List.getElem?_eq_getElem h]
  exact List.getElem_mem h
theorem sol_mem {L : List Tk} {t : Tk} (h : t ∈ sol L) : t ∈ L := (List.mem_filter.1 h).1
/-- The text of a token of a text, but for Spaces. -/
theorem sol_text (z : ByteArray) (k : Nat) (h : k < (sol (lex (sb z) 0)).length) : (tbs (tg (sol (lex (sb z) 0)) k).2.1).size ≤ z.size ∧ ∀ c ∈ sb (tbs (tg (sol (lex (sb z) 0)) k).2.1), c ≠ 10 := by
  have hm := tg_mem h
  have h1 := lex_byt _ (sb z) 0 (Nat.le_refl _) (sb_byt z) _ (sol_mem hm)
  have h2 := sol_no10 _ (sb z) 0 (Nat.le_refl _) _ hm
  have e : sb (tbs (tg (sol (lex (sb z) 0)) k).2.1) = (tg (sol (lex (sb z) 0)) k).2.1 := sb_bs h1.1
  rw [e]
  refine ⟨?_, h2⟩
  rw [← sb_len, e, ← sb_len]
  exact h1.2

/-- A row of tokens of which the first ones may have changed. -/
def Mo (M : List Tk) (g k : Nat) (w : World) : Prop := (∀ o, w.frozen? ⟨g, o, none⟩ = false) ∧ ∀ i, k ≤ i → i < M.length → w.cell? ⟨g, i * 3, none⟩ = some (.int .i64 (tg M i).1) ∧ w.cell? ⟨g, i * 3 + 1, none⟩ = some (.string (tbs (tg M i).2.1)) ∧ w.cell? ⟨g, i * 3 + 2, none⟩ = some (.int .i64 ((tg M i).2.2 : Int))
theorem mo_new {w : World} {b n cap g : Nat} {M : List Tk} (h : w.ownsRow b 31 3 (.slice (some ⟨g, 0, none⟩) n cap) n (tks M)) (hn : M.length = n) : Mo M g 0 w := by
  refine ⟨fun o => h.frozenAt o, fun i _ hi => ?_⟩
  have hc : ∀ j, j < 3 → w.cell? ⟨g, i * 3 + j, none⟩ = (tkCs (tg M i))[j]? := fun j hj => by rw [h.cellAt (i * 3 + j) (by omega), tks_at M i hi j hj]
  exact ⟨hc 0 (by omega), hc 1 (by omega), hc 2 (by omega)⟩
theorem Mo.keep {M : List Tk} {g k : Nat} {w w' : World} (h : Mo M g k w) (hb : w'.heap[g]? = w.heap[g]?) : Mo M g k w' := by
  refine ⟨fun o => by rw [World.frozen?_of_block (w := w) (w' := w') (a := ⟨g, o, none⟩) hb]; exact h.1 o, fun i h1 h2 => ?_⟩
  obtain ⟨a, b, c⟩ := h.2 i h1 h2
  exact ⟨(World.cell?_of_block (w := w) (w' := w') (a := ⟨g, i * 3, none⟩) hb).trans a, (World.cell?_of_block (w := w) (w' := w') (a := ⟨g, i * 3 + 1, none⟩) hb).trans b, (World.cell?_of_block (w := w) (w' := w') (a := ⟨g, i * 3 + 2, none⟩) hb).trans c⟩
theorem mo_cell {w : World} {g o o' : Nat} {v u : Value} (hne : o' ≠ o) (h : w.cell? ⟨g, o', none⟩ = some u) : (w.setCell ⟨g, o, none⟩ v).cell? ⟨g, o', none⟩ = some u := by
  rw [World.cell?_setCell_other w ⟨g, o, none⟩ ⟨g, o', none⟩ v (fun e => hne (by cases e; rfl))]
  exact h
theorem Mo.store {M : List Tk} {g k : Nat} {w : World} (h : Mo M g k w) (v : Value) : Mo M g (k + 1) (w.setCell ⟨g, k * 3 + 2, none⟩ v) := by
  refine ⟨fun o => by rw [World.frozen?_setCell]; exact h.1 o, fun i h1 h2 => ?_⟩
  obtain ⟨a, b, c⟩ := h.2 i (by omega) h2
  exact ⟨mo_cell (by omega) a, mo_cell (by omega) b, mo_cell (by omega) c⟩

end Go.Proofs.YtgfhhpodcnohpaaDoor

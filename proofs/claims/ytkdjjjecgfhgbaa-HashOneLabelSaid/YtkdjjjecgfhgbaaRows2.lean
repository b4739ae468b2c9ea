/- Lemmas on owned rows of integers that are appended to and stored into, for the laws of P1.3. It has no conditions. -/
import Derived.Test.YtkdjjjecgfhgbaaInj
namespace Go.Proofs.Ytkdjjjecgfhgbaa
open Go.RowKit

theorem sli_row {w : World} {base n g cap : Nat} {k : IntKind} {e : TypeId} {zs : List Int} (h : w.ownsRow base e 1 (.slice (some ⟨g, 0, none⟩) n cap) n (zs.map (Value.int k))) : Sli k w (some ⟨g, 0, none⟩) cap zs := by
  obtain ⟨hn, a, cap', hv, hs⟩ := sli_of_own h
  simp only [Value.slice.injEq] at hv
  obtain ⟨rfl, _, rfl⟩ := hv
  exact hs

/-- A call hands back a slice of these integers, at the head of a block of its own. -/
def NewOwn (k : IntKind) (e : TypeId) (w : World) (xs : List Int) (en : Ending) (w' : World) : Prop :=
  ∃ g cap, en = .returned (.slice (some ⟨g, 0, none⟩) xs.length cap) ∧ w'.ownsRow w.heap.size e 1 (.slice (some ⟨g, 0, none⟩) xs.length cap) xs.length (xs.map (Value.int k)) ∧ Below w.heap.size w w'
theorem newOwn_of_row {k : IntKind} {e : TypeId} {w : World} {xs : List Int} {en : Ending} {w' : World} (hx : xs ≠ []) (h : NewRow k e w xs en w') : NewOwn k e w xs en w' := by
  obtain ⟨v, rfl, hown, hb⟩ := h
  obtain ⟨m, hm⟩ : ∃ m, xs.length = m + 1 := ⟨xs.length - 1, by have := List.length_pos_iff.2 hx; omega⟩
  have h1 := hown
  rw [hm] at h1
  obtain ⟨g, cap, rfl⟩ := ownsRow_succ h1
  rw [← hm] at hown
  exact ⟨g, cap, by rw [hm], hown, hb⟩

theorem row_lt {w : World} {base e size n g cap : Nat} {xs : List Value} (h : w.ownsRow base e size (.slice (some ⟨g, 0, none⟩) n cap) n xs) : base ≤ g ∧ g < w.heap.size := h.lt g rfl
theorem row_cell {w : World} {base n g cap : Nat} {k : IntKind} {e : TypeId} {zs : List Int} (h : w.ownsRow base e 1 (.slice (some ⟨g, 0, none⟩) n cap) n (zs.map (Value.int k))) (j : Nat) (hj : j < n) :
    w.cell? ⟨g, j, none⟩ = some (.int k (zs[j]?.getD 0)) := by
  have hn : n = zs.length := by have := h.1; simp at this; omega
  rw [h.cellAt j (by omega), List.getElem?_map]
  simp [show j < zs.length by omega]
theorem row_stored {w : World} {base n g cap : Nat} {k : IntKind} {e : TypeId} {zs : List Int} (h : w.ownsRow base e 1 (.slice (some ⟨g, 0, none⟩) n cap) n (zs.map (Value.int k))) (j : Nat) (x : Int) :
    (w.setCell ⟨g, j, none⟩ (.int k x)).ownsRow base e 1 (.slice (some ⟨g, 0, none⟩) n cap) n ((zs.set j x).map (Value.int k)) := by
  have := (h.stored j (.int k x)).1
  rwa [← List.map_set] at this

theorem xor_u8 (x y : Int) : 0 ≤ bits BinOp.xor IntKind.u8 x y ∧ bits BinOp.xor IntKind.u8 x y ≤ 255 := by
  have h : ∀ n : Int, IntKind.u8.wrap n = n % 256 := fun n => by simp [IntKind.wrap, IntKind.signed, IntKind.bits]
  show 0 ≤ IntKind.u8.wrap _ ∧ IntKind.u8.wrap _ ≤ 255
  rw [h]; omega
theorem xor_u8_self (x y : Int) (h1 : 0 ≤ x) (h2 : x ≤ 255) (h3 : 0 ≤ y) (h4 : y ≤ 255) : bits BinOp.xor IntKind.u8 x y = x ↔ y = 0 := by
  have h : ∀ n : Int, IntKind.u8.wrap n = n % 256 := fun n => by simp [IntKind.wrap, IntKind.signed, IntKind.bits]
  obtain ⟨a, rfl⟩ : ∃ a : BitVec 8, x = (a.toNat : Int) := ⟨BitVec.ofInt 8 x, by rw [BitVec.toNat_ofInt]; omega⟩
  obtain ⟨b, rfl⟩ : ∃ b : BitVec 8, y = (b.toNat : Int) := ⟨BitVec.ofInt 8 y, by rw [BitVec.toNat_ofInt]; omega⟩
  have e : bits BinOp.xor IntKind.u8 (a.toNat : Int) (b.toNat : Int) = ((a ^^^ b).toNat : Int) := by
    show IntKind.u8.wrap (((BitVec.ofInt 8 (a.toNat : Int)) ^^^ (BitVec.ofInt 8 (b.toNat : Int))).toNat : Int) = _
    rw [BitVec.ofInt_natCast, BitVec.ofInt_natCast, h]
    simp only [BitVec.ofNat_toNat, BitVec.setWidth_eq]
    have := (a ^^^ b).isLt
    omega
  rw [e]
  constructor
  · intro h5
    have h6 : a ^^^ b = a := BitVec.eq_of_toNat_eq (by omega)
    have h7 : b = 0#8 := by
      have := congrArg (a ^^^ ·) h6
      simpa [← BitVec.xor_assoc] using this
    rw [h7]; rfl
  · intro h5
    have h6 : b = 0#8 := BitVec.eq_of_toNat_eq (by simpa using h5)
    rw [h6]; simp

theorem byt_set {l : List Int} (h : Byt l) (j : Nat) {x : Int} (hx : 0 ≤ x ∧ x ≤ 255) : Byt (l.set j x) := by
  intro c hc
  rcases List.mem_or_eq_of_mem_set hc with h1 | rfl
  · exact h c h1
  · exact hx
theorem byt_snoc {l : List Int} (h : Byt l) {x : Int} (hx : 0 ≤ x ∧ x ≤ 255) : Byt (l ++ [x]) := by
  intro c hc
  rcases List.mem_append.1 hc with h1 | h1
  · exact h c h1
  · simp at h1; subst h1; exact hx
theorem own_below {w w' : World} {base e size n g cap : Nat} {xs : List Value} (h : w.ownsRow base e size (.slice (some ⟨g, 0, none⟩) n cap) n xs) (hb : Below w.heap.size w w') : w'.ownsRow base e size (.slice (some ⟨g, 0, none⟩) n cap) n xs :=
  own_same h (fun j e => by cases e; exact hb.block g (row_lt h).2)

end Go.Proofs.Ytkdjjjecgfhgbaa

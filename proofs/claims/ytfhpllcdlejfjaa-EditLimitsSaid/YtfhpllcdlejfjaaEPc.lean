/- The parts of a new text, and the contracts of end and parts. It has no conditions. -/
import Derived.Test.YtfhpllcdlejfjaaEVr
namespace Go.Proofs.Ytfhpllcdlejfjaa
open Go.RowKit Go.Shelf
set_option linter.unusedVariables false

/-- A part of a new text. -/
structure Pc where
  f : Int
  t : Int
  q : Int
  x : ByteArray
  k : Bool
def Pc.val (p : Pc) : Value := .agg #[.int .i64 p.f, .int .i64 p.t, .int .i64 p.q, .string p.x, .bool p.k]
def dP : Pc := ⟨0, 0, 0, ⟨#[]⟩, false⟩
def Pc.cells (p : Pc) : Array Value := #[.int .i64 p.f, .int .i64 p.t, .int .i64 p.q, .string p.x, .bool p.k]
/-- The parts of the new text, from offset f of the old one and q of the new one on. -/
def prl (s : ByteArray) (f q : Nat) : List Er → List Pc
  | [] => [⟨f, s.size, q, s.extract f s.size, true⟩]
  | e :: l => ⟨f, e.f, q, s.extract f e.f.toNat, true⟩ :: ⟨e.f, e.t, (q : Int) + (e.f - f), e.x, false⟩ :: prl s e.t.toNat (q + (e.f.toNat - f) + e.x.size) l
theorem prl_len (s : ByteArray) : ∀ (l : List Er) (f q : Nat), (prl s f q l).length = 2 * l.length + 1 := by
  intro l
  induction l with
  | nil => intro f q; rfl
  | cons e l ih => intro f q; simp only [prl, List.length_cons, ih]; omega
def pg (l : List Pc) (k : Nat) : Pc := l[k]?.getD dP
theorem pg_drop {l m : List Pc} {j : Nat} {p : Pc} (h : l.drop j = p :: m) : pg l j = p := by
  have : (l.drop j)[0]? = some p := by rw [h]; rfl
  rw [List.getElem?_drop, Nat.add_zero] at this
  simp [pg, this]
theorem drop_up {α : Type} {l m : List α} {j : Nat} {p : α} (h : l.drop j = p :: m) : l.drop (j + 1) = m := by
  rw [← List.drop_drop, h]; rfl

set_option maxRecDepth 100000 in
theorem end_any (p : Pc) (w : World) (h1 : -9223372036854775808 ≤ p.q + p.x.size) (h2 : p.q + p.x.size ≤ 9223372036854775807) :
    Calls Try.prog 47 #[p.val] w fun e w' => e = .returned (.int .i64 (p.q + p.x.size)) ∧ Below w.heap.size w w' := by
  obtain ⟨f, t, q, x, k⟩ := p
  simp only [Pc.val] at h1 h2 ⊢
  have H := Lib.hid ((Below.refl w.heap.size w).alloc (Nat.le_refl _) (.cells #[.int .i64 f, .int .i64 t, .int .i64 q, .string x, .bool k] 74))
  go_enter Try.func47, Try.ntmps47
  go_wp2
  go_ret
  exact ⟨rfl, H.out⟩

theorem parts_any (s : ByteArray) (a : Option Addr) (n cap : Nat) (w : World) :
    Calls Try.prog 46 #[.string s, .slice a n cap] w fun e w' =>
      e = .returned (.func (.func 67) #[] #[.pointer (some ⟨w.heap.size + 1, 0, none⟩), .pointer (some ⟨w.heap.size, 0, none⟩)]) ∧ w' = (w.alloc (.cells #[.string s] 9)).alloc (.cells #[.slice a n cap] 22) := by
  go_enter Try.func46, Try.ntmps46
  go_wp2
  go_ret
  exact ⟨rfl, rfl⟩

end Go.Proofs.Ytfhpllcdlejfjaa

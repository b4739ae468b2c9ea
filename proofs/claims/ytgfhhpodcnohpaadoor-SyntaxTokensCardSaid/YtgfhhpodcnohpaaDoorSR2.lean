/- The reference's Leaves, Text, Depth, Nodes. Conditions: trees of at most 100000 nodes. -/
import Derived.Test.YtgfhhpodcnohpaaDoorSRf
import Derived.Lib.MinMax
namespace Go.Proofs.YtgfhhpodcnohpaaDoor
open Go.RowKit Go.Shelf
set_option linter.unusedVariables false

/-- The bytes of leaves, one after the other. -/
def cat : List (Int × ByteArray) → ByteArray
  | [] => ⟨#[]⟩
  | x :: l => x.2 ++ cat l
theorem ba_nil (s : ByteArray) : s ++ (⟨#[]⟩ : ByteArray) = s := by
  apply ByteArray.ext; simp
theorem ba_nil2 (s : ByteArray) : (⟨#[]⟩ : ByteArray) ++ s = s := by
  apply ByteArray.ext; simp
theorem cat_app : ∀ (a b : List (Int × ByteArray)), cat (a ++ b) = cat a ++ cat b
  | [], b => by rw [List.nil_append, cat, ba_nil2]
  | x :: a, b => by rw [List.cons_append, cat, cat, cat_app a b, ByteArray.append_assoc]
theorem cat_size : ∀ (a : List (Int × ByteArray)), (cat a).size = wid a
  | [] => rfl
  | x :: a => by rw [cat, wid, ByteArray.size_append, cat_size a]
theorem cat_take (l : List (Int × ByteArray)) (k : Nat) (h : k < l.length) : cat (l.take (k + 1)) = cat (l.take k) ++ (l[k]).2 := by
  rw [List.take_succ_eq_append_getElem h, cat_app]
  show _ ++ ((l[k]).2 ++ (⟨#[]⟩ : ByteArray)) = _
  rw [ba_nil]
theorem wid_take2 (l : List (Int × ByteArray)) (k : Nat) : wid (l.take k) ≤ wid l := by
  have h : wid l = wid (l.take k) + wid (l.drop k) := by rw [← wid_app, List.take_append_drop]
  omega
theorem tkv_get : ∀ (l : List (Int × ByteArray × Nat)) (k : Nat) (h : k < l.length), (tkv l)[k * 3]? = some (.int .i64 (l[k]).1) ∧ (tkv l)[k * 3 + 1]? = some (.string (l[k]).2.1) ∧ (tkv l)[k * 3 + 2]? = some (.int .i64 ((l[k]).2.2 : Int)) := by
  intro l
  induction l with
  | nil => intro k h; simp at h
  | cons x l ih =>
    intro k h
    have e : tkv (x :: l) = Value.int .i64 x.1 :: Value.string x.2.1 :: Value.int .i64 (x.2.2 : Int) :: tkv l := rfl
    rw [e]
    cases k with
    | zero => exact ⟨rfl, rfl, rfl⟩
    | succ k =>
      have := ih k (by simpa using h)
      rw [show (k + 1) * 3 = k * 3 + 1 + 1 + 1 by omega]
      exact this
theorem toks_get : ∀ (l : List (Int × ByteArray)) (n k : Nat) (h : k < l.length), ((toks l n)[k]'(by rw [toks_len]; exact h)) = ((l[k]).1, (l[k]).2, n + wid (l.take k))
  | x :: l, n, 0, h => by simp [toks, wid]
  | x :: l, n, k + 1, h => by
    have h' : k < l.length := by simpa using h
    have ih := toks_get l (n + x.2.size) k h'
    simp only [toks, List.getElem_cons_succ, List.take_succ_cons, wid]
    rw [ih]
    congr 2
    omega

end Go.Proofs.YtgfhhpodcnohpaaDoor

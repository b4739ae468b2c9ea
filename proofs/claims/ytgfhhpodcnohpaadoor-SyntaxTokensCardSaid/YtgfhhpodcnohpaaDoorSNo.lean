/- The reference's Nodes. Conditions: trees of at most 100000 nodes. -/
import Derived.Test.YtgfhhpodcnohpaaDoorSR2
namespace Go.Proofs.YtgfhhpodcnohpaaDoor
open Go.RowKit Go.Shelf
set_option linter.unusedVariables false

theorem infoNd : (Tryd.prog.info? 60).map (fun i => (i.zero, i.size, i.bytes)) = some (some (.agg #[.int .i64 0, .int .i64 0, .string ⟨#[]⟩, .slice none 0 0]), 4, 56) := by kernel_rfl
/-- The cells of nodes in a row: their IDs. -/
def NdR (l : List Nd) (vs : List Value) : Prop := vs.length = l.length * 4 ∧ (∀ k (h : k < l.length), vs[k * 4]? = some (.int .i64 (l[k]).id)) ∧ ∀ u ∈ vs, u.oneCell' = true
theorem NdR.app {a b : List Nd} {va vb : List Value} (h1 : NdR a va) (h2 : NdR b vb) : NdR (a ++ b) (va ++ vb) := by
  refine ⟨by rw [List.length_append, List.length_append, h1.1, h2.1]; omega, fun k hk => ?_, fun u hu => (List.mem_append.1 hu).elim (h1.2.2 u) (h2.2.2 u)⟩
  by_cases hka : k < a.length
  · rw [List.getElem?_append_left (by rw [h1.1]; omega), List.getElem_append_left hka]; exact h1.2.1 k hka
  · rw [List.getElem?_append_right (by rw [h1.1]; omega), List.getElem_append_right (by omega), h1.1, show k * 4 - a.length * 4 = (k - a.length) * 4 by omega]
    exact h2.2.1 _ _
theorem NdR.one (t : Nd) (a : Option Addr) (n cap : Nat) : NdR [t] [.int .i64 t.id, .int .i64 t.kind, .string t.text, .slice a n cap] := by
  refine ⟨rfl, fun k hk => ?_, fun u hu => ?_⟩
  · obtain rfl : k = 0 := by simp at hk; omega
    rfl
  · simp at hu; rcases hu with rfl | rfl | rfl | rfl <;> rfl
mutual
theorem Nd.all_len : ∀ (t : Nd), t.all.length = t.cnt
  | .mk i k t ks => by rw [Nd.all, List.length_cons, alls_len ks, Nd.cnt]
theorem alls_len : ∀ (l : List Nd), (alls l).length = cnts l
  | [] => by rw [alls, cnts]; rfl
  | x :: l => by rw [alls, cnts, List.length_append, x.all_len, alls_len l]
end
theorem cntsA (a b : List Nd) : cnts (a ++ b) = cnts a + cnts b := by
  induction a with
  | nil => simp [cnts]
  | cons x a ih => rw [List.cons_append, cnts, cnts, ih]; omega
/-- A call hands back a row of nodes of its own. -/
def NewNd (w : World) (l : List Nd) (u : Value) (w' : World) : Prop := ∃ vs, w'.ownsRow w.heap.size 60 4 u l.length vs ∧ NdR l vs ∧ Below w.heap.size w w'

end Go.Proofs.YtgfhhpodcnohpaaDoor

/- The reference's Leaf, leaves, Leaves. Conditions: trees of at most 100000 nodes, texts of at most 1000000 bytes. -/
import Derived.Test.YtgfhhpodcnohpaaDoorSNd
import Derived.Test.YtgfhhpodcnohpaaDoorRowI
import Derived.Laws.AppendOwnNone
namespace Go.Proofs.YtgfhhpodcnohpaaDoor
open Go.RowKit Go.Shelf
set_option linter.unusedVariables false

/-- What the numbers of a tree are. -/
inductive NOk : Nd → Prop
  | mk {i k : Int} {t : ByteArray} {ks : List Nd} (hi : -9223372036854775808 ≤ i ∧ i ≤ 9223372036854775807) (hk : -9223372036854775808 ≤ k ∧ k ≤ 9223372036854775807) (hs : ∀ x ∈ ks, NOk x) : NOk (.mk i k t ks)

theorem own_base2 {w : World} {b b' e size n : Nat} {v : Value} {xs : List Value} (h : w.ownsRow b e size v n xs) (hb : b' ≤ b) : w.ownsRow b' e size v n xs := by
  refine ⟨h.1, ?_⟩
  rcases h.2 with hn | ⟨g, cap, cur, rfl, h1, r⟩
  · exact .inl hn
  · exact .inr ⟨g, cap, cur, rfl, by omega, r⟩
/-- The cells of tokens. -/
def tkv (l : List (Int × ByteArray × Nat)) : List Value := l.flatMap fun x => [.int .i64 x.1, .string x.2.1, .int .i64 (x.2.2 : Int)]
theorem tkv_app (a b : List (Int × ByteArray × Nat)) : tkv (a ++ b) = tkv a ++ tkv b := by simp [tkv]
theorem tkv_len (l : List (Int × ByteArray × Nat)) : (tkv l).length = l.length * 3 := by
  induction l with
  | nil => rfl
  | cons x l ih => simp only [tkv, List.flatMap_cons, List.length_append] at ih ⊢; rw [ih]; simp; omega
theorem tkv_one (l : List (Int × ByteArray × Nat)) : ∀ u ∈ tkv l, u.oneCell' = true := by
  intro u hu
  obtain ⟨p, _, hp⟩ := List.mem_flatMap.1 hu
  simp only [List.mem_cons, List.not_mem_nil, or_false] at hp
  rcases hp with rfl | rfl | rfl <;> rfl
theorem infoTk : (Tryd.prog.info? 31).map (fun i => (i.zero, i.size, i.bytes)) = some (some (.agg #[.int .i64 0, .string ⟨#[]⟩, .int .i64 0]), 3, 32) := by kernel_rfl
/-- A call hands back a row of tokens of its own. -/
def NewTk (w : World) (l : List (Int × ByteArray × Nat)) (u : Value) (w' : World) : Prop := w'.ownsRow w.heap.size 31 3 u l.length (tkv l) ∧ Below w.heap.size w w'
/-- The cells of an owned row, for an append of them. -/
theorem row_cells {w : World} {lo g n cap size : Nat} {e : TypeId} {xs : List Value} (h : w.ownsRow lo e size (.slice (some ⟨g, 0, none⟩) n cap) n xs) : ∀ j u, xs[j]? = some u → w.cell? ((⟨g, 0, none⟩ : Addr).add j) = some u := by
  intro j u hj
  have hl := h.1
  have hlt := (List.getElem?_eq_some_iff.1 hj).1
  rw [show (⟨g, 0, none⟩ : Addr).add j = ⟨g, j, none⟩ by by_cases h0 : j = 0 <;> simp [Addr.add, h0], h.cellAt j (by omega), hj]

end Go.Proofs.YtgfhhpodcnohpaaDoor

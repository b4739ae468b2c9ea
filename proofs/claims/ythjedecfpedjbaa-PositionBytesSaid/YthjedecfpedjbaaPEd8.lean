/- Rows of edits that a law makes. It has no conditions. -/
import Derived.Test.YthjedecfpedjbaaPEd7
namespace Go.Proofs.Ythjedecfpedjbaa
open Go.RowKit Go.Shelf
set_option linter.unusedVariables false

theorem pcells_news {B n : Nat} {w : World} {ad : Addr} {es : Nat → PE} (h : PCells B w (some ad) n es) : ∀ j u, (pvals es n)[j]? = some u → w.cell? (ad.add j) = some u := by
  rcases h with rfl | ⟨b, off, hb, _, hc⟩
  · intro j u hj; simp [pvals] at hj
  · cases hb
    exact pcells_get (B := B) hc n (Nat.le_refl _)
theorem pcells_rows {B n : Nat} {w : World} {x : Option Addr} {es : Nat → PE} (h : PCells B w x n es) (hx : n = 0 ∨ ∃ g, x = some ⟨g, 0, none⟩) :
    ∃ g, (n = 0 ∨ x = some ⟨g, 0, none⟩) ∧ ∀ k, k < n → ∀ W, Below B w W → W.cell? ⟨g, k * 5, none⟩ = some (.int .i64 (es k).l1) ∧ W.cell? ⟨g, k * 5 + 1, none⟩ = some (.int .i64 (es k).u1) ∧ W.cell? ⟨g, k * 5 + 2, none⟩ = some (.int .i64 (es k).l2) ∧ W.cell? ⟨g, k * 5 + 3, none⟩ = some (.int .i64 (es k).u2) ∧ W.cell? ⟨g, k * 5 + 4, none⟩ = some (.string (es k).t) := by
  rcases hx with h0 | ⟨g, rfl⟩
  · exact ⟨0, .inl h0, fun k hk => by omega⟩
  · rcases h with h0 | ⟨b, off, hb, hlt, hc⟩
    · exact ⟨0, .inl h0, fun k hk => by omega⟩
    · cases hb
      have hk : ∀ k, k < n → ∀ W, Below B w W → ∀ i, i < 5 → W.cell? ⟨g, k * 5 + i, none⟩ = (es k).vals[i]? := by
        intro k hk W hW i hi
        have := hc k hk i hi
        rw [Nat.zero_add] at this
        exact (hW.cell (p := ⟨g, k * 5 + i, none⟩) hlt).trans this
      exact ⟨g, .inr rfl, fun k hk' W hW => ⟨hk k hk' W hW 0 (by omega), hk k hk' W hW 1 (by omega), hk k hk' W hW 2 (by omega), hk k hk' W hW 3 (by omega), hk k hk' W hW 4 (by omega)⟩⟩
/-- The length of a slice. -/
def lenV : Value → Nat
  | .slice _ n _ => n
  | _ => 0
theorem infoP : (Try.prog.info? 43).map (fun i => (i.zero, i.size, i.bytes)) = some (some (.agg #[.int .i64 0, .int .i64 0, .int .i64 0, .int .i64 0, .string ⟨#[]⟩]), 5, 48) := by kernel_rfl

end Go.Proofs.Ythjedecfpedjbaa

/- Strings made of bytes. It has no conditions. -/
import Derived.Test.YtgfhhpodcnohpaaDoorBase
import Derived.Laws.BytesArg
import Derived.Laws.IdiomStrings
namespace Go.Proofs.YtgfhhpodcnohpaaDoor
open Go.RowKit Go.Shelf
set_option linter.unusedVariables false

/-- The string of these bytes. -/
def bs (Z : List Int) : ByteArray := ⟨(Z.map (fun c => UInt8.ofNat c.toNat)).toArray⟩
theorem sb_bs {Z : List Int} (h : Byt Z) : sb (bs Z) = Z := by
  unfold sb bs
  simp only [List.map_map]
  conv => rhs; rw [← List.map_id Z]
  apply List.map_congr_left
  intro c hc
  have := h c hc
  simp only [Function.comp, id]
  have h1 : (UInt8.ofNat c.toNat).toNat = c.toNat := by
    rw [UInt8.toNat_ofNat']; omega
  rw [h1]; omega
theorem bs_size (Z : List Int) : (bs Z).size = Z.length := by simp [bs, ByteArray.size]
theorem conv_str (W : World) (a : Option Addr) (cap : Nat) (Z : List Int) (hz : Byt Z) (h : Sli .u8 W a cap Z) :
    (convert 92 9 (.slice a Z.length cap)).run Tryd.prog W = .ok (.string (bs Z)) W := by
  rcases h.cells with h0 | ⟨b, off, rfl, _, hc⟩
  · subst h0
    rw [List.length_nil, run_convert_bytes_string W _ _ 5 a 0 cap Tryd.underlying92 Tryd.underlying5 Tryd.underlying9]
    cases a with
    | none => simp [Conv.bytesToString]; rfl
    | some x => simp [Conv.bytesToString, loadCells]; rfl
  · have h1 := run_convert_bytes_back (P := Tryd.prog) W 92 9 5 ⟨b, off, none⟩ cap (Z.map (fun c => UInt8.ofNat c.toNat)) Tryd.underlying92 Tryd.underlying5 Tryd.underlying9 (fun j hj => by
      have hj' : j < Z.length := by simpa using hj
      rw [show (⟨b, off, none⟩ : Addr).add j = ⟨b, off + j, none⟩ by by_cases h0 : j = 0 <;> simp [Addr.add, h0], hc j hj']
      have hb := hz Z[j] (List.getElem_mem hj')
      have h2 : (UInt8.ofNat Z[j].toNat).toNat = Z[j].toNat := by rw [UInt8.toNat_ofNat']; omega
      simp only [List.getElem_map, h2]
      simp [hj']
      omega)
    rw [List.length_map] at h1
    exact h1

end Go.Proofs.YtgfhhpodcnohpaaDoor

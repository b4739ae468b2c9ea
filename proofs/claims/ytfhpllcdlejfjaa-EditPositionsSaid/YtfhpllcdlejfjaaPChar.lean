/- Contracts of the reference's second, between and Char: they return what the document says of characters. Conditions: texts of at most 100000 bytes. -/
import Derived.Test.YtfhpllcdlejfjaaPMath
namespace Go.Proofs.Ytfhpllcdlejfjaa
open Go.RowKit Go.Shelf
set_option linter.unusedVariables false

theorem sb_getP (s : ByteArray) (i : Nat) (h : i < s.size) : ab (sb s) i = ((s[i]'h).toNat : Int) := by
  have h2 : i < s.data.size := h
  unfold ab sb
  rw [List.getElem?_map]
  have e2 : s.data.toList[i]? = some s.data[i] := by rw [Array.getElem?_toList]; exact Array.getElem?_eq_getElem h2
  rw [e2]; rfl
end Go.Proofs.Ytfhpllcdlejfjaa

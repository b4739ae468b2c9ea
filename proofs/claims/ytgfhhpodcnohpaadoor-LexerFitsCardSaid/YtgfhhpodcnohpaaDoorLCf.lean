/- Tokens: from what the row of LexerFits lists to the tables and the error in memory. It has no conditions. -/
import Derived.Test.YtgfhhpodcnohpaaDoorLCd
import Derived.Test.YtgfhhpodcnohpaaDoorLFu
import Derived.LaidLaws
namespace Go.Proofs.YtgfhhpodcnohpaaDoor
open Go.RowKit Go.Shelf
set_option linter.unusedVariables false

/-- The tables and the library's range error lie in memory. -/
structure LexF (w : World) : Prop where
  l : LexW w
  e : ErrW w
theorem gEr : Tryd.prog.globalNamed "strconv.ErrRange" = some 5 := by kernel_rfl
theorem tEr : (Tryd.prog.globals[5]?).map (·.type) = some 75 := by kernel_rfl
theorem laid_err {w : World} (h : Lib.VarReads Tryd.prog w "strconv.ErrRange" Rows.laid_strconv_ErrRange) : ErrW w := by
  obtain ⟨g', t', cs, fuel, p, hg', ht', hv, hd⟩ := h
  obtain rfl := Option.some.inj (gEr.symm.trans hg')
  obtain rfl := Option.some.inj (tEr.symm.trans ht')
  obtain ⟨f1, u, v, hcs, _, _⟩ := iface_of_trod Tryd.underlying75 hd
  have hv0 := World.var?_cell gEr hv 0
  have hcs0 : cs[0]? = some (.iface u v) := by
    rw [← Array.getElem?_toList, hcs]
    rfl
  rw [hcs0] at hv0
  exact ⟨u, v, hv0⟩
theorem laid_lexf {w : World} (h : laidMetH Tryd.prog Rows.lexerFitsRow.laid w) : LexF w := by
  rw [MakeChecks.laidMetH_plain _ _ _ (by kernel_rfl)] at h
  exact ⟨⟨laid_lex (Lib.laidMet.reads h (.tail _ (.tail _ (.tail _ (.tail _ (.tail _ (.tail _ (.head _)))))))) (Lib.laidMet.reads h (.tail _ (.tail _ (.tail _ (.tail _ (.tail _ (.tail _ (.tail _ (.head _))))))))),
    laid_utf8 (Lib.laidMet.reads h (.tail _ (.tail _ (.tail _ (.tail _ (.tail _ (.tail _ (.tail _ (.tail _ (.head _)))))))))) (Lib.laidMet.reads h (.tail _ (.tail _ (.tail _ (.head _)))))⟩,
    laid_err (Lib.laidMet.reads h (.tail _ (.tail _ (.tail _ (.tail _ (.head _))))))⟩

end Go.Proofs.YtgfhhpodcnohpaaDoor

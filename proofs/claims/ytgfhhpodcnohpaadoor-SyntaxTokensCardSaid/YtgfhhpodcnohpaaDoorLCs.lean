/- Tokens: from what the row of SyntaxTokens lists to the two tables in memory. It has no conditions. -/
import Derived.Test.YtgfhhpodcnohpaaDoorLCd
namespace Go.Proofs.YtgfhhpodcnohpaaDoor
open Go.RowKit Go.Shelf
set_option linter.unusedVariables false

theorem laid_lexs {w : World} (h : laidMetH Tryd.prog Rows.syntaxTokensRow.laid w) : LexT w := by
  rw [MakeChecks.laidMetH_plain _ _ _ (by kernel_rfl)] at h
  exact laid_lex (Lib.laidMet.reads h (.head _)) (Lib.laidMet.reads h (.tail _ (.head _)))

end Go.Proofs.YtgfhhpodcnohpaaDoor

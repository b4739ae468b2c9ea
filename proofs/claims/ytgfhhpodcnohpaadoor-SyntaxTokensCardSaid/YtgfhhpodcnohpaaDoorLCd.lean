/- Tokens: from what the row lists to the tables in memory. It has no conditions. -/
import Derived.Test.YtgfhhpodcnohpaaDoorLPo
import Derived.Test.YtgfhhpodcnohpaaDoorRows
import Derived.PinnedBridge
import Derived.Lib.LaidU8T
import Derived.Deep.Strs
import Derived.Lay
import Derived.MakeChecks
namespace Go.Proofs.YtgfhhpodcnohpaaDoor
open Go.RowKit Go.Shelf Go.Deep
set_option linter.unusedVariables false

theorem data_sb {s : ByteArray} {l : List UInt8} (h : s.data.toList = l) : sb s = l.map fun c => (c.toNat : Int) := by
  unfold sb
  rw [h]
/-- A table of texts that reads as listed. -/
theorem tab_of_reads {g : Nat} {n : String} {D : List (List UInt8)} {w : World} (hg : Tryd.prog.globalNamed n = some g) (ht : (Tryd.prog.globals[g]?).map (·.type) = some 23) (hD : 0 < D.length)
    (h : Lib.VarReads Tryd.prog w n (.slice (D.map fun l => .lit (.string l)) [])) : Tab g (D.map fun l => l.map fun c => (c.toNat : Int)) w := by
  obtain ⟨g', t', cs, fuel, p, hg', ht', hv, hd⟩ := h
  obtain rfl := Option.some.inj (hg.symm.trans hg')
  obtain rfl := Option.some.inj (ht.symm.trans ht')
  have hc1 : Tryd.prog.cellsOf 9 = 1 := by kernel_rfl
  rcases open_strs Tryd.underlying23 Tryd.underlying9 hc1 hd with ⟨_, hx⟩ | ⟨a, len, cap, m, Sx, hcs, _, hl, _, hm, hx, hcell⟩
  · simp at hx
  · simp only [if_true] at hm
    simp only [Prod.mk.injEq, DataW.slice.injEq] at hx
    obtain ⟨⟨hx1, hx2⟩, _⟩ := hx
    have hlen : D.length = len := by
      have := congrArg List.length hx1
      simpa using this
    have hv0 := World.var?_cell hg hv 0
    have hcs0 : cs[0]? = some (.slice (some a) len cap) := by
      rw [← Array.getElem?_toList, hcs]
      rfl
    rw [hcs0] at hv0
    have hmc : len ≤ m := by
      rw [hm]
      exact hl
    refine ⟨a, cap, Sx, ?_, fun i hi => (hcell i (by rw [List.length_map] at hi; omega)).1, fun i hi => ?_⟩
    · rw [List.length_map, hlen]
      exact hv0
    · rw [List.length_map] at hi
      have h1 := congrArg (fun l => l[i]?) hx1
      simp only [List.getElem?_map, List.getElem?_range (show i < len by omega), Option.map_some, List.getElem?_eq_getElem hi, Option.some.injEq, DataW.lit.injEq, Lit.string.injEq] at h1
      rw [List.getElem?_map, List.getElem?_eq_getElem hi, Option.map_some, data_sb h1.symm]

theorem gKw : Tryd.prog.globalNamed "schemalens/lexer.keywords" = some 0 := by kernel_rfl
theorem gSy : Tryd.prog.globalNamed "schemalens/lexer.symbols" = some 6 := by kernel_rfl
theorem tKw : (Tryd.prog.globals[0]?).map (·.type) = some 23 := by kernel_rfl
theorem tSy : (Tryd.prog.globals[6]?).map (·.type) = some 23 := by kernel_rfl
def dKw : List (List UInt8) := KW.map fun l => l.map fun c => UInt8.ofNat c.toNat
def dSy : List (List UInt8) := SY.map fun l => l.map fun c => UInt8.ofNat c.toNat
theorem eKw : (dKw.map fun l => l.map fun c => (c.toNat : Int)) = KW := by kernel_rfl
theorem eSy : (dSy.map fun l => l.map fun c => (c.toNat : Int)) = SY := by kernel_rfl
theorem laid_lex {w : World} (h1 : Lib.VarReads Tryd.prog w "schemalens/lexer.keywords" Rows.laid_schemalens_lexer_keywords) (h2 : Lib.VarReads Tryd.prog w "schemalens/lexer.symbols" Rows.laid_schemalens_lexer_symbols) : LexT w :=
  ⟨eKw ▸ tab_of_reads (D := dKw) gKw tKw (by decide) h1, eSy ▸ tab_of_reads (D := dSy) gSy tSy (by decide) h2⟩
theorem xU8 : U8Extra Tryd.prog Hs.vsA_ren := ⟨by kernel_rfl, by kernel_rfl, by kernel_rfl, by kernel_rfl, by kernel_rfl, by kernel_rfl, by kernel_rfl⟩
theorem laid_utf8 {w : World} (h3 : Lib.VarReads Tryd.prog w "unicode/utf8.first" Rows.laid_unicode_utf8_first) (h4 : Lib.VarReads Tryd.prog w "unicode/utf8.acceptRanges" Rows.laid_unicode_utf8_acceptRanges) : Lib.Utf8Tabs 1 2 w :=
  utf8Tabs_of_readsT (U8Types.of196 Hs.vsA) xU8 (Pinned.utf8First_eq ▸ h3) h4
/-- What the row's list gives: all four tables lie in memory. -/
theorem laid_lexw {w : World} (h : laidMetH Tryd.prog Rows.lexerTokensRow.laid w) : LexW w := by
  rw [MakeChecks.laidMetH_plain _ _ _ (by kernel_rfl)] at h
  exact ⟨laid_lex (Lib.laidMet.reads h (.tail _ (.head _))) (Lib.laidMet.reads h (.tail _ (.tail _ (.head _)))), laid_utf8 (Lib.laidMet.reads h (.tail _ (.tail _ (.tail _ (.head _))))) (Lib.laidMet.reads h (.head _))⟩

end Go.Proofs.YtgfhhpodcnohpaaDoor

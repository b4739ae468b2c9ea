/-
  NARROWER THAN 'FOR EVERY INPUT', by the rows' own cells (each row's printed sentence says how): LexerTokens: laid · LexerWhole: laid · LexerFits: laid · LexerQuotes: laid · LexerJoins: laid · LexerLocal: laid · LexerLines: laid · LexerEdits: laid · SyntaxTokens: laid.
  DERIVED. THE GIVEN ROWS OF THIS SEAT. 9 by the template 'for every input the law returns true; each argument reads behind the call as it read before'; 0 by the template 'total and deterministic' (their statements: YtgfhhpodcnohpaaDoorTotals.lean).
  GIVEN WITH THE SEED: the statements are not yours to turn. If you find one false, say at which input.
  Laid BY PROGRAM, IN A SANDBOX (cutbox-rows.mjs): the forced cells as the released guide's own fill.sh prints them over the translation a733867ae7050edc… (all of the seat's roots in one cut). By AI agents, Wed Nov 11 2026. No macro, syntax, notation, axiom, sorry.
-/
import Derived.Test.YtgfhhpodcnohpaaDoorChecked
import GoSem.PinnedTables
import GoSem.Claim
import GoSem.ClaimJoined
import GoSem.ClaimMapViews
import Derived.JoinedTies
import Derived.KernelRfl
namespace Go.Proofs.YtgfhhpodcnohpaaDoor
/- THE CELL 'sum', in the pinned program and in every row, IS THE sha256 OF THE DUMP (.gsa) THAT YtgfhhpodcnohpaaDoorProg.lean LOADS. Nothing in Lean hashes anything: it is a label: what it is worth is what the hold of that sum in a sandbox is worth. -/
noncomputable def Tryd.pinned : Pinned := { name := "ytgfhhpodcnohpaadoor", sum := "a733867ae7050edc5329c11241a7c7923265af52d44a6a1f83b4990cfb9bc47e", checked := Tryd.checked }
namespace Rows
def none {H : Type} : Left H := { results := [], args := [] }

/- WHAT THE LISTED PACKAGE-LEVEL VARIABLES READ AS WHEN THE CALL BEGINS. Each datum BY PROGRAM (the guide's laid-datum.mjs) off the statement by which the dump's own 'gosem.cut.vars' lays the variable. In a bare row this is a premise. The card (YtgfhhpodcnohpaaDoorCards.lean) ties it to the program's text. -/
def laid_unicode_utf8_acceptRanges {H : Type} : DataW H := .agg [.agg [.lit (.int .u8 128), .lit (.int .u8 191)], .agg [.lit (.int .u8 160), .lit (.int .u8 191)], .agg [.lit (.int .u8 128), .lit (.int .u8 159)], .agg [.lit (.int .u8 144), .lit (.int .u8 191)], .agg [.lit (.int .u8 128), .lit (.int .u8 143)], .agg [.lit (.int .u8 0), .lit (.int .u8 0)], .agg [.lit (.int .u8 0), .lit (.int .u8 0)], .agg [.lit (.int .u8 0), .lit (.int .u8 0)], .agg [.lit (.int .u8 0), .lit (.int .u8 0)], .agg [.lit (.int .u8 0), .lit (.int .u8 0)], .agg [.lit (.int .u8 0), .lit (.int .u8 0)], .agg [.lit (.int .u8 0), .lit (.int .u8 0)], .agg [.lit (.int .u8 0), .lit (.int .u8 0)], .agg [.lit (.int .u8 0), .lit (.int .u8 0)], .agg [.lit (.int .u8 0), .lit (.int .u8 0)], .agg [.lit (.int .u8 0), .lit (.int .u8 0)]]
def laid_schemalens_lexer_keywords {H : Type} : DataW H := .slice [.lit (.string [116, 121, 112, 101]), .lit (.string [116, 97, 98, 108, 101]), .lit (.string [107, 101, 121]), .lit (.string [114, 101, 102]), .lit (.string [116, 111]), .lit (.string [99, 104, 101, 99, 107]), .lit (.string [102, 117, 110]), .lit (.string [112, 114, 111, 99]), .lit (.string [108, 101, 116]), .lit (.string [105, 110]), .lit (.string [105, 102]), .lit (.string [116, 104, 101, 110]), .lit (.string [101, 108, 115, 101]), .lit (.string [109, 97, 116, 99, 104]), .lit (.string [105, 110, 115, 101, 114, 116]), .lit (.string [100, 101, 108, 101, 116, 101]), .lit (.string [97, 115]), .lit (.string [119, 104, 101, 114, 101]), .lit (.string [117, 112, 100, 97, 116, 101]), .lit (.string [115, 101, 116]), .lit (.string [119, 105, 116, 104]), .lit (.string [97, 110, 100]), .lit (.string [111, 114]), .lit (.string [110, 111, 116]), .lit (.string [116, 114, 117, 101]), .lit (.string [102, 97, 108, 115, 101])] []
def laid_schemalens_lexer_symbols {H : Type} : DataW H := .slice [.lit (.string [61, 61]), .lit (.string [33, 61]), .lit (.string [60, 61]), .lit (.string [60, 45]), .lit (.string [45, 62]), .lit (.string [43, 43]), .lit (.string [60]), .lit (.string [62]), .lit (.string [61]), .lit (.string [43]), .lit (.string [45]), .lit (.string [42]), .lit (.string [40]), .lit (.string [41]), .lit (.string [123]), .lit (.string [125]), .lit (.string [91]), .lit (.string [93]), .lit (.string [44]), .lit (.string [46]), .lit (.string [58]), .lit (.string [124]), .lit (.string [59]), .lit (.string [63])] []
/-- One of Go's own tables, pinned by name: the form's constant. -/
def laid_unicode_utf8_first : DataW Unit := Go.Pinned.utf8First
def laid_math_bits_deBruijn32tab {H : Type} : DataW H := .agg [.lit (.int .u8 0), .lit (.int .u8 1), .lit (.int .u8 28), .lit (.int .u8 2), .lit (.int .u8 29), .lit (.int .u8 14), .lit (.int .u8 24), .lit (.int .u8 3), .lit (.int .u8 30), .lit (.int .u8 22), .lit (.int .u8 20), .lit (.int .u8 15), .lit (.int .u8 25), .lit (.int .u8 17), .lit (.int .u8 4), .lit (.int .u8 8), .lit (.int .u8 31), .lit (.int .u8 27), .lit (.int .u8 13), .lit (.int .u8 23), .lit (.int .u8 21), .lit (.int .u8 19), .lit (.int .u8 16), .lit (.int .u8 7), .lit (.int .u8 26), .lit (.int .u8 12), .lit (.int .u8 18), .lit (.int .u8 6), .lit (.int .u8 11), .lit (.int .u8 5), .lit (.int .u8 10), .lit (.int .u8 9)]
def laid_math_bits_deBruijn64tab {H : Type} : DataW H := .agg [.lit (.int .u8 0), .lit (.int .u8 1), .lit (.int .u8 56), .lit (.int .u8 2), .lit (.int .u8 57), .lit (.int .u8 49), .lit (.int .u8 28), .lit (.int .u8 3), .lit (.int .u8 61), .lit (.int .u8 58), .lit (.int .u8 42), .lit (.int .u8 50), .lit (.int .u8 38), .lit (.int .u8 29), .lit (.int .u8 17), .lit (.int .u8 4), .lit (.int .u8 62), .lit (.int .u8 47), .lit (.int .u8 59), .lit (.int .u8 36), .lit (.int .u8 45), .lit (.int .u8 43), .lit (.int .u8 51), .lit (.int .u8 22), .lit (.int .u8 53), .lit (.int .u8 39), .lit (.int .u8 33), .lit (.int .u8 30), .lit (.int .u8 24), .lit (.int .u8 18), .lit (.int .u8 12), .lit (.int .u8 5), .lit (.int .u8 63), .lit (.int .u8 55), .lit (.int .u8 48), .lit (.int .u8 27), .lit (.int .u8 60), .lit (.int .u8 41), .lit (.int .u8 37), .lit (.int .u8 16), .lit (.int .u8 46), .lit (.int .u8 35), .lit (.int .u8 44), .lit (.int .u8 21), .lit (.int .u8 52), .lit (.int .u8 32), .lit (.int .u8 23), .lit (.int .u8 11), .lit (.int .u8 54), .lit (.int .u8 26), .lit (.int .u8 40), .lit (.int .u8 15), .lit (.int .u8 34), .lit (.int .u8 20), .lit (.int .u8 31), .lit (.int .u8 10), .lit (.int .u8 25), .lit (.int .u8 14), .lit (.int .u8 19), .lit (.int .u8 9), .lit (.int .u8 13), .lit (.int .u8 8), .lit (.int .u8 7), .lit (.int .u8 6)]
def laid_internal_strconv_uint64pow10 {H : Type} : DataW H := .agg [.lit (.int .u64 1), .lit (.int .u64 10), .lit (.int .u64 100), .lit (.int .u64 1000), .lit (.int .u64 10000), .lit (.int .u64 100000), .lit (.int .u64 1000000), .lit (.int .u64 10000000), .lit (.int .u64 100000000), .lit (.int .u64 1000000000), .lit (.int .u64 10000000000), .lit (.int .u64 100000000000), .lit (.int .u64 1000000000000), .lit (.int .u64 10000000000000), .lit (.int .u64 100000000000000), .lit (.int .u64 1000000000000000), .lit (.int .u64 10000000000000000), .lit (.int .u64 100000000000000000), .lit (.int .u64 1000000000000000000), .lit (.int .u64 10000000000000000000)]
def laid_strconv_ErrRange {H : Type} : DataW H := .iface "*errors.errorString" (.ptr (.agg [.lit (.string [118, 97, 108, 117, 101, 32, 111, 117, 116, 32, 111, 102, 32, 114, 97, 110, 103, 101])]))
def laid_strconv_ErrSyntax {H : Type} : DataW H := .iface "*errors.errorString" (.ptr (.agg [.lit (.string [105, 110, 118, 97, 108, 105, 100, 32, 115, 121, 110, 116, 97, 120])]))

/-- 'schemalenslaw06.LexerTokens': WHATEVER THE INPUT: true; the input reads as it did. -/
def lexerTokensSpec : ChangeSpec := { name := "lexerTokens", fn := fun _ => fun
  | [d1, d2] => { results := [.lit (.bool true)], args := [d1, d2] }
  | _ => none }
def lexerTokensRow : OpenClaim := { program := "ytgfhhpodcnohpaadoor", sum := "a733867ae7050edc5329c11241a7c7923265af52d44a6a1f83b4990cfb9bc47e", func := "schemalens/schemalenslaw06.LexerTokens", spec := "lexerTokens", inPlace := ["internal/bytealg.IndexByteString", "internal/bytealg.IndexString"], unfollowed := true, recurses := true, named := ["internal/bytealg.MaxLen", "schemalens/lexer.keywords", "schemalens/lexer.symbols", "unicode/utf8.first", "unicode/utf8.acceptRanges"], apart := false, laid := [("unicode/utf8.acceptRanges", laid_unicode_utf8_acceptRanges), ("schemalens/lexer.keywords", laid_schemalens_lexer_keywords), ("schemalens/lexer.symbols", laid_schemalens_lexer_symbols), ("unicode/utf8.first", laid_unicode_utf8_first)] }
def LexerTokensSaid : Prop := lexerTokensRow.holds Tryd.pinned (OpenSpec.ofChange lexerTokensSpec)

/-- ITS FALSE NEIGHBOUR: 'it returns false'. Refute it at one input. -/
def lexerTokensWrong : ChangeSpec := { name := "lexerTokens", fn := fun _ => fun
  | [d1, d2] => { results := [.lit (.bool false)], args := [d1, d2] }
  | _ => none }
def LexerTokensWrongFalsely : Prop := lexerTokensRow.holds Tryd.pinned (OpenSpec.ofChange lexerTokensWrong)

/-- 'schemalenslaw06.LexerWhole': WHATEVER THE INPUT: true; the input reads as it did. -/
def lexerWholeSpec : ChangeSpec := { name := "lexerWhole", fn := fun _ => fun
  | [d1, d2] => { results := [.lit (.bool true)], args := [d1, d2] }
  | _ => none }
def lexerWholeRow : OpenClaim := { program := "ytgfhhpodcnohpaadoor", sum := "a733867ae7050edc5329c11241a7c7923265af52d44a6a1f83b4990cfb9bc47e", func := "schemalens/schemalenslaw06.LexerWhole", spec := "lexerWhole", inPlace := ["internal/bytealg.IndexByteString", "internal/bytealg.IndexString"], unfollowed := true, recurses := true, named := ["internal/bytealg.MaxLen", "schemalens/lexer.keywords", "schemalens/lexer.symbols", "unicode/utf8.first", "unicode/utf8.acceptRanges"], apart := false, laid := [("unicode/utf8.acceptRanges", laid_unicode_utf8_acceptRanges), ("schemalens/lexer.keywords", laid_schemalens_lexer_keywords), ("schemalens/lexer.symbols", laid_schemalens_lexer_symbols), ("unicode/utf8.first", laid_unicode_utf8_first)] }
def LexerWholeSaid : Prop := lexerWholeRow.holds Tryd.pinned (OpenSpec.ofChange lexerWholeSpec)

/-- ITS FALSE NEIGHBOUR: 'it returns false'. Refute it at one input. -/
def lexerWholeWrong : ChangeSpec := { name := "lexerWhole", fn := fun _ => fun
  | [d1, d2] => { results := [.lit (.bool false)], args := [d1, d2] }
  | _ => none }
def LexerWholeWrongFalsely : Prop := lexerWholeRow.holds Tryd.pinned (OpenSpec.ofChange lexerWholeWrong)

/-- 'schemalenslaw06.LexerFits': WHATEVER THE INPUT: true; the input reads as it did. -/
def lexerFitsSpec : ChangeSpec := { name := "lexerFits", fn := fun _ => fun
  | [d1, d2, d3, d4] => { results := [.lit (.bool true)], args := [d1, d2, d3, d4] }
  | _ => none }
def lexerFitsRow : OpenClaim := { program := "ytgfhhpodcnohpaadoor", sum := "a733867ae7050edc5329c11241a7c7923265af52d44a6a1f83b4990cfb9bc47e", func := "schemalens/schemalenslaw06.LexerFits", spec := "lexerFits", inPlace := ["internal/bytealg.IndexByteString", "internal/bytealg.IndexString"], unfollowed := true, recurses := true, named := ["schemalens/lexer.keywords", "internal/bytealg.MaxLen", "schemalens/lexer.symbols", "strconv.ErrSyntax", "strconv.ErrRange", "internal/strconv.uint64pow10", "math/bits.deBruijn32tab", "math/bits.deBruijn64tab", "unicode/utf8.first", "unicode/utf8.acceptRanges"], apart := false, laid := [("math/bits.deBruijn32tab", laid_math_bits_deBruijn32tab), ("math/bits.deBruijn64tab", laid_math_bits_deBruijn64tab), ("internal/strconv.uint64pow10", laid_internal_strconv_uint64pow10), ("unicode/utf8.acceptRanges", laid_unicode_utf8_acceptRanges), ("strconv.ErrRange", laid_strconv_ErrRange), ("strconv.ErrSyntax", laid_strconv_ErrSyntax), ("schemalens/lexer.keywords", laid_schemalens_lexer_keywords), ("schemalens/lexer.symbols", laid_schemalens_lexer_symbols), ("unicode/utf8.first", laid_unicode_utf8_first)] }
def LexerFitsSaid : Prop := lexerFitsRow.holds Tryd.pinned (OpenSpec.ofChange lexerFitsSpec)

/-- ITS FALSE NEIGHBOUR: 'it returns false'. Refute it at one input. -/
def lexerFitsWrong : ChangeSpec := { name := "lexerFits", fn := fun _ => fun
  | [d1, d2, d3, d4] => { results := [.lit (.bool false)], args := [d1, d2, d3, d4] }
  | _ => none }
def LexerFitsWrongFalsely : Prop := lexerFitsRow.holds Tryd.pinned (OpenSpec.ofChange lexerFitsWrong)

/-- 'schemalenslaw06.LexerQuotes': WHATEVER THE INPUT: true; the input reads as it did. -/
def lexerQuotesSpec : ChangeSpec := { name := "lexerQuotes", fn := fun _ => fun
  | [d1, d2] => { results := [.lit (.bool true)], args := [d1, d2] }
  | _ => none }
def lexerQuotesRow : OpenClaim := { program := "ytgfhhpodcnohpaadoor", sum := "a733867ae7050edc5329c11241a7c7923265af52d44a6a1f83b4990cfb9bc47e", func := "schemalens/schemalenslaw06.LexerQuotes", spec := "lexerQuotes", inPlace := ["internal/bytealg.IndexByteString", "internal/bytealg.IndexString"], unfollowed := true, recurses := true, named := ["unicode/utf8.first", "unicode/utf8.acceptRanges", "internal/bytealg.MaxLen", "schemalens/lexer.keywords", "schemalens/lexer.symbols"], apart := false, laid := [("unicode/utf8.acceptRanges", laid_unicode_utf8_acceptRanges), ("schemalens/lexer.keywords", laid_schemalens_lexer_keywords), ("schemalens/lexer.symbols", laid_schemalens_lexer_symbols), ("unicode/utf8.first", laid_unicode_utf8_first)] }
def LexerQuotesSaid : Prop := lexerQuotesRow.holds Tryd.pinned (OpenSpec.ofChange lexerQuotesSpec)

/-- ITS FALSE NEIGHBOUR: 'it returns false'. Refute it at one input. -/
def lexerQuotesWrong : ChangeSpec := { name := "lexerQuotes", fn := fun _ => fun
  | [d1, d2] => { results := [.lit (.bool false)], args := [d1, d2] }
  | _ => none }
def LexerQuotesWrongFalsely : Prop := lexerQuotesRow.holds Tryd.pinned (OpenSpec.ofChange lexerQuotesWrong)

/-- 'schemalenslaw06.LexerJoins': WHATEVER THE INPUT: true; the input reads as it did. -/
def lexerJoinsSpec : ChangeSpec := { name := "lexerJoins", fn := fun _ => fun
  | [d1, d2] => { results := [.lit (.bool true)], args := [d1, d2] }
  | _ => none }
def lexerJoinsRow : OpenClaim := { program := "ytgfhhpodcnohpaadoor", sum := "a733867ae7050edc5329c11241a7c7923265af52d44a6a1f83b4990cfb9bc47e", func := "schemalens/schemalenslaw06.LexerJoins", spec := "lexerJoins", inPlace := ["internal/bytealg.IndexByteString", "internal/bytealg.IndexString"], unfollowed := true, recurses := true, named := ["internal/bytealg.MaxLen", "schemalens/lexer.keywords", "schemalens/lexer.symbols", "unicode/utf8.first", "unicode/utf8.acceptRanges"], apart := false, laid := [("unicode/utf8.acceptRanges", laid_unicode_utf8_acceptRanges), ("schemalens/lexer.keywords", laid_schemalens_lexer_keywords), ("schemalens/lexer.symbols", laid_schemalens_lexer_symbols), ("unicode/utf8.first", laid_unicode_utf8_first)] }
def LexerJoinsSaid : Prop := lexerJoinsRow.holds Tryd.pinned (OpenSpec.ofChange lexerJoinsSpec)

/-- ITS FALSE NEIGHBOUR: 'it returns false'. Refute it at one input. -/
def lexerJoinsWrong : ChangeSpec := { name := "lexerJoins", fn := fun _ => fun
  | [d1, d2] => { results := [.lit (.bool false)], args := [d1, d2] }
  | _ => none }
def LexerJoinsWrongFalsely : Prop := lexerJoinsRow.holds Tryd.pinned (OpenSpec.ofChange lexerJoinsWrong)

/-- 'schemalenslaw06.LexerLocal': WHATEVER THE INPUT: true; the input reads as it did. -/
def lexerLocalSpec : ChangeSpec := { name := "lexerLocal", fn := fun _ => fun
  | [d1, d2, d3, d4] => { results := [.lit (.bool true)], args := [d1, d2, d3, d4] }
  | _ => none }
def lexerLocalRow : OpenClaim := { program := "ytgfhhpodcnohpaadoor", sum := "a733867ae7050edc5329c11241a7c7923265af52d44a6a1f83b4990cfb9bc47e", func := "schemalens/schemalenslaw06.LexerLocal", spec := "lexerLocal", inPlace := ["internal/bytealg.IndexByteString", "internal/bytealg.IndexString"], unfollowed := true, recurses := true, named := ["internal/bytealg.MaxLen", "schemalens/lexer.keywords", "schemalens/lexer.symbols", "unicode/utf8.first", "unicode/utf8.acceptRanges"], apart := false, laid := [("unicode/utf8.acceptRanges", laid_unicode_utf8_acceptRanges), ("schemalens/lexer.keywords", laid_schemalens_lexer_keywords), ("schemalens/lexer.symbols", laid_schemalens_lexer_symbols), ("unicode/utf8.first", laid_unicode_utf8_first)] }
def LexerLocalSaid : Prop := lexerLocalRow.holds Tryd.pinned (OpenSpec.ofChange lexerLocalSpec)

/-- ITS FALSE NEIGHBOUR: 'it returns false'. Refute it at one input. -/
def lexerLocalWrong : ChangeSpec := { name := "lexerLocal", fn := fun _ => fun
  | [d1, d2, d3, d4] => { results := [.lit (.bool false)], args := [d1, d2, d3, d4] }
  | _ => none }
def LexerLocalWrongFalsely : Prop := lexerLocalRow.holds Tryd.pinned (OpenSpec.ofChange lexerLocalWrong)

/-- 'schemalenslaw06.LexerLines': WHATEVER THE INPUT: true; the input reads as it did. -/
def lexerLinesSpec : ChangeSpec := { name := "lexerLines", fn := fun _ => fun
  | [d1, d2, d3, d4] => { results := [.lit (.bool true)], args := [d1, d2, d3, d4] }
  | _ => none }
def lexerLinesRow : OpenClaim := { program := "ytgfhhpodcnohpaadoor", sum := "a733867ae7050edc5329c11241a7c7923265af52d44a6a1f83b4990cfb9bc47e", func := "schemalens/schemalenslaw06.LexerLines", spec := "lexerLines", inPlace := ["internal/bytealg.IndexByteString", "internal/bytealg.IndexString"], unfollowed := true, recurses := true, named := ["internal/bytealg.MaxLen", "schemalens/lexer.keywords", "schemalens/lexer.symbols", "unicode/utf8.first", "unicode/utf8.acceptRanges"], apart := false, laid := [("unicode/utf8.acceptRanges", laid_unicode_utf8_acceptRanges), ("schemalens/lexer.keywords", laid_schemalens_lexer_keywords), ("schemalens/lexer.symbols", laid_schemalens_lexer_symbols), ("unicode/utf8.first", laid_unicode_utf8_first)] }
def LexerLinesSaid : Prop := lexerLinesRow.holds Tryd.pinned (OpenSpec.ofChange lexerLinesSpec)

/-- ITS FALSE NEIGHBOUR: 'it returns false'. Refute it at one input. -/
def lexerLinesWrong : ChangeSpec := { name := "lexerLines", fn := fun _ => fun
  | [d1, d2, d3, d4] => { results := [.lit (.bool false)], args := [d1, d2, d3, d4] }
  | _ => none }
def LexerLinesWrongFalsely : Prop := lexerLinesRow.holds Tryd.pinned (OpenSpec.ofChange lexerLinesWrong)

/-- 'schemalenslaw06.LexerEdits': WHATEVER THE INPUT: true; the input reads as it did. -/
def lexerEditsSpec : ChangeSpec := { name := "lexerEdits", fn := fun _ => fun
  | [d1, d2] => { results := [.lit (.bool true)], args := [d1, d2] }
  | _ => none }
def lexerEditsRow : OpenClaim := { program := "ytgfhhpodcnohpaadoor", sum := "a733867ae7050edc5329c11241a7c7923265af52d44a6a1f83b4990cfb9bc47e", func := "schemalens/schemalenslaw06.LexerEdits", spec := "lexerEdits", inPlace := ["internal/bytealg.IndexByteString", "internal/bytealg.IndexString", "internal/bytealg.CountString", "internal/abi.NoEscape"], unfollowed := true, recurses := true, named := ["internal/bytealg.MaxLen", "schemalens/lexer.keywords", "schemalens/lexer.symbols", "unicode/utf8.first", "unicode/utf8.acceptRanges"], apart := false, laid := [("unicode/utf8.acceptRanges", laid_unicode_utf8_acceptRanges), ("schemalens/lexer.keywords", laid_schemalens_lexer_keywords), ("schemalens/lexer.symbols", laid_schemalens_lexer_symbols), ("unicode/utf8.first", laid_unicode_utf8_first)] }
def LexerEditsSaid : Prop := lexerEditsRow.holds Tryd.pinned (OpenSpec.ofChange lexerEditsSpec)

/-- ITS FALSE NEIGHBOUR: 'it returns false'. Refute it at one input. -/
def lexerEditsWrong : ChangeSpec := { name := "lexerEdits", fn := fun _ => fun
  | [d1, d2] => { results := [.lit (.bool false)], args := [d1, d2] }
  | _ => none }
def LexerEditsWrongFalsely : Prop := lexerEditsRow.holds Tryd.pinned (OpenSpec.ofChange lexerEditsWrong)

/-- 'schemalenslaw07.SyntaxTokens': WHATEVER THE INPUT: true; the input reads as it did. -/
def syntaxTokensSpec : ChangeSpec := { name := "syntaxTokens", fn := fun _ => fun
  | [d1, d2, d3] => { results := [.lit (.bool true)], args := [d1, d2, d3] }
  | _ => none }
def syntaxTokensRow : OpenClaim := { program := "ytgfhhpodcnohpaadoor", sum := "a733867ae7050edc5329c11241a7c7923265af52d44a6a1f83b4990cfb9bc47e", func := "schemalens/schemalenslaw07.SyntaxTokens", spec := "syntaxTokens", inPlace := ["internal/bytealg.IndexByteString", "internal/bytealg.IndexString", "internal/abi.NoEscape"], unfollowed := true, recurses := true, named := ["internal/bytealg.MaxLen", "schemalens/lexer.keywords", "schemalens/lexer.symbols"], apart := false, laid := [("schemalens/lexer.keywords", laid_schemalens_lexer_keywords), ("schemalens/lexer.symbols", laid_schemalens_lexer_symbols)] }
def SyntaxTokensSaid : Prop := syntaxTokensRow.holds Tryd.pinned (OpenSpec.ofChange syntaxTokensSpec)

/-- ITS FALSE NEIGHBOUR: 'it returns false'. Refute it at one input. -/
def syntaxTokensWrong : ChangeSpec := { name := "syntaxTokens", fn := fun _ => fun
  | [d1, d2, d3] => { results := [.lit (.bool false)], args := [d1, d2, d3] }
  | _ => none }
def SyntaxTokensWrongFalsely : Prop := syntaxTokensRow.holds Tryd.pinned (OpenSpec.ofChange syntaxTokensWrong)

/- THE SECOND FORM. 'bulk': how many values and letters a reading holds, each counted each time it is reached (what is shared counts as often as it is met; a slice's spare places count too). A statement '..UptoSaid' is the law's where the arguments, and the package variables that the reading takes, are together of bulk at most 1048576: NARROWER than '..Said'. Prove '..Said' where nothing that the law and all that it calls make is longer than what came in: it says more and counts as full. Else prove '..UptoSaid'. A law counts once. -/
mutual
def uptoBulk {H : Type} : DataW H → Nat
  | .lit (.string bytes) => bytes.length + 1
  | .lit _ => 1
  | .nil => 1
  | .ptr d => uptoBulk d + 1
  | .slice elems spare => uptoBulkAll elems + uptoBulkAll spare + 1
  | .agg parts => uptoBulkAll parts + 1
  | .iface _ d => uptoBulk d + 1
  | .map entries => uptoBulkEntries entries + 1
  | .held _ => 1
def uptoBulkAll {H : Type} : List (DataW H) → Nat
  | [] => 0
  | d :: r => uptoBulk d + uptoBulkAll r
def uptoBulkEntries {H : Type} : List (Lit × DataW H) → Nat
  | [] => 0
  | x :: r => uptoBulkEntry x + uptoBulkEntries r
def uptoBulkEntry {H : Type} : Lit × DataW H → Nat
  | (.string bytes, d) => bytes.length + uptoBulk d + 1
  | (_, d) => uptoBulk d + 1
 end
def uptoSmall : (H : Type) → List (DataW H) → Bool := fun _ ds => decide (uptoBulkAll ds ≤ 1048576)
def OpenSpec.upto (s : _root_.Go.ChangeSpec) : _root_.Go.OpenSpec := { _root_.Go.OpenSpec.ofChange s with cond := some uptoSmall }

/-- 'schemalenslaw06.LexerTokens', WHERE WHAT IT READS IS OF BULK AT MOST 1048576: true; the input reads as it did. -/
def lexerTokensUptoRow : OpenClaim := { program := "ytgfhhpodcnohpaadoor", sum := "a733867ae7050edc5329c11241a7c7923265af52d44a6a1f83b4990cfb9bc47e", func := "schemalens/schemalenslaw06.LexerTokens", spec := "lexerTokens", inPlace := ["internal/bytealg.IndexByteString", "internal/bytealg.IndexString"], unfollowed := true, recurses := true, named := ["internal/bytealg.MaxLen", "schemalens/lexer.keywords", "schemalens/lexer.symbols", "unicode/utf8.first", "unicode/utf8.acceptRanges"], apart := false, laid := [("unicode/utf8.acceptRanges", laid_unicode_utf8_acceptRanges), ("schemalens/lexer.keywords", laid_schemalens_lexer_keywords), ("schemalens/lexer.symbols", laid_schemalens_lexer_symbols), ("unicode/utf8.first", laid_unicode_utf8_first)], narrowed := true }
def LexerTokensUptoSaid : Prop := lexerTokensUptoRow.holds Tryd.pinned (OpenSpec.upto lexerTokensSpec)

/-- 'schemalenslaw06.LexerWhole', WHERE WHAT IT READS IS OF BULK AT MOST 1048576: true; the input reads as it did. -/
def lexerWholeUptoRow : OpenClaim := { program := "ytgfhhpodcnohpaadoor", sum := "a733867ae7050edc5329c11241a7c7923265af52d44a6a1f83b4990cfb9bc47e", func := "schemalens/schemalenslaw06.LexerWhole", spec := "lexerWhole", inPlace := ["internal/bytealg.IndexByteString", "internal/bytealg.IndexString"], unfollowed := true, recurses := true, named := ["internal/bytealg.MaxLen", "schemalens/lexer.keywords", "schemalens/lexer.symbols", "unicode/utf8.first", "unicode/utf8.acceptRanges"], apart := false, laid := [("unicode/utf8.acceptRanges", laid_unicode_utf8_acceptRanges), ("schemalens/lexer.keywords", laid_schemalens_lexer_keywords), ("schemalens/lexer.symbols", laid_schemalens_lexer_symbols), ("unicode/utf8.first", laid_unicode_utf8_first)], narrowed := true }
def LexerWholeUptoSaid : Prop := lexerWholeUptoRow.holds Tryd.pinned (OpenSpec.upto lexerWholeSpec)

/-- 'schemalenslaw06.LexerFits', WHERE WHAT IT READS IS OF BULK AT MOST 1048576: true; the input reads as it did. -/
def lexerFitsUptoRow : OpenClaim := { program := "ytgfhhpodcnohpaadoor", sum := "a733867ae7050edc5329c11241a7c7923265af52d44a6a1f83b4990cfb9bc47e", func := "schemalens/schemalenslaw06.LexerFits", spec := "lexerFits", inPlace := ["internal/bytealg.IndexByteString", "internal/bytealg.IndexString"], unfollowed := true, recurses := true, named := ["schemalens/lexer.keywords", "internal/bytealg.MaxLen", "schemalens/lexer.symbols", "strconv.ErrSyntax", "strconv.ErrRange", "internal/strconv.uint64pow10", "math/bits.deBruijn32tab", "math/bits.deBruijn64tab", "unicode/utf8.first", "unicode/utf8.acceptRanges"], apart := false, laid := [("math/bits.deBruijn32tab", laid_math_bits_deBruijn32tab), ("math/bits.deBruijn64tab", laid_math_bits_deBruijn64tab), ("internal/strconv.uint64pow10", laid_internal_strconv_uint64pow10), ("unicode/utf8.acceptRanges", laid_unicode_utf8_acceptRanges), ("strconv.ErrRange", laid_strconv_ErrRange), ("strconv.ErrSyntax", laid_strconv_ErrSyntax), ("schemalens/lexer.keywords", laid_schemalens_lexer_keywords), ("schemalens/lexer.symbols", laid_schemalens_lexer_symbols), ("unicode/utf8.first", laid_unicode_utf8_first)], narrowed := true }
def LexerFitsUptoSaid : Prop := lexerFitsUptoRow.holds Tryd.pinned (OpenSpec.upto lexerFitsSpec)

/-- 'schemalenslaw06.LexerQuotes', WHERE WHAT IT READS IS OF BULK AT MOST 1048576: true; the input reads as it did. -/
def lexerQuotesUptoRow : OpenClaim := { program := "ytgfhhpodcnohpaadoor", sum := "a733867ae7050edc5329c11241a7c7923265af52d44a6a1f83b4990cfb9bc47e", func := "schemalens/schemalenslaw06.LexerQuotes", spec := "lexerQuotes", inPlace := ["internal/bytealg.IndexByteString", "internal/bytealg.IndexString"], unfollowed := true, recurses := true, named := ["unicode/utf8.first", "unicode/utf8.acceptRanges", "internal/bytealg.MaxLen", "schemalens/lexer.keywords", "schemalens/lexer.symbols"], apart := false, laid := [("unicode/utf8.acceptRanges", laid_unicode_utf8_acceptRanges), ("schemalens/lexer.keywords", laid_schemalens_lexer_keywords), ("schemalens/lexer.symbols", laid_schemalens_lexer_symbols), ("unicode/utf8.first", laid_unicode_utf8_first)], narrowed := true }
def LexerQuotesUptoSaid : Prop := lexerQuotesUptoRow.holds Tryd.pinned (OpenSpec.upto lexerQuotesSpec)

/-- 'schemalenslaw06.LexerJoins', WHERE WHAT IT READS IS OF BULK AT MOST 1048576: true; the input reads as it did. -/
def lexerJoinsUptoRow : OpenClaim := { program := "ytgfhhpodcnohpaadoor", sum := "a733867ae7050edc5329c11241a7c7923265af52d44a6a1f83b4990cfb9bc47e", func := "schemalens/schemalenslaw06.LexerJoins", spec := "lexerJoins", inPlace := ["internal/bytealg.IndexByteString", "internal/bytealg.IndexString"], unfollowed := true, recurses := true, named := ["internal/bytealg.MaxLen", "schemalens/lexer.keywords", "schemalens/lexer.symbols", "unicode/utf8.first", "unicode/utf8.acceptRanges"], apart := false, laid := [("unicode/utf8.acceptRanges", laid_unicode_utf8_acceptRanges), ("schemalens/lexer.keywords", laid_schemalens_lexer_keywords), ("schemalens/lexer.symbols", laid_schemalens_lexer_symbols), ("unicode/utf8.first", laid_unicode_utf8_first)], narrowed := true }
def LexerJoinsUptoSaid : Prop := lexerJoinsUptoRow.holds Tryd.pinned (OpenSpec.upto lexerJoinsSpec)

/-- 'schemalenslaw06.LexerLocal', WHERE WHAT IT READS IS OF BULK AT MOST 1048576: true; the input reads as it did. -/
def lexerLocalUptoRow : OpenClaim := { program := "ytgfhhpodcnohpaadoor", sum := "a733867ae7050edc5329c11241a7c7923265af52d44a6a1f83b4990cfb9bc47e", func := "schemalens/schemalenslaw06.LexerLocal", spec := "lexerLocal", inPlace := ["internal/bytealg.IndexByteString", "internal/bytealg.IndexString"], unfollowed := true, recurses := true, named := ["internal/bytealg.MaxLen", "schemalens/lexer.keywords", "schemalens/lexer.symbols", "unicode/utf8.first", "unicode/utf8.acceptRanges"], apart := false, laid := [("unicode/utf8.acceptRanges", laid_unicode_utf8_acceptRanges), ("schemalens/lexer.keywords", laid_schemalens_lexer_keywords), ("schemalens/lexer.symbols", laid_schemalens_lexer_symbols), ("unicode/utf8.first", laid_unicode_utf8_first)], narrowed := true }
def LexerLocalUptoSaid : Prop := lexerLocalUptoRow.holds Tryd.pinned (OpenSpec.upto lexerLocalSpec)

/-- 'schemalenslaw06.LexerLines', WHERE WHAT IT READS IS OF BULK AT MOST 1048576: true; the input reads as it did. -/
def lexerLinesUptoRow : OpenClaim := { program := "ytgfhhpodcnohpaadoor", sum := "a733867ae7050edc5329c11241a7c7923265af52d44a6a1f83b4990cfb9bc47e", func := "schemalens/schemalenslaw06.LexerLines", spec := "lexerLines", inPlace := ["internal/bytealg.IndexByteString", "internal/bytealg.IndexString"], unfollowed := true, recurses := true, named := ["internal/bytealg.MaxLen", "schemalens/lexer.keywords", "schemalens/lexer.symbols", "unicode/utf8.first", "unicode/utf8.acceptRanges"], apart := false, laid := [("unicode/utf8.acceptRanges", laid_unicode_utf8_acceptRanges), ("schemalens/lexer.keywords", laid_schemalens_lexer_keywords), ("schemalens/lexer.symbols", laid_schemalens_lexer_symbols), ("unicode/utf8.first", laid_unicode_utf8_first)], narrowed := true }
def LexerLinesUptoSaid : Prop := lexerLinesUptoRow.holds Tryd.pinned (OpenSpec.upto lexerLinesSpec)

/-- 'schemalenslaw06.LexerEdits', WHERE WHAT IT READS IS OF BULK AT MOST 1048576: true; the input reads as it did. -/
def lexerEditsUptoRow : OpenClaim := { program := "ytgfhhpodcnohpaadoor", sum := "a733867ae7050edc5329c11241a7c7923265af52d44a6a1f83b4990cfb9bc47e", func := "schemalens/schemalenslaw06.LexerEdits", spec := "lexerEdits", inPlace := ["internal/bytealg.IndexByteString", "internal/bytealg.IndexString", "internal/bytealg.CountString", "internal/abi.NoEscape"], unfollowed := true, recurses := true, named := ["internal/bytealg.MaxLen", "schemalens/lexer.keywords", "schemalens/lexer.symbols", "unicode/utf8.first", "unicode/utf8.acceptRanges"], apart := false, laid := [("unicode/utf8.acceptRanges", laid_unicode_utf8_acceptRanges), ("schemalens/lexer.keywords", laid_schemalens_lexer_keywords), ("schemalens/lexer.symbols", laid_schemalens_lexer_symbols), ("unicode/utf8.first", laid_unicode_utf8_first)], narrowed := true }
def LexerEditsUptoSaid : Prop := lexerEditsUptoRow.holds Tryd.pinned (OpenSpec.upto lexerEditsSpec)

/-- 'schemalenslaw07.SyntaxTokens', WHERE WHAT IT READS IS OF BULK AT MOST 1048576: true; the input reads as it did. -/
def syntaxTokensUptoRow : OpenClaim := { program := "ytgfhhpodcnohpaadoor", sum := "a733867ae7050edc5329c11241a7c7923265af52d44a6a1f83b4990cfb9bc47e", func := "schemalens/schemalenslaw07.SyntaxTokens", spec := "syntaxTokens", inPlace := ["internal/bytealg.IndexByteString", "internal/bytealg.IndexString", "internal/abi.NoEscape"], unfollowed := true, recurses := true, named := ["internal/bytealg.MaxLen", "schemalens/lexer.keywords", "schemalens/lexer.symbols"], apart := false, laid := [("schemalens/lexer.keywords", laid_schemalens_lexer_keywords), ("schemalens/lexer.symbols", laid_schemalens_lexer_symbols)], narrowed := true }
def SyntaxTokensUptoSaid : Prop := syntaxTokensUptoRow.holds Tryd.pinned (OpenSpec.upto syntaxTokensSpec)

end Rows
end Go.Proofs.YtgfhhpodcnohpaaDoor

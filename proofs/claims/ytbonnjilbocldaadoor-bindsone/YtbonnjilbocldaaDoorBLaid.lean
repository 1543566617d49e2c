/-
  Binds: the tables, as they are laid.
-/
import Derived.Test.YtbonnjilbocldaaDoorKLaid
namespace Go.Proofs.YtbonnjilbocldaaDoor
open Go.RowKit
set_option linter.unusedVariables false
set_option maxRecDepth 100000

theorem tabs_laidB {W : World} (h : laidMet Tryd.prog [("math/bits.deBruijn32tab", Rows.laid_math_bits_deBruijn32tab), ("math/bits.deBruijn64tab", Rows.laid_math_bits_deBruijn64tab), ("internal/strconv.uint64pow10", Rows.laid_internal_strconv_uint64pow10), ("unicode/utf8.acceptRanges", Rows.laid_unicode_utf8_acceptRanges), ("mullion/keys.specials", Rows.laid_mullion_keys_specials), ("mullion/keys.modifiers", Rows.laid_mullion_keys_modifiers), ("mullion/keys.named", Rows.laid_mullion_keys_named), ("unicode/utf8.first", Rows.laid_unicode_utf8_first)] W) : Tabs W := by
  refine ⟨sp_laid (Lib.laidMet.reads h (by simp)), nm_laid (Lib.laidMet.reads h (by simp)), md_laid (Lib.laidMet.reads h (by simp)), ?_⟩
  have h3 : Lib.VarReads Tryd.prog W "unicode/utf8.first" Lib.firstData := by rw [← first_data]; exact Lib.laidMet.reads h (by simp)
  have h4 : Lib.VarReads Tryd.prog W "unicode/utf8.acceptRanges" Lib.acceptData := by rw [← accept_data]; exact Lib.laidMet.reads h (by simp)
  exact Go.Proofs.utf8Tabs_of_readsT u8t u8x h3 h4
end Go.Proofs.YtbonnjilbocldaaDoor

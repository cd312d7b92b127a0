/- What is laid. Own work of the verifier. Made by wip/draft/qt.py. -/
import Derived.Test.YtnfnddnffoigfaaGreatDoorRows
import Derived.LaidByTextLater
import Derived.SevenTiedAt
namespace Go.Proofs.YtnfnddnffoigfaaGreatDoor
set_option maxHeartbeats 2000000
open Go
set_option linter.unusedVariables false
set_option maxRecDepth 100000
abbrev laidV:List (String×DataW Unit):=[("strings.asciiSpace",Rows.laid_strings_asciiSpace),("unicode.White_Space",Rows.laid_unicode_White_Space),("loop.example/s00095/impl.errFails",Rows.laid_loop_example_s00095_impl_errFails),("loop.example/s00095/impl.errBeyond",Rows.laid_loop_example_s00095_impl_errBeyond),("errors.errorType",Rows.laid_errors_errorType),("internal/strconv.uint64pow10",Rows.laid_internal_strconv_uint64pow10),("math/bits.deBruijn32tab",Rows.laid_math_bits_deBruijn32tab),("math/bits.deBruijn64tab",Rows.laid_math_bits_deBruijn64tab),("loop.example/s00095/impl.charKinds",Rows.laid_loop_example_s00095_impl_charKinds)]
abbrev kindsV:List LaidKind:=[.data,.listed,.sentinel,.sentinel,.handle,.data,.data,.data,.data]
end Go.Proofs.YtnfnddnffoigfaaGreatDoor

/- The frame of the rows at the door seat of layer 2: what the listed variables give; a start that fits. -/
import Derived.Test.YtlpigdekjkpnpaaDoorDg
import Derived.Test.YtlpigdekjkpnpaaDoorFrame2
import Derived.Test.YtlpigdekjkpnpaaDoorRows
import Derived.Stop.LaidErr
import Derived.Lib.LaidTab
import Derived.LaidMore
import Derived.Lay
import Derived.LaidOnce
import Derived.ChangeSlices
import Derived.ChangeSame
import Derived.Stop.Joined
namespace Go.Proofs.YtlpigdekjkpnpaaDoor
set_option linter.unusedVariables false
set_option linter.unusedSimpArgs false
open Go.ChangeShapes Go.WideShapes Go.ChangeAt Go.RowKit Go.Deep Go.WideElems
def laidL : List (String × DataW Unit) := [("unicode/utf8.acceptRanges", Rows.laid_unicode_utf8_acceptRanges), ("unicode/utf8.first", Rows.laid_unicode_utf8_first)]
end Go.Proofs.YtlpigdekjkpnpaaDoor

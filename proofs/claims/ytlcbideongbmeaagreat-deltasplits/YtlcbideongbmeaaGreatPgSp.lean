/- A page's halves (the code's). -/
import Derived.Test.YtlcbideongbmeaaGreatPgB
namespace Go.Proofs.YtlcbideongbmeaaGreat
open Go.RowKit Go.Sort
set_option linter.unusedVariables false
set_option maxRecDepth 100000

end Go.Proofs.YtlcbideongbmeaaGreat

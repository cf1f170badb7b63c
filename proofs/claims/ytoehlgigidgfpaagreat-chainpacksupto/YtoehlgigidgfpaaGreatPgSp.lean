/- A page's halves (the code's). -/
import Derived.Test.YtoehlgigidgfpaaGreatPgB
namespace Go.Proofs.YtoehlgigidgfpaaGreat
open Go.RowKit Go.Sort
set_option linter.unusedVariables false
set_option maxRecDepth 100000

end Go.Proofs.YtoehlgigidgfpaaGreat

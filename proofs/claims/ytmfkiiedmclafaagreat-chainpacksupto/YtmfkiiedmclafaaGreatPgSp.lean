/- A page's halves (the code's). -/
import Derived.Test.YtmfkiiedmclafaaGreatPgB
namespace Go.Proofs.YtmfkiiedmclafaaGreat
open Go.RowKit Go.Sort
set_option linter.unusedVariables false
set_option maxRecDepth 100000

end Go.Proofs.YtmfkiiedmclafaaGreat

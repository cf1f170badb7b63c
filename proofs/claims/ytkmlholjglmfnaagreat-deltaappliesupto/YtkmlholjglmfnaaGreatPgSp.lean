/- A page's halves (the code's). -/
import Derived.Test.YtkmlholjglmfnaaGreatPgB
namespace Go.Proofs.YtkmlholjglmfnaaGreat
open Go.RowKit Go.Sort
set_option linter.unusedVariables false
set_option maxRecDepth 100000

end Go.Proofs.YtkmlholjglmfnaaGreat

/- The contract of wyref.SameStore. -/
import Derived.Test.YteimdhkajbldjaaREq
import Derived.Test.YteimdhkajbldjaaSPut2
set_option linter.unusedVariables false
set_option linter.unusedSimpArgs false
set_option maxRecDepth 100000
namespace Go.Proofs.Yteimdhkajbldjaa
open Go.RowKit Go.Sort Go.Maps

end Go.Proofs.Yteimdhkajbldjaa

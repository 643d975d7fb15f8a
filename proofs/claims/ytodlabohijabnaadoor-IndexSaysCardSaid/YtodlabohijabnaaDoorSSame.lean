/- The contract of wyref.SameStore. -/
import Derived.Test.YtodlabohijabnaaDoorREq
import Derived.Test.YtodlabohijabnaaDoorSPut2
set_option linter.unusedVariables false
set_option linter.unusedSimpArgs false
set_option maxRecDepth 100000
namespace Go.Proofs.YtodlabohijabnaaDoor
open Go.RowKit Go.Sort Go.Maps

end Go.Proofs.YtodlabohijabnaaDoor

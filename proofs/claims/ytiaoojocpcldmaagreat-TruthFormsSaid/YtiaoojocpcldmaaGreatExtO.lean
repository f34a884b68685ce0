/- Operations on rows of Lean's own values, in place; windows; interface values. -/
import Derived.Test.YtiaoojocpcldmaaGreatExtU
namespace Go.Abs
open Go.RowKit
set_option linter.unusedVariables false
set_option linter.unusedSimpArgs false

end Go.Abs

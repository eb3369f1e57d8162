/- Parts of lists. -/
import Derived.Test.YtochmbjngflpiaaGreatDoorRunRosterMath0
namespace Go.Ev.RunRoster
set_option linter.unusedVariables false
open Go Go.Ev
end Go.Ev.RunRoster

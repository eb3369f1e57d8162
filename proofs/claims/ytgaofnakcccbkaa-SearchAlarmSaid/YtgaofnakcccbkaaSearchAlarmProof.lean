/- SearchAlarm answers true whatever its arguments are, in every heap in which it is called, whatever the tape says, and its arguments read behind the call as before. No condition. -/
import Derived.Test.YtgaofnakcccbkaaSearchAlarmOver
namespace Go.Proofs.Ytgaofnakcccbkaa.searchAlarm
theorem proved : Rows.SearchAlarmSaid := over
#print axioms proved
end Go.Proofs.Ytgaofnakcccbkaa.searchAlarm

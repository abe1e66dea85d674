/- Contract of the document's Look: the value of the first range that has a number. -/
import Derived.Test.YtcbijgmlmcpidaaSg
import Derived.Test.YtcbijgmlmcpidaaKeepG
namespace Go.Proofs.Ytcbijgmlmcpidaa
open Go.RowKit

theorem ret_i64' {a b : Int} (h : a = b) : Ending.returned (.int .i64 a) = .returned (.int .i64 b) := by rw [h]

end Go.Proofs.Ytcbijgmlmcpidaa

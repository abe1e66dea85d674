/- Contract of package ranges' Flat: the value of the first range that has a number. -/
import Derived.Test.YtcbijgmlmcpidaaSg
import Derived.Test.YtcbijgmlmcpidaaKeepG
import Derived.Test.YtcbijgmlmcpidaaRefRng1
namespace Go.Proofs.Ytcbijgmlmcpidaa
open Go.RowKit

end Go.Proofs.Ytcbijgmlmcpidaa

/- Contract of package ranges' Flat: the value of the first range that has a number. -/
import Derived.Test.YtajncbohgialaaaSg
import Derived.Test.YtajncbohgialaaaKeepG
import Derived.Test.YtajncbohgialaaaRefRng1
namespace Go.Proofs.Ytajncbohgialaaa
open Go.RowKit

end Go.Proofs.Ytajncbohgialaaa

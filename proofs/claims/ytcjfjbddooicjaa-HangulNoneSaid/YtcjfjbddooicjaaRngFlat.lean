/- Contract of package ranges' Flat: the value of the first range that has a number. -/
import Derived.Test.YtcjfjbddooicjaaSg
import Derived.Test.YtcjfjbddooicjaaKeepG
import Derived.Test.YtcjfjbddooicjaaRefRng1
namespace Go.Proofs.Ytcjfjbddooicjaa
open Go.RowKit

end Go.Proofs.Ytcjfjbddooicjaa

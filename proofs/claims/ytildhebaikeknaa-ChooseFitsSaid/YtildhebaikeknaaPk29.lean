/- Several texts in one: Ref16a, RefEsc. -/
import Derived.Test.YtildhebaikeknaaPk14
import Derived.Test.YtildhebaikeknaaPk26
import Derived.Test.YtildhebaikeknaaPk28
import Derived.Test.YtildhebaikeknaaPk1
import Derived.BigQuiet
import Derived.Test.YtildhebaikeknaaPk19
import Derived.Test.YtildhebaikeknaaPk25
import Derived.Test.YtildhebaikeknaaPk18
/-! Ref16a -/
namespace Go.Proofs.Ytildhebaikeknaa
open Go.RowKit

end Go.Proofs.Ytildhebaikeknaa

/-! RefEsc -/
namespace Go.Proofs.Ytildhebaikeknaa
open Go.RowKit

end Go.Proofs.Ytildhebaikeknaa

/- Several texts in one: Keep, Twin. -/
import Derived.Test.YtildhebaikeknaaPk1
/-! Keep -/
namespace Go.Proofs.Ytildhebaikeknaa
open Go.RowKit

theorem Try.infoU8 : (Try.prog.info? 5).map (fun i => (i.zero, i.size, i.bytes)) = some (some (.int .u8 0), 1, 1) := by kernel_rfl

end Go.Proofs.Ytildhebaikeknaa

/-! Twin -/
namespace Go.Proofs.Ytildhebaikeknaa
open Go.RowKit

end Go.Proofs.Ytildhebaikeknaa

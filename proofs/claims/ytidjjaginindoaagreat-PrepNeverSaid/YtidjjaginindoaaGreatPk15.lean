/- Several texts in one: UcdFacts. -/
import Derived.Test.YtidjjaginindoaaGreatPk12
/-! UcdFacts -/
namespace Go.Proofs.YtidjjaginindoaaGreat
open Go.RowKit

set_option maxRecDepth 100000
theorem f_pair1 : pairS 65 768 = (192, true) := by decide +kernel
theorem f_pair2 : pairS 776 769 = (0, false) := by decide +kernel
theorem f_class : classS 768 = 230 := by decide +kernel
theorem f_space1 : hasS tabSpaces 32 = false := by decide +kernel
theorem f_space2 : hasS tabSpaces 160 = true := by decide +kernel
theorem f_fold : mapS tabFolds 223 = [115, 115] := by decide +kernel
theorem f_canon : canonS 8490 = [75] := by decide +kernel
/-- each pair is taken apart to itself; it and what it begins with have class 0; it has no compatibility decomposition -/
theorem f_pairs : (tabPair.all fun r => canonS r.f == [r.t, r.v] && (classS r.f == 0 && (classS r.t == 0 && (scalarB r.f && ((r.v != 0) && (mapS tabCompat r.f == [])))))) = true := by decide +kernel
theorem f_canons : (tabCanon.all fun r => canonS r.f == (if r.v == 0 then [r.t] else [r.t, r.v])) = true := by decide +kernel
theorem f_compats : (tabCompat.all fun m => mapS tabCompat m.f == m.t && (canonS m.f == [])) = true := by decide +kernel
theorem f_folds : (tabFolds.all fun m => mapS tabFolds m.f == m.t && (m.t.all fun x => mapS tabFolds x == [])) = true := by decide +kernel
end Go.Proofs.YtidjjaginindoaaGreat

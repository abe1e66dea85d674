/- Several texts in one: Ref16a. -/
import Derived.Test.YtobicndpkojgiaaPk15
import Derived.Test.YtobicndpkojgiaaPk16
import Derived.Test.YtobicndpkojgiaaPk22
import Derived.Test.YtobicndpkojgiaaPk23
import Derived.BigQuiet
/-! Ref16a -/
namespace Go.Proofs.Ytobicndpkojgiaa
open Go.RowKit

theorem refWide16 (s : Int) (w : World) : Calls Try.prog 33 #[.int .i64 s] w fun e w' => e = .returned (.bool (s == 87)) ∧ w = w' := by
  go_enter Try.func33, Try.ntmps33
  go_wp2
  go_ret
  exact ⟨rfl, rfl⟩
end Go.Proofs.Ytobicndpkojgiaa

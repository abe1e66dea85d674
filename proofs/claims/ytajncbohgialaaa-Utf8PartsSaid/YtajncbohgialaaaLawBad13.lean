/- Walk of law13's Utf8Bad, out of what is asked of package utf8. -/
import Derived.Test.YtajncbohgialaaaLawBad13a
import Derived.Test.YtajncbohgialaaaLawBad13b
import Derived.Test.YtajncbohgialaaaLawBad13c
import Derived.Test.YtajncbohgialaaaLawBad13d
import Derived.Test.YtajncbohgialaaaLawBad13e
namespace Go.Proofs.Ytajncbohgialaaa
open Go.RowKit

theorem walkBad13 (HP : UPutOk) (HG : UGetOk) (HO : UOneOk) (how n0 : Int) (w : World) :
    Calls Try.prog 7 #[.int .i64 how, .int .i64 n0] w fun e w' => e = .returned (.bool true) ∧ Below w.heap.size w w' := by
  obtain ⟨K, hK, hK1, hK2⟩ := ix_rem how 13 (by omega) (by omega)
  obtain ⟨N, hN, hN1, hN2⟩ := ix_rem n0 60 (by omega) (by omega)
  obtain ⟨M, rfl⟩ : ∃ M : Nat, N = (M : Int) := ⟨N.toNat, by omega⟩
  have hM : M < 60 := by omega
  have hcs : K = 0 ∨ K = 1 ∨ K = 2 ∨ K = 3 ∨ K = 4 ∨ K = 5 ∨ K = 6 ∨ K = 7 ∨ K = 8 ∨ K = 9 ∨ K = 10 ∨ K = 11 ∨ K = 12 := by omega
  rcases hcs with rfl | rfl | rfl | rfl | rfl | rfl | rfl | rfl | rfl | rfl | rfl | rfl | rfl
  · exact walkBad13_0 HP HG HO how M n0 w hK hN hM
  · exact walkBad13_1 HP HG HO how M n0 w hK hN hM
  · exact walkBad13_2 HP HG HO how M n0 w hK hN hM
  · exact walkBad13_3 HP HG HO how M n0 w hK hN hM
  · exact walkBad13_4 HP HG HO how M n0 w hK hN hM
  · exact walkBad13_5 HP HG HO how M n0 w hK hN hM
  · exact walkBad13_6 HP HG HO how M n0 w hK hN hM
  · exact walkBad13_7 HP HG HO how M n0 w hK hN hM
  · exact walkBad13_8 HP HG HO how M n0 w hK hN hM
  · exact walkBad13_9 HP HG HO how M n0 w hK hN hM
  · exact walkBad13_10 HP HG HO how M n0 w hK hN hM
  · exact walkBad13_11 HP HG HO how M n0 w hK hN hM
  · exact walkBad13_12 HP HG HO how M n0 w hK hN hM
end Go.Proofs.Ytajncbohgialaaa

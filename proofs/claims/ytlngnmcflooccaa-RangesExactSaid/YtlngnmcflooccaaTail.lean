/- A region that draws its order and ends in one operation that writes: its reading head in the text's order, then its tail. No conditions. -/
import Derived.Test.YtlngnmcflooccaaBase
import Derived.StillTailTactics
namespace Go.Proofs.Ytlngnmcflooccaa
open Go.RowKit

theorem region_tail {P : Program} {id : Nat} {Q : Exit → Act → World → Prop} {a : Act} {w : World} {l : List Oper} (n : Nat) (hm : P.follows .mixedOrders = true) (hB : Region.lexTailB .any l.toArray n = true)
    (h : wpStill P l.toArray w.drew (fun a' => wpList P l.toArray Q (l.drop n) a' w.drew) (l.take n) a) : (Code.region id l.toArray true).wp P Q a w :=
  wp_region_still_tail n hm hB h
end Go.Proofs.Ytlngnmcflooccaa

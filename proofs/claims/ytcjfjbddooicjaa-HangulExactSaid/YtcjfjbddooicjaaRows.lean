/-
  No cell of these rows narrows 'for every input' (looked for: loops, veiled, ifaces, maps, wideKeys, modest, calm, conditions, laid).
  DERIVED. THE GIVEN ROWS OF THIS SEAT. 3 by the template 'for every input the law returns true; each argument reads behind the call as it read before'; 0 by the template 'total and deterministic' (their statements: YtcjfjbddooicjaaTotals.lean).
  GIVEN WITH THE SEED: the statements are not yours to turn. If you find one false, say at which input.
  Laid BY PROGRAM, IN A SANDBOX (cutbox-rows.mjs): the forced cells as the released guide's own fill.sh prints them over the translation c6c029d6afa1cf14… (all of the seat's roots in one cut). By AI agents, Wed Nov 11 2026. No macro, syntax, notation, axiom, sorry.
-/
import Derived.Test.YtcjfjbddooicjaaChecked
import GoSem.Claim
import GoSem.ClaimJoined
import GoSem.ClaimMapViews
import Derived.JoinedTies
import Derived.KernelRfl
namespace Go.Proofs.Ytcjfjbddooicjaa
/- THE CELL 'sum', in the pinned program and in every row, IS THE sha256 OF THE DUMP (.gsa) THAT YtcjfjbddooicjaaProg.lean LOADS. Nothing in Lean hashes anything: it is a label: what it is worth is what the hold of that sum in a sandbox is worth. -/
noncomputable def Try.pinned : Pinned := { name := "ytcjfjbddooicjaa", sum := "c6c029d6afa1cf14355c05a2ea2bf614ba685cadc2c20533fadb64f9f4819730", checked := Try.checked }
namespace Rows
def none {H : Type} : Left H := { results := [], args := [] }

/-- 'sobriquetlaw07.HangulExact': WHATEVER THE INPUT: true; the input reads as it did. -/
def hangulExactSpec : ChangeSpec := { name := "hangulExact", fn := fun _ => fun
  | [d1, d2] => { results := [.lit (.bool true)], args := [d1, d2] }
  | _ => none }
def hangulExactRow : OpenClaim := { program := "ytcjfjbddooicjaa", sum := "c6c029d6afa1cf14355c05a2ea2bf614ba685cadc2c20533fadb64f9f4819730", func := "sobriquet/sobriquetlaw07.HangulExact", spec := "hangulExact", apart := false }
def HangulExactSaid : Prop := hangulExactRow.holds Try.pinned (OpenSpec.ofChange hangulExactSpec)

/-- ITS FALSE NEIGHBOUR: 'it returns false'. Refute it at one input. -/
def hangulExactWrong : ChangeSpec := { name := "hangulExact", fn := fun _ => fun
  | [d1, d2] => { results := [.lit (.bool false)], args := [d1, d2] }
  | _ => none }
def HangulExactWrongFalsely : Prop := hangulExactRow.holds Try.pinned (OpenSpec.ofChange hangulExactWrong)

/-- 'sobriquetlaw07.HangulBack': WHATEVER THE INPUT: true; the input reads as it did. -/
def hangulBackSpec : ChangeSpec := { name := "hangulBack", fn := fun _ => fun
  | [d1, d2, d3, d4] => { results := [.lit (.bool true)], args := [d1, d2, d3, d4] }
  | _ => none }
def hangulBackRow : OpenClaim := { program := "ytcjfjbddooicjaa", sum := "c6c029d6afa1cf14355c05a2ea2bf614ba685cadc2c20533fadb64f9f4819730", func := "sobriquet/sobriquetlaw07.HangulBack", spec := "hangulBack", apart := false }
def HangulBackSaid : Prop := hangulBackRow.holds Try.pinned (OpenSpec.ofChange hangulBackSpec)

/-- ITS FALSE NEIGHBOUR: 'it returns false'. Refute it at one input. -/
def hangulBackWrong : ChangeSpec := { name := "hangulBack", fn := fun _ => fun
  | [d1, d2, d3, d4] => { results := [.lit (.bool false)], args := [d1, d2, d3, d4] }
  | _ => none }
def HangulBackWrongFalsely : Prop := hangulBackRow.holds Try.pinned (OpenSpec.ofChange hangulBackWrong)

/-- 'sobriquetlaw07.HangulNone': WHATEVER THE INPUT: true; the input reads as it did. -/
def hangulNoneSpec : ChangeSpec := { name := "hangulNone", fn := fun _ => fun
  | [d1, d2] => { results := [.lit (.bool true)], args := [d1, d2] }
  | _ => none }
def hangulNoneRow : OpenClaim := { program := "ytcjfjbddooicjaa", sum := "c6c029d6afa1cf14355c05a2ea2bf614ba685cadc2c20533fadb64f9f4819730", func := "sobriquet/sobriquetlaw07.HangulNone", spec := "hangulNone", apart := false }
def HangulNoneSaid : Prop := hangulNoneRow.holds Try.pinned (OpenSpec.ofChange hangulNoneSpec)

/-- ITS FALSE NEIGHBOUR: 'it returns false'. Refute it at one input. -/
def hangulNoneWrong : ChangeSpec := { name := "hangulNone", fn := fun _ => fun
  | [d1, d2] => { results := [.lit (.bool false)], args := [d1, d2] }
  | _ => none }
def HangulNoneWrongFalsely : Prop := hangulNoneRow.holds Try.pinned (OpenSpec.ofChange hangulNoneWrong)

/- THE SECOND FORM. 'bulk': how many values and letters a reading holds, each counted each time it is reached (what is shared counts as often as it is met; a slice's spare places count too). A statement '..UptoSaid' is the law's where the arguments, and the package variables that the reading takes, are together of bulk at most 1048576: NARROWER than '..Said'. Prove '..Said' where nothing that the law and all that it calls make is longer than what came in: it says more and counts as full. Else prove '..UptoSaid'. A law counts once. -/
mutual
def uptoBulk {H : Type} : DataW H → Nat
  | .lit (.string bytes) => bytes.length + 1
  | .lit _ => 1
  | .nil => 1
  | .ptr d => uptoBulk d + 1
  | .slice elems spare => uptoBulkAll elems + uptoBulkAll spare + 1
  | .agg parts => uptoBulkAll parts + 1
  | .iface _ d => uptoBulk d + 1
  | .map entries => uptoBulkEntries entries + 1
  | .held _ => 1
def uptoBulkAll {H : Type} : List (DataW H) → Nat
  | [] => 0
  | d :: r => uptoBulk d + uptoBulkAll r
def uptoBulkEntries {H : Type} : List (Lit × DataW H) → Nat
  | [] => 0
  | x :: r => uptoBulkEntry x + uptoBulkEntries r
def uptoBulkEntry {H : Type} : Lit × DataW H → Nat
  | (.string bytes, d) => bytes.length + uptoBulk d + 1
  | (_, d) => uptoBulk d + 1
 end
def uptoSmall : (H : Type) → List (DataW H) → Bool := fun _ ds => decide (uptoBulkAll ds ≤ 1048576)
def OpenSpec.upto (s : _root_.Go.ChangeSpec) : _root_.Go.OpenSpec := { _root_.Go.OpenSpec.ofChange s with cond := some uptoSmall }

/-- 'sobriquetlaw07.HangulExact', WHERE WHAT IT READS IS OF BULK AT MOST 1048576: true; the input reads as it did. -/
def hangulExactUptoRow : OpenClaim := { program := "ytcjfjbddooicjaa", sum := "c6c029d6afa1cf14355c05a2ea2bf614ba685cadc2c20533fadb64f9f4819730", func := "sobriquet/sobriquetlaw07.HangulExact", spec := "hangulExact", apart := false, narrowed := true }
def HangulExactUptoSaid : Prop := hangulExactUptoRow.holds Try.pinned (OpenSpec.upto hangulExactSpec)

/-- 'sobriquetlaw07.HangulBack', WHERE WHAT IT READS IS OF BULK AT MOST 1048576: true; the input reads as it did. -/
def hangulBackUptoRow : OpenClaim := { program := "ytcjfjbddooicjaa", sum := "c6c029d6afa1cf14355c05a2ea2bf614ba685cadc2c20533fadb64f9f4819730", func := "sobriquet/sobriquetlaw07.HangulBack", spec := "hangulBack", apart := false, narrowed := true }
def HangulBackUptoSaid : Prop := hangulBackUptoRow.holds Try.pinned (OpenSpec.upto hangulBackSpec)

/-- 'sobriquetlaw07.HangulNone', WHERE WHAT IT READS IS OF BULK AT MOST 1048576: true; the input reads as it did. -/
def hangulNoneUptoRow : OpenClaim := { program := "ytcjfjbddooicjaa", sum := "c6c029d6afa1cf14355c05a2ea2bf614ba685cadc2c20533fadb64f9f4819730", func := "sobriquet/sobriquetlaw07.HangulNone", spec := "hangulNone", apart := false, narrowed := true }
def HangulNoneUptoSaid : Prop := hangulNoneUptoRow.holds Try.pinned (OpenSpec.upto hangulNoneSpec)

end Rows
end Go.Proofs.Ytcjfjbddooicjaa

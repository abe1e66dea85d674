/-
  No cell of these rows narrows 'for every input' (looked for: loops, veiled, ifaces, maps, wideKeys, modest, calm, conditions, laid).
  DERIVED. THE GIVEN ROWS OF THIS SEAT. 4 by the template 'for every input the law returns true; each argument reads behind the call as it read before'; 0 by the template 'total and deterministic' (their statements: YtldjcogjimgnbaaTotals.lean).
  GIVEN WITH THE SEED: the statements are not yours to turn. If you find one false, say at which input.
  Laid BY PROGRAM, IN A SANDBOX (cutbox-rows.mjs): the forced cells as the released guide's own fill.sh prints them over the translation d776046cdb50ddba… (all of the seat's roots in one cut). By AI agents, Wed Nov 11 2026. No macro, syntax, notation, axiom, sorry.
-/
import Derived.Test.YtldjcogjimgnbaaChecked
import GoSem.Claim
import GoSem.ClaimJoined
import GoSem.ClaimMapViews
import Derived.JoinedTies
import Derived.KernelRfl
namespace Go.Proofs.Ytldjcogjimgnbaa
/- THE CELL 'sum', in the pinned program and in every row, IS THE sha256 OF THE DUMP (.gsa) THAT YtldjcogjimgnbaaProg.lean LOADS. Nothing in Lean hashes anything: it is a label: what it is worth is what the hold of that sum in a sandbox is worth. -/
noncomputable def Try.pinned : Pinned := { name := "ytldjcogjimgnbaa", sum := "d776046cdb50ddba49587e0bf74465a5d71edd5735649601ff1877c758d8cb38", checked := Try.checked }
namespace Rows
def none {H : Type} : Left H := { results := [], args := [] }

/-- 'sobriquetlaw10.ComposeExact': WHATEVER THE INPUT: true; the input reads as it did. -/
def composeExactSpec : ChangeSpec := { name := "composeExact", fn := fun _ => fun
  | [d1, d2, d3] => { results := [.lit (.bool true)], args := [d1, d2, d3] }
  | _ => none }
def composeExactRow : OpenClaim := { program := "ytldjcogjimgnbaa", sum := "d776046cdb50ddba49587e0bf74465a5d71edd5735649601ff1877c758d8cb38", func := "sobriquet/sobriquetlaw10.ComposeExact", spec := "composeExact", unfollowed := true, recurses := true, plainKeys := false, apart := false }
def ComposeExactSaid : Prop := composeExactRow.holds Try.pinned (OpenSpec.ofChange composeExactSpec)

/-- ITS FALSE NEIGHBOUR: 'it returns false'. Refute it at one input. -/
def composeExactWrong : ChangeSpec := { name := "composeExact", fn := fun _ => fun
  | [d1, d2, d3] => { results := [.lit (.bool false)], args := [d1, d2, d3] }
  | _ => none }
def ComposeExactWrongFalsely : Prop := composeExactRow.holds Try.pinned (OpenSpec.ofChange composeExactWrong)

/-- 'sobriquetlaw10.ComposeLess': WHATEVER THE INPUT: true; the input reads as it did. -/
def composeLessSpec : ChangeSpec := { name := "composeLess", fn := fun _ => fun
  | [d] => { results := [.lit (.bool true)], args := [d] }
  | _ => none }
def composeLessRow : OpenClaim := { program := "ytldjcogjimgnbaa", sum := "d776046cdb50ddba49587e0bf74465a5d71edd5735649601ff1877c758d8cb38", func := "sobriquet/sobriquetlaw10.ComposeLess", spec := "composeLess", unfollowed := true, recurses := true, plainKeys := false, apart := false }
def ComposeLessSaid : Prop := composeLessRow.holds Try.pinned (OpenSpec.ofChange composeLessSpec)

/-- ITS FALSE NEIGHBOUR: 'it returns false'. Refute it at one input. -/
def composeLessWrong : ChangeSpec := { name := "composeLess", fn := fun _ => fun
  | [d] => { results := [.lit (.bool false)], args := [d] }
  | _ => none }
def ComposeLessWrongFalsely : Prop := composeLessRow.holds Try.pinned (OpenSpec.ofChange composeLessWrong)

/-- 'sobriquetlaw10.ComposeTwo': WHATEVER THE INPUT: true; the input reads as it did. -/
def composeTwoSpec : ChangeSpec := { name := "composeTwo", fn := fun _ => fun
  | [d1, d2] => { results := [.lit (.bool true)], args := [d1, d2] }
  | _ => none }
def composeTwoRow : OpenClaim := { program := "ytldjcogjimgnbaa", sum := "d776046cdb50ddba49587e0bf74465a5d71edd5735649601ff1877c758d8cb38", func := "sobriquet/sobriquetlaw10.ComposeTwo", spec := "composeTwo", unfollowed := true, recurses := true, plainKeys := false, apart := false }
def ComposeTwoSaid : Prop := composeTwoRow.holds Try.pinned (OpenSpec.ofChange composeTwoSpec)

/-- ITS FALSE NEIGHBOUR: 'it returns false'. Refute it at one input. -/
def composeTwoWrong : ChangeSpec := { name := "composeTwo", fn := fun _ => fun
  | [d1, d2] => { results := [.lit (.bool false)], args := [d1, d2] }
  | _ => none }
def ComposeTwoWrongFalsely : Prop := composeTwoRow.holds Try.pinned (OpenSpec.ofChange composeTwoWrong)

/-- 'sobriquetlaw10.ComposeOff': WHATEVER THE INPUT: true; the input reads as it did. -/
def composeOffSpec : ChangeSpec := { name := "composeOff", fn := fun _ => fun
  | [d1, d2] => { results := [.lit (.bool true)], args := [d1, d2] }
  | _ => none }
def composeOffRow : OpenClaim := { program := "ytldjcogjimgnbaa", sum := "d776046cdb50ddba49587e0bf74465a5d71edd5735649601ff1877c758d8cb38", func := "sobriquet/sobriquetlaw10.ComposeOff", spec := "composeOff", unfollowed := true, recurses := true, plainKeys := false, apart := false }
def ComposeOffSaid : Prop := composeOffRow.holds Try.pinned (OpenSpec.ofChange composeOffSpec)

/-- ITS FALSE NEIGHBOUR: 'it returns false'. Refute it at one input. -/
def composeOffWrong : ChangeSpec := { name := "composeOff", fn := fun _ => fun
  | [d1, d2] => { results := [.lit (.bool false)], args := [d1, d2] }
  | _ => none }
def ComposeOffWrongFalsely : Prop := composeOffRow.holds Try.pinned (OpenSpec.ofChange composeOffWrong)

/- THE SECOND FORM. 'bulk': how many values and letters a reading holds, each counted each time it is reached (what is shared counts as often as it is met; a slice's spare places count too). A statement '..UptoSaid' is the law's where the arguments, and the package variables that the reading takes, are together of bulk at most 1048576: NARROWER than '..Said'. Prove '..Said' where nothing that the law and all that it calls make is longer than what came in: it says more and counts as full. Else prove '..UptoSaid'. A law counts once. -/
mutual
def uptoBulk {H : Type} : DataW H → Nat
  | .lit (.string bytes) => bytes.length + 1
  | .lit _ => 1
  | .nil => 1
  | .ptr d => uptoBulk d + 1
  | .slice elems spare => uptoBulkAll elems + uptoBulkAll spare + 1
  | .agg parts => uptoBulkAll parts + 1
  | .iface _ d => uptoBulk d + 1
  | .map entries => uptoBulkEntries entries + 1
  | .held _ => 1
def uptoBulkAll {H : Type} : List (DataW H) → Nat
  | [] => 0
  | d :: r => uptoBulk d + uptoBulkAll r
def uptoBulkEntries {H : Type} : List (Lit × DataW H) → Nat
  | [] => 0
  | x :: r => uptoBulkEntry x + uptoBulkEntries r
def uptoBulkEntry {H : Type} : Lit × DataW H → Nat
  | (.string bytes, d) => bytes.length + uptoBulk d + 1
  | (_, d) => uptoBulk d + 1
 end
def uptoSmall : (H : Type) → List (DataW H) → Bool := fun _ ds => decide (uptoBulkAll ds ≤ 1048576)
def OpenSpec.upto (s : _root_.Go.ChangeSpec) : _root_.Go.OpenSpec := { _root_.Go.OpenSpec.ofChange s with cond := some uptoSmall }

/-- 'sobriquetlaw10.ComposeExact', WHERE WHAT IT READS IS OF BULK AT MOST 1048576: true; the input reads as it did. -/
def composeExactUptoRow : OpenClaim := { program := "ytldjcogjimgnbaa", sum := "d776046cdb50ddba49587e0bf74465a5d71edd5735649601ff1877c758d8cb38", func := "sobriquet/sobriquetlaw10.ComposeExact", spec := "composeExact", unfollowed := true, recurses := true, plainKeys := false, apart := false, narrowed := true }
def ComposeExactUptoSaid : Prop := composeExactUptoRow.holds Try.pinned (OpenSpec.upto composeExactSpec)

/-- 'sobriquetlaw10.ComposeLess', WHERE WHAT IT READS IS OF BULK AT MOST 1048576: true; the input reads as it did. -/
def composeLessUptoRow : OpenClaim := { program := "ytldjcogjimgnbaa", sum := "d776046cdb50ddba49587e0bf74465a5d71edd5735649601ff1877c758d8cb38", func := "sobriquet/sobriquetlaw10.ComposeLess", spec := "composeLess", unfollowed := true, recurses := true, plainKeys := false, apart := false, narrowed := true }
def ComposeLessUptoSaid : Prop := composeLessUptoRow.holds Try.pinned (OpenSpec.upto composeLessSpec)

/-- 'sobriquetlaw10.ComposeTwo', WHERE WHAT IT READS IS OF BULK AT MOST 1048576: true; the input reads as it did. -/
def composeTwoUptoRow : OpenClaim := { program := "ytldjcogjimgnbaa", sum := "d776046cdb50ddba49587e0bf74465a5d71edd5735649601ff1877c758d8cb38", func := "sobriquet/sobriquetlaw10.ComposeTwo", spec := "composeTwo", unfollowed := true, recurses := true, plainKeys := false, apart := false, narrowed := true }
def ComposeTwoUptoSaid : Prop := composeTwoUptoRow.holds Try.pinned (OpenSpec.upto composeTwoSpec)

/-- 'sobriquetlaw10.ComposeOff', WHERE WHAT IT READS IS OF BULK AT MOST 1048576: true; the input reads as it did. -/
def composeOffUptoRow : OpenClaim := { program := "ytldjcogjimgnbaa", sum := "d776046cdb50ddba49587e0bf74465a5d71edd5735649601ff1877c758d8cb38", func := "sobriquet/sobriquetlaw10.ComposeOff", spec := "composeOff", unfollowed := true, recurses := true, plainKeys := false, apart := false, narrowed := true }
def ComposeOffUptoSaid : Prop := composeOffUptoRow.holds Try.pinned (OpenSpec.upto composeOffSpec)

end Rows
end Go.Proofs.Ytldjcogjimgnbaa

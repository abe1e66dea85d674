/-
  No cell of these rows narrows 'for every input' (looked for: loops, veiled, ifaces, maps, wideKeys, modest, calm, conditions, laid).
  DERIVED. THE GIVEN ROWS OF THIS SEAT. 4 by the template 'for every input the law returns true; each argument reads behind the call as it read before'; 0 by the template 'total and deterministic' (their statements: YtdncmdpacidgmaaTotals.lean).
  GIVEN WITH THE SEED: the statements are not yours to turn. If you find one false, say at which input.
  Laid BY PROGRAM, IN A SANDBOX (cutbox-rows.mjs): the forced cells as the released guide's own fill.sh prints them over the translation 3d23f110d5461c6b… (all of the seat's roots in one cut). By AI agents, Wed Nov 11 2026. No macro, syntax, notation, axiom, sorry.
-/
import Derived.Test.YtdncmdpacidgmaaChecked
import GoSem.Claim
import GoSem.ClaimJoined
import GoSem.ClaimMapViews
import Derived.JoinedTies
import Derived.KernelRfl
namespace Go.Proofs.Ytdncmdpacidgmaa
/- THE CELL 'sum', in the pinned program and in every row, IS THE sha256 OF THE DUMP (.gsa) THAT YtdncmdpacidgmaaProg.lean LOADS. Nothing in Lean hashes anything: it is a label: what it is worth is what the hold of that sum in a sandbox is worth. -/
noncomputable def Try.pinned : Pinned := { name := "ytdncmdpacidgmaa", sum := "3d23f110d5461c6bb380efa5ba1c7f680af721b1281dfe66ad3a15029468e16e", checked := Try.checked }
namespace Rows
def none {H : Type} : Left H := { results := [], args := [] }

/-- 'sobriquetlaw12.FoldExact': WHATEVER THE INPUT: true; the input reads as it did. -/
def foldExactSpec : ChangeSpec := { name := "foldExact", fn := fun _ => fun
  | [d1, d2] => { results := [.lit (.bool true)], args := [d1, d2] }
  | _ => none }
def foldExactRow : OpenClaim := { program := "ytdncmdpacidgmaa", sum := "3d23f110d5461c6bb380efa5ba1c7f680af721b1281dfe66ad3a15029468e16e", func := "sobriquet/sobriquetlaw12.FoldExact", spec := "foldExact", unfollowed := true, recurses := true, plainKeys := false, apart := false }
def FoldExactSaid : Prop := foldExactRow.holds Try.pinned (OpenSpec.ofChange foldExactSpec)

/-- ITS FALSE NEIGHBOUR: 'it returns false'. Refute it at one input. -/
def foldExactWrong : ChangeSpec := { name := "foldExact", fn := fun _ => fun
  | [d1, d2] => { results := [.lit (.bool false)], args := [d1, d2] }
  | _ => none }
def FoldExactWrongFalsely : Prop := foldExactRow.holds Try.pinned (OpenSpec.ofChange foldExactWrong)

/-- 'sobriquetlaw12.FoldTwice': WHATEVER THE INPUT: true; the input reads as it did. -/
def foldTwiceSpec : ChangeSpec := { name := "foldTwice", fn := fun _ => fun
  | [d1, d2] => { results := [.lit (.bool true)], args := [d1, d2] }
  | _ => none }
def foldTwiceRow : OpenClaim := { program := "ytdncmdpacidgmaa", sum := "3d23f110d5461c6bb380efa5ba1c7f680af721b1281dfe66ad3a15029468e16e", func := "sobriquet/sobriquetlaw12.FoldTwice", spec := "foldTwice", unfollowed := true, recurses := true, plainKeys := false, apart := false }
def FoldTwiceSaid : Prop := foldTwiceRow.holds Try.pinned (OpenSpec.ofChange foldTwiceSpec)

/-- ITS FALSE NEIGHBOUR: 'it returns false'. Refute it at one input. -/
def foldTwiceWrong : ChangeSpec := { name := "foldTwice", fn := fun _ => fun
  | [d1, d2] => { results := [.lit (.bool false)], args := [d1, d2] }
  | _ => none }
def FoldTwiceWrongFalsely : Prop := foldTwiceRow.holds Try.pinned (OpenSpec.ofChange foldTwiceWrong)

/-- 'sobriquetlaw12.FoldLetters': WHATEVER THE INPUT: true; the input reads as it did. -/
def foldLettersSpec : ChangeSpec := { name := "foldLetters", fn := fun _ => fun
  | [d] => { results := [.lit (.bool true)], args := [d] }
  | _ => none }
def foldLettersRow : OpenClaim := { program := "ytdncmdpacidgmaa", sum := "3d23f110d5461c6bb380efa5ba1c7f680af721b1281dfe66ad3a15029468e16e", func := "sobriquet/sobriquetlaw12.FoldLetters", spec := "foldLetters", unfollowed := true, recurses := true, plainKeys := false, apart := false }
def FoldLettersSaid : Prop := foldLettersRow.holds Try.pinned (OpenSpec.ofChange foldLettersSpec)

/-- ITS FALSE NEIGHBOUR: 'it returns false'. Refute it at one input. -/
def foldLettersWrong : ChangeSpec := { name := "foldLetters", fn := fun _ => fun
  | [d] => { results := [.lit (.bool false)], args := [d] }
  | _ => none }
def FoldLettersWrongFalsely : Prop := foldLettersRow.holds Try.pinned (OpenSpec.ofChange foldLettersWrong)

/-- 'sobriquetlaw12.FoldMarks': WHATEVER THE INPUT: true; the input reads as it did. -/
def foldMarksSpec : ChangeSpec := { name := "foldMarks", fn := fun _ => fun
  | [d1, d2] => { results := [.lit (.bool true)], args := [d1, d2] }
  | _ => none }
def foldMarksRow : OpenClaim := { program := "ytdncmdpacidgmaa", sum := "3d23f110d5461c6bb380efa5ba1c7f680af721b1281dfe66ad3a15029468e16e", func := "sobriquet/sobriquetlaw12.FoldMarks", spec := "foldMarks", unfollowed := true, recurses := true, plainKeys := false, apart := false }
def FoldMarksSaid : Prop := foldMarksRow.holds Try.pinned (OpenSpec.ofChange foldMarksSpec)

/-- ITS FALSE NEIGHBOUR: 'it returns false'. Refute it at one input. -/
def foldMarksWrong : ChangeSpec := { name := "foldMarks", fn := fun _ => fun
  | [d1, d2] => { results := [.lit (.bool false)], args := [d1, d2] }
  | _ => none }
def FoldMarksWrongFalsely : Prop := foldMarksRow.holds Try.pinned (OpenSpec.ofChange foldMarksWrong)

/- THE SECOND FORM. 'bulk': how many values and letters a reading holds, each counted each time it is reached (what is shared counts as often as it is met; a slice's spare places count too). A statement '..UptoSaid' is the law's where the arguments, and the package variables that the reading takes, are together of bulk at most 1048576: NARROWER than '..Said'. Prove '..Said' where nothing that the law and all that it calls make is longer than what came in: it says more and counts as full. Else prove '..UptoSaid'. A law counts once. -/
mutual
def uptoBulk {H : Type} : DataW H → Nat
  | .lit (.string bytes) => bytes.length + 1
  | .lit _ => 1
  | .nil => 1
  | .ptr d => uptoBulk d + 1
  | .slice elems spare => uptoBulkAll elems + uptoBulkAll spare + 1
  | .agg parts => uptoBulkAll parts + 1
  | .iface _ d => uptoBulk d + 1
  | .map entries => uptoBulkEntries entries + 1
  | .held _ => 1
def uptoBulkAll {H : Type} : List (DataW H) → Nat
  | [] => 0
  | d :: r => uptoBulk d + uptoBulkAll r
def uptoBulkEntries {H : Type} : List (Lit × DataW H) → Nat
  | [] => 0
  | x :: r => uptoBulkEntry x + uptoBulkEntries r
def uptoBulkEntry {H : Type} : Lit × DataW H → Nat
  | (.string bytes, d) => bytes.length + uptoBulk d + 1
  | (_, d) => uptoBulk d + 1
 end
def uptoSmall : (H : Type) → List (DataW H) → Bool := fun _ ds => decide (uptoBulkAll ds ≤ 1048576)
def OpenSpec.upto (s : _root_.Go.ChangeSpec) : _root_.Go.OpenSpec := { _root_.Go.OpenSpec.ofChange s with cond := some uptoSmall }

/-- 'sobriquetlaw12.FoldExact', WHERE WHAT IT READS IS OF BULK AT MOST 1048576: true; the input reads as it did. -/
def foldExactUptoRow : OpenClaim := { program := "ytdncmdpacidgmaa", sum := "3d23f110d5461c6bb380efa5ba1c7f680af721b1281dfe66ad3a15029468e16e", func := "sobriquet/sobriquetlaw12.FoldExact", spec := "foldExact", unfollowed := true, recurses := true, plainKeys := false, apart := false, narrowed := true }
def FoldExactUptoSaid : Prop := foldExactUptoRow.holds Try.pinned (OpenSpec.upto foldExactSpec)

/-- 'sobriquetlaw12.FoldTwice', WHERE WHAT IT READS IS OF BULK AT MOST 1048576: true; the input reads as it did. -/
def foldTwiceUptoRow : OpenClaim := { program := "ytdncmdpacidgmaa", sum := "3d23f110d5461c6bb380efa5ba1c7f680af721b1281dfe66ad3a15029468e16e", func := "sobriquet/sobriquetlaw12.FoldTwice", spec := "foldTwice", unfollowed := true, recurses := true, plainKeys := false, apart := false, narrowed := true }
def FoldTwiceUptoSaid : Prop := foldTwiceUptoRow.holds Try.pinned (OpenSpec.upto foldTwiceSpec)

/-- 'sobriquetlaw12.FoldLetters', WHERE WHAT IT READS IS OF BULK AT MOST 1048576: true; the input reads as it did. -/
def foldLettersUptoRow : OpenClaim := { program := "ytdncmdpacidgmaa", sum := "3d23f110d5461c6bb380efa5ba1c7f680af721b1281dfe66ad3a15029468e16e", func := "sobriquet/sobriquetlaw12.FoldLetters", spec := "foldLetters", unfollowed := true, recurses := true, plainKeys := false, apart := false, narrowed := true }
def FoldLettersUptoSaid : Prop := foldLettersUptoRow.holds Try.pinned (OpenSpec.upto foldLettersSpec)

/-- 'sobriquetlaw12.FoldMarks', WHERE WHAT IT READS IS OF BULK AT MOST 1048576: true; the input reads as it did. -/
def foldMarksUptoRow : OpenClaim := { program := "ytdncmdpacidgmaa", sum := "3d23f110d5461c6bb380efa5ba1c7f680af721b1281dfe66ad3a15029468e16e", func := "sobriquet/sobriquetlaw12.FoldMarks", spec := "foldMarks", unfollowed := true, recurses := true, plainKeys := false, apart := false, narrowed := true }
def FoldMarksUptoSaid : Prop := foldMarksUptoRow.holds Try.pinned (OpenSpec.upto foldMarksSpec)

end Rows
end Go.Proofs.Ytdncmdpacidgmaa

/-
  No cell of these rows narrows 'for every input' (looked for: loops, veiled, ifaces, maps, wideKeys, modest, calm, conditions, laid).
  DERIVED. THE GIVEN ROWS OF THIS SEAT. 4 by the template 'for every input the law returns true; each argument reads behind the call as it read before'; 0 by the template 'total and deterministic' (their statements: YtjiheplifmakpaaTotals.lean).
  GIVEN WITH THE SEED: the statements are not yours to turn. If you find one false, say at which input.
  Laid BY PROGRAM, IN A SANDBOX (cutbox-rows.mjs): the forced cells as the released guide's own fill.sh prints them over the translation 7f7f18eded85fa8b… (all of the seat's roots in one cut). By AI agents, Wed Nov 11 2026. No macro, syntax, notation, axiom, sorry.
-/
import Derived.Test.YtjiheplifmakpaaChecked
import GoSem.Claim
import GoSem.ClaimJoined
import GoSem.ClaimMapViews
import Derived.JoinedTies
import Derived.KernelRfl
namespace Go.Proofs.Ytjiheplifmakpaa
/- THE CELL 'sum', in the pinned program and in every row, IS THE sha256 OF THE DUMP (.gsa) THAT YtjiheplifmakpaaProg.lean LOADS. Nothing in Lean hashes anything: it is a label: what it is worth is what the hold of that sum in a sandbox is worth. -/
noncomputable def Try.pinned : Pinned := { name := "ytjiheplifmakpaa", sum := "7f7f18eded85fa8b604084d4b711f2739df0a458bb7a14146e769d985b22de8b", checked := Try.checked }
namespace Rows
def none {H : Type} : Left H := { results := [], args := [] }

/-- 'sobriquetlaw08.DecompExact': WHATEVER THE INPUT: true; the input reads as it did. -/
def decompExactSpec : ChangeSpec := { name := "decompExact", fn := fun _ => fun
  | [d1, d2, d3] => { results := [.lit (.bool true)], args := [d1, d2, d3] }
  | _ => none }
def decompExactRow : OpenClaim := { program := "ytjiheplifmakpaa", sum := "7f7f18eded85fa8b604084d4b711f2739df0a458bb7a14146e769d985b22de8b", func := "sobriquet/sobriquetlaw08.DecompExact", spec := "decompExact", unfollowed := true, recurses := true, apart := false }
def DecompExactSaid : Prop := decompExactRow.holds Try.pinned (OpenSpec.ofChange decompExactSpec)

/-- ITS FALSE NEIGHBOUR: 'it returns false'. Refute it at one input. -/
def decompExactWrong : ChangeSpec := { name := "decompExact", fn := fun _ => fun
  | [d1, d2, d3] => { results := [.lit (.bool false)], args := [d1, d2, d3] }
  | _ => none }
def DecompExactWrongFalsely : Prop := decompExactRow.holds Try.pinned (OpenSpec.ofChange decompExactWrong)

/-- 'sobriquetlaw08.DecompStays': WHATEVER THE INPUT: true; the input reads as it did. -/
def decompStaysSpec : ChangeSpec := { name := "decompStays", fn := fun _ => fun
  | [d1, d2] => { results := [.lit (.bool true)], args := [d1, d2] }
  | _ => none }
def decompStaysRow : OpenClaim := { program := "ytjiheplifmakpaa", sum := "7f7f18eded85fa8b604084d4b711f2739df0a458bb7a14146e769d985b22de8b", func := "sobriquet/sobriquetlaw08.DecompStays", spec := "decompStays", unfollowed := true, recurses := true, apart := false }
def DecompStaysSaid : Prop := decompStaysRow.holds Try.pinned (OpenSpec.ofChange decompStaysSpec)

/-- ITS FALSE NEIGHBOUR: 'it returns false'. Refute it at one input. -/
def decompStaysWrong : ChangeSpec := { name := "decompStays", fn := fun _ => fun
  | [d1, d2] => { results := [.lit (.bool false)], args := [d1, d2] }
  | _ => none }
def DecompStaysWrongFalsely : Prop := decompStaysRow.holds Try.pinned (OpenSpec.ofChange decompStaysWrong)

/-- 'sobriquetlaw08.DecompParts': WHATEVER THE INPUT: true; the input reads as it did. -/
def decompPartsSpec : ChangeSpec := { name := "decompParts", fn := fun _ => fun
  | [d1, d2, d3, d4] => { results := [.lit (.bool true)], args := [d1, d2, d3, d4] }
  | _ => none }
def decompPartsRow : OpenClaim := { program := "ytjiheplifmakpaa", sum := "7f7f18eded85fa8b604084d4b711f2739df0a458bb7a14146e769d985b22de8b", func := "sobriquet/sobriquetlaw08.DecompParts", spec := "decompParts", unfollowed := true, recurses := true, apart := false }
def DecompPartsSaid : Prop := decompPartsRow.holds Try.pinned (OpenSpec.ofChange decompPartsSpec)

/-- ITS FALSE NEIGHBOUR: 'it returns false'. Refute it at one input. -/
def decompPartsWrong : ChangeSpec := { name := "decompParts", fn := fun _ => fun
  | [d1, d2, d3, d4] => { results := [.lit (.bool false)], args := [d1, d2, d3, d4] }
  | _ => none }
def DecompPartsWrongFalsely : Prop := decompPartsRow.holds Try.pinned (OpenSpec.ofChange decompPartsWrong)

/-- 'sobriquetlaw08.DecompTwice': WHATEVER THE INPUT: true; the input reads as it did. -/
def decompTwiceSpec : ChangeSpec := { name := "decompTwice", fn := fun _ => fun
  | [d] => { results := [.lit (.bool true)], args := [d] }
  | _ => none }
def decompTwiceRow : OpenClaim := { program := "ytjiheplifmakpaa", sum := "7f7f18eded85fa8b604084d4b711f2739df0a458bb7a14146e769d985b22de8b", func := "sobriquet/sobriquetlaw08.DecompTwice", spec := "decompTwice", unfollowed := true, recurses := true, apart := false }
def DecompTwiceSaid : Prop := decompTwiceRow.holds Try.pinned (OpenSpec.ofChange decompTwiceSpec)

/-- ITS FALSE NEIGHBOUR: 'it returns false'. Refute it at one input. -/
def decompTwiceWrong : ChangeSpec := { name := "decompTwice", fn := fun _ => fun
  | [d] => { results := [.lit (.bool false)], args := [d] }
  | _ => none }
def DecompTwiceWrongFalsely : Prop := decompTwiceRow.holds Try.pinned (OpenSpec.ofChange decompTwiceWrong)

/- THE SECOND FORM. 'bulk': how many values and letters a reading holds, each counted each time it is reached (what is shared counts as often as it is met; a slice's spare places count too). A statement '..UptoSaid' is the law's where the arguments, and the package variables that the reading takes, are together of bulk at most 1048576: NARROWER than '..Said'. Prove '..Said' where nothing that the law and all that it calls make is longer than what came in: it says more and counts as full. Else prove '..UptoSaid'. A law counts once. -/
mutual
def uptoBulk {H : Type} : DataW H → Nat
  | .lit (.string bytes) => bytes.length + 1
  | .lit _ => 1
  | .nil => 1
  | .ptr d => uptoBulk d + 1
  | .slice elems spare => uptoBulkAll elems + uptoBulkAll spare + 1
  | .agg parts => uptoBulkAll parts + 1
  | .iface _ d => uptoBulk d + 1
  | .map entries => uptoBulkEntries entries + 1
  | .held _ => 1
def uptoBulkAll {H : Type} : List (DataW H) → Nat
  | [] => 0
  | d :: r => uptoBulk d + uptoBulkAll r
def uptoBulkEntries {H : Type} : List (Lit × DataW H) → Nat
  | [] => 0
  | x :: r => uptoBulkEntry x + uptoBulkEntries r
def uptoBulkEntry {H : Type} : Lit × DataW H → Nat
  | (.string bytes, d) => bytes.length + uptoBulk d + 1
  | (_, d) => uptoBulk d + 1
 end
def uptoSmall : (H : Type) → List (DataW H) → Bool := fun _ ds => decide (uptoBulkAll ds ≤ 1048576)
def OpenSpec.upto (s : _root_.Go.ChangeSpec) : _root_.Go.OpenSpec := { _root_.Go.OpenSpec.ofChange s with cond := some uptoSmall }

/-- 'sobriquetlaw08.DecompExact', WHERE WHAT IT READS IS OF BULK AT MOST 1048576: true; the input reads as it did. -/
def decompExactUptoRow : OpenClaim := { program := "ytjiheplifmakpaa", sum := "7f7f18eded85fa8b604084d4b711f2739df0a458bb7a14146e769d985b22de8b", func := "sobriquet/sobriquetlaw08.DecompExact", spec := "decompExact", unfollowed := true, recurses := true, apart := false, narrowed := true }
def DecompExactUptoSaid : Prop := decompExactUptoRow.holds Try.pinned (OpenSpec.upto decompExactSpec)

/-- 'sobriquetlaw08.DecompStays', WHERE WHAT IT READS IS OF BULK AT MOST 1048576: true; the input reads as it did. -/
def decompStaysUptoRow : OpenClaim := { program := "ytjiheplifmakpaa", sum := "7f7f18eded85fa8b604084d4b711f2739df0a458bb7a14146e769d985b22de8b", func := "sobriquet/sobriquetlaw08.DecompStays", spec := "decompStays", unfollowed := true, recurses := true, apart := false, narrowed := true }
def DecompStaysUptoSaid : Prop := decompStaysUptoRow.holds Try.pinned (OpenSpec.upto decompStaysSpec)

/-- 'sobriquetlaw08.DecompParts', WHERE WHAT IT READS IS OF BULK AT MOST 1048576: true; the input reads as it did. -/
def decompPartsUptoRow : OpenClaim := { program := "ytjiheplifmakpaa", sum := "7f7f18eded85fa8b604084d4b711f2739df0a458bb7a14146e769d985b22de8b", func := "sobriquet/sobriquetlaw08.DecompParts", spec := "decompParts", unfollowed := true, recurses := true, apart := false, narrowed := true }
def DecompPartsUptoSaid : Prop := decompPartsUptoRow.holds Try.pinned (OpenSpec.upto decompPartsSpec)

/-- 'sobriquetlaw08.DecompTwice', WHERE WHAT IT READS IS OF BULK AT MOST 1048576: true; the input reads as it did. -/
def decompTwiceUptoRow : OpenClaim := { program := "ytjiheplifmakpaa", sum := "7f7f18eded85fa8b604084d4b711f2739df0a458bb7a14146e769d985b22de8b", func := "sobriquet/sobriquetlaw08.DecompTwice", spec := "decompTwice", unfollowed := true, recurses := true, apart := false, narrowed := true }
def DecompTwiceUptoSaid : Prop := decompTwiceUptoRow.holds Try.pinned (OpenSpec.upto decompTwiceSpec)

end Rows
end Go.Proofs.Ytjiheplifmakpaa

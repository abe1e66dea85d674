/-
  No cell of these rows narrows 'for every input' (looked for: loops, veiled, ifaces, maps, wideKeys, modest, calm, conditions, laid).
  DERIVED. THE GIVEN ROWS OF THIS SEAT. 7 by the template 'for every input the law returns true; each argument reads behind the call as it read before'; 0 by the template 'total and deterministic' (their statements: YtimbchkoomjhkaaTotals.lean).
  GIVEN WITH THE SEED: the statements are not yours to turn. If you find one false, say at which input.
  Laid BY PROGRAM, IN A SANDBOX (cutbox-rows.mjs): the forced cells as the released guide's own fill.sh prints them over the translation bcec43c973d83a3f… (all of the seat's roots in one cut). By AI agents, Wed Nov 11 2026. No macro, syntax, notation, axiom, sorry.
-/
import Derived.Test.YtimbchkoomjhkaaChecked
import GoSem.Claim
import GoSem.ClaimJoined
import GoSem.ClaimMapViews
import Derived.JoinedTies
import Derived.KernelRfl
namespace Go.Proofs.Ytimbchkoomjhkaa
/- THE CELL 'sum', in the pinned program and in every row, IS THE sha256 OF THE DUMP (.gsa) THAT YtimbchkoomjhkaaProg.lean LOADS. Nothing in Lean hashes anything: it is a label: what it is worth is what the hold of that sum in a sandbox is worth. -/
noncomputable def Try.pinned : Pinned := { name := "ytimbchkoomjhkaa", sum := "bcec43c973d83a3f99a59065f7fcb3de0f98f1f8bc46a7a633ba1f5c1ad7666c", checked := Try.checked }
namespace Rows
def none {H : Type} : Left H := { results := [], args := [] }

/-- 'sobriquetlaw11.NormExact': WHATEVER THE INPUT: true; the input reads as it did. -/
def normExactSpec : ChangeSpec := { name := "normExact", fn := fun _ => fun
  | [d1, d2, d3] => { results := [.lit (.bool true)], args := [d1, d2, d3] }
  | _ => none }
def normExactRow : OpenClaim := { program := "ytimbchkoomjhkaa", sum := "bcec43c973d83a3f99a59065f7fcb3de0f98f1f8bc46a7a633ba1f5c1ad7666c", func := "sobriquet/sobriquetlaw11.NormExact", spec := "normExact", unfollowed := true, recurses := true, plainKeys := false, apart := false }
def NormExactSaid : Prop := normExactRow.holds Try.pinned (OpenSpec.ofChange normExactSpec)

/-- ITS FALSE NEIGHBOUR: 'it returns false'. Refute it at one input. -/
def normExactWrong : ChangeSpec := { name := "normExact", fn := fun _ => fun
  | [d1, d2, d3] => { results := [.lit (.bool false)], args := [d1, d2, d3] }
  | _ => none }
def NormExactWrongFalsely : Prop := normExactRow.holds Try.pinned (OpenSpec.ofChange normExactWrong)

/-- 'sobriquetlaw11.NormTwice': WHATEVER THE INPUT: true; the input reads as it did. -/
def normTwiceSpec : ChangeSpec := { name := "normTwice", fn := fun _ => fun
  | [d1, d2] => { results := [.lit (.bool true)], args := [d1, d2] }
  | _ => none }
def normTwiceRow : OpenClaim := { program := "ytimbchkoomjhkaa", sum := "bcec43c973d83a3f99a59065f7fcb3de0f98f1f8bc46a7a633ba1f5c1ad7666c", func := "sobriquet/sobriquetlaw11.NormTwice", spec := "normTwice", unfollowed := true, recurses := true, plainKeys := false, apart := false }
def NormTwiceSaid : Prop := normTwiceRow.holds Try.pinned (OpenSpec.ofChange normTwiceSpec)

/-- ITS FALSE NEIGHBOUR: 'it returns false'. Refute it at one input. -/
def normTwiceWrong : ChangeSpec := { name := "normTwice", fn := fun _ => fun
  | [d1, d2] => { results := [.lit (.bool false)], args := [d1, d2] }
  | _ => none }
def NormTwiceWrongFalsely : Prop := normTwiceRow.holds Try.pinned (OpenSpec.ofChange normTwiceWrong)

/-- 'sobriquetlaw11.NormQuick': WHATEVER THE INPUT: true; the input reads as it did. -/
def normQuickSpec : ChangeSpec := { name := "normQuick", fn := fun _ => fun
  | [d1, d2, d3] => { results := [.lit (.bool true)], args := [d1, d2, d3] }
  | _ => none }
def normQuickRow : OpenClaim := { program := "ytimbchkoomjhkaa", sum := "bcec43c973d83a3f99a59065f7fcb3de0f98f1f8bc46a7a633ba1f5c1ad7666c", func := "sobriquet/sobriquetlaw11.NormQuick", spec := "normQuick", unfollowed := true, recurses := true, plainKeys := false, apart := false }
def NormQuickSaid : Prop := normQuickRow.holds Try.pinned (OpenSpec.ofChange normQuickSpec)

/-- ITS FALSE NEIGHBOUR: 'it returns false'. Refute it at one input. -/
def normQuickWrong : ChangeSpec := { name := "normQuick", fn := fun _ => fun
  | [d1, d2, d3] => { results := [.lit (.bool false)], args := [d1, d2, d3] }
  | _ => none }
def NormQuickWrongFalsely : Prop := normQuickRow.holds Try.pinned (OpenSpec.ofChange normQuickWrong)

/-- 'sobriquetlaw11.NormSame': WHATEVER THE INPUT: true; the input reads as it did. -/
def normSameSpec : ChangeSpec := { name := "normSame", fn := fun _ => fun
  | [d1, d2, d3, d4] => { results := [.lit (.bool true)], args := [d1, d2, d3, d4] }
  | _ => none }
def normSameRow : OpenClaim := { program := "ytimbchkoomjhkaa", sum := "bcec43c973d83a3f99a59065f7fcb3de0f98f1f8bc46a7a633ba1f5c1ad7666c", func := "sobriquet/sobriquetlaw11.NormSame", spec := "normSame", unfollowed := true, recurses := true, plainKeys := false, apart := false }
def NormSameSaid : Prop := normSameRow.holds Try.pinned (OpenSpec.ofChange normSameSpec)

/-- ITS FALSE NEIGHBOUR: 'it returns false'. Refute it at one input. -/
def normSameWrong : ChangeSpec := { name := "normSame", fn := fun _ => fun
  | [d1, d2, d3, d4] => { results := [.lit (.bool false)], args := [d1, d2, d3, d4] }
  | _ => none }
def NormSameWrongFalsely : Prop := normSameRow.holds Try.pinned (OpenSpec.ofChange normSameWrong)

/-- 'sobriquetlaw11.NormChain': WHATEVER THE INPUT: true; the input reads as it did. -/
def normChainSpec : ChangeSpec := { name := "normChain", fn := fun _ => fun
  | [d] => { results := [.lit (.bool true)], args := [d] }
  | _ => none }
def normChainRow : OpenClaim := { program := "ytimbchkoomjhkaa", sum := "bcec43c973d83a3f99a59065f7fcb3de0f98f1f8bc46a7a633ba1f5c1ad7666c", func := "sobriquet/sobriquetlaw11.NormChain", spec := "normChain", unfollowed := true, recurses := true, plainKeys := false, apart := false }
def NormChainSaid : Prop := normChainRow.holds Try.pinned (OpenSpec.ofChange normChainSpec)

/-- ITS FALSE NEIGHBOUR: 'it returns false'. Refute it at one input. -/
def normChainWrong : ChangeSpec := { name := "normChain", fn := fun _ => fun
  | [d] => { results := [.lit (.bool false)], args := [d] }
  | _ => none }
def NormChainWrongFalsely : Prop := normChainRow.holds Try.pinned (OpenSpec.ofChange normChainWrong)

/-- 'sobriquetlaw11.NormScalars': WHATEVER THE INPUT: true; the input reads as it did. -/
def normScalarsSpec : ChangeSpec := { name := "normScalars", fn := fun _ => fun
  | [d] => { results := [.lit (.bool true)], args := [d] }
  | _ => none }
def normScalarsRow : OpenClaim := { program := "ytimbchkoomjhkaa", sum := "bcec43c973d83a3f99a59065f7fcb3de0f98f1f8bc46a7a633ba1f5c1ad7666c", func := "sobriquet/sobriquetlaw11.NormScalars", spec := "normScalars", unfollowed := true, recurses := true, plainKeys := false, apart := false }
def NormScalarsSaid : Prop := normScalarsRow.holds Try.pinned (OpenSpec.ofChange normScalarsSpec)

/-- ITS FALSE NEIGHBOUR: 'it returns false'. Refute it at one input. -/
def normScalarsWrong : ChangeSpec := { name := "normScalars", fn := fun _ => fun
  | [d] => { results := [.lit (.bool false)], args := [d] }
  | _ => none }
def NormScalarsWrongFalsely : Prop := normScalarsRow.holds Try.pinned (OpenSpec.ofChange normScalarsWrong)

/-- 'sobriquetlaw11.NormHangul': WHATEVER THE INPUT: true; the input reads as it did. -/
def normHangulSpec : ChangeSpec := { name := "normHangul", fn := fun _ => fun
  | [d1, d2] => { results := [.lit (.bool true)], args := [d1, d2] }
  | _ => none }
def normHangulRow : OpenClaim := { program := "ytimbchkoomjhkaa", sum := "bcec43c973d83a3f99a59065f7fcb3de0f98f1f8bc46a7a633ba1f5c1ad7666c", func := "sobriquet/sobriquetlaw11.NormHangul", spec := "normHangul", unfollowed := true, recurses := true, plainKeys := false, apart := false }
def NormHangulSaid : Prop := normHangulRow.holds Try.pinned (OpenSpec.ofChange normHangulSpec)

/-- ITS FALSE NEIGHBOUR: 'it returns false'. Refute it at one input. -/
def normHangulWrong : ChangeSpec := { name := "normHangul", fn := fun _ => fun
  | [d1, d2] => { results := [.lit (.bool false)], args := [d1, d2] }
  | _ => none }
def NormHangulWrongFalsely : Prop := normHangulRow.holds Try.pinned (OpenSpec.ofChange normHangulWrong)

/- THE SECOND FORM. 'bulk': how many values and letters a reading holds, each counted each time it is reached (what is shared counts as often as it is met; a slice's spare places count too). A statement '..UptoSaid' is the law's where the arguments, and the package variables that the reading takes, are together of bulk at most 1048576: NARROWER than '..Said'. Prove '..Said' where nothing that the law and all that it calls make is longer than what came in: it says more and counts as full. Else prove '..UptoSaid'. A law counts once. -/
mutual
def uptoBulk {H : Type} : DataW H → Nat
  | .lit (.string bytes) => bytes.length + 1
  | .lit _ => 1
  | .nil => 1
  | .ptr d => uptoBulk d + 1
  | .slice elems spare => uptoBulkAll elems + uptoBulkAll spare + 1
  | .agg parts => uptoBulkAll parts + 1
  | .iface _ d => uptoBulk d + 1
  | .map entries => uptoBulkEntries entries + 1
  | .held _ => 1
def uptoBulkAll {H : Type} : List (DataW H) → Nat
  | [] => 0
  | d :: r => uptoBulk d + uptoBulkAll r
def uptoBulkEntries {H : Type} : List (Lit × DataW H) → Nat
  | [] => 0
  | x :: r => uptoBulkEntry x + uptoBulkEntries r
def uptoBulkEntry {H : Type} : Lit × DataW H → Nat
  | (.string bytes, d) => bytes.length + uptoBulk d + 1
  | (_, d) => uptoBulk d + 1
 end
def uptoSmall : (H : Type) → List (DataW H) → Bool := fun _ ds => decide (uptoBulkAll ds ≤ 1048576)
def OpenSpec.upto (s : _root_.Go.ChangeSpec) : _root_.Go.OpenSpec := { _root_.Go.OpenSpec.ofChange s with cond := some uptoSmall }

/-- 'sobriquetlaw11.NormExact', WHERE WHAT IT READS IS OF BULK AT MOST 1048576: true; the input reads as it did. -/
def normExactUptoRow : OpenClaim := { program := "ytimbchkoomjhkaa", sum := "bcec43c973d83a3f99a59065f7fcb3de0f98f1f8bc46a7a633ba1f5c1ad7666c", func := "sobriquet/sobriquetlaw11.NormExact", spec := "normExact", unfollowed := true, recurses := true, plainKeys := false, apart := false, narrowed := true }
def NormExactUptoSaid : Prop := normExactUptoRow.holds Try.pinned (OpenSpec.upto normExactSpec)

/-- 'sobriquetlaw11.NormTwice', WHERE WHAT IT READS IS OF BULK AT MOST 1048576: true; the input reads as it did. -/
def normTwiceUptoRow : OpenClaim := { program := "ytimbchkoomjhkaa", sum := "bcec43c973d83a3f99a59065f7fcb3de0f98f1f8bc46a7a633ba1f5c1ad7666c", func := "sobriquet/sobriquetlaw11.NormTwice", spec := "normTwice", unfollowed := true, recurses := true, plainKeys := false, apart := false, narrowed := true }
def NormTwiceUptoSaid : Prop := normTwiceUptoRow.holds Try.pinned (OpenSpec.upto normTwiceSpec)

/-- 'sobriquetlaw11.NormQuick', WHERE WHAT IT READS IS OF BULK AT MOST 1048576: true; the input reads as it did. -/
def normQuickUptoRow : OpenClaim := { program := "ytimbchkoomjhkaa", sum := "bcec43c973d83a3f99a59065f7fcb3de0f98f1f8bc46a7a633ba1f5c1ad7666c", func := "sobriquet/sobriquetlaw11.NormQuick", spec := "normQuick", unfollowed := true, recurses := true, plainKeys := false, apart := false, narrowed := true }
def NormQuickUptoSaid : Prop := normQuickUptoRow.holds Try.pinned (OpenSpec.upto normQuickSpec)

/-- 'sobriquetlaw11.NormSame', WHERE WHAT IT READS IS OF BULK AT MOST 1048576: true; the input reads as it did. -/
def normSameUptoRow : OpenClaim := { program := "ytimbchkoomjhkaa", sum := "bcec43c973d83a3f99a59065f7fcb3de0f98f1f8bc46a7a633ba1f5c1ad7666c", func := "sobriquet/sobriquetlaw11.NormSame", spec := "normSame", unfollowed := true, recurses := true, plainKeys := false, apart := false, narrowed := true }
def NormSameUptoSaid : Prop := normSameUptoRow.holds Try.pinned (OpenSpec.upto normSameSpec)

/-- 'sobriquetlaw11.NormChain', WHERE WHAT IT READS IS OF BULK AT MOST 1048576: true; the input reads as it did. -/
def normChainUptoRow : OpenClaim := { program := "ytimbchkoomjhkaa", sum := "bcec43c973d83a3f99a59065f7fcb3de0f98f1f8bc46a7a633ba1f5c1ad7666c", func := "sobriquet/sobriquetlaw11.NormChain", spec := "normChain", unfollowed := true, recurses := true, plainKeys := false, apart := false, narrowed := true }
def NormChainUptoSaid : Prop := normChainUptoRow.holds Try.pinned (OpenSpec.upto normChainSpec)

/-- 'sobriquetlaw11.NormScalars', WHERE WHAT IT READS IS OF BULK AT MOST 1048576: true; the input reads as it did. -/
def normScalarsUptoRow : OpenClaim := { program := "ytimbchkoomjhkaa", sum := "bcec43c973d83a3f99a59065f7fcb3de0f98f1f8bc46a7a633ba1f5c1ad7666c", func := "sobriquet/sobriquetlaw11.NormScalars", spec := "normScalars", unfollowed := true, recurses := true, plainKeys := false, apart := false, narrowed := true }
def NormScalarsUptoSaid : Prop := normScalarsUptoRow.holds Try.pinned (OpenSpec.upto normScalarsSpec)

/-- 'sobriquetlaw11.NormHangul', WHERE WHAT IT READS IS OF BULK AT MOST 1048576: true; the input reads as it did. -/
def normHangulUptoRow : OpenClaim := { program := "ytimbchkoomjhkaa", sum := "bcec43c973d83a3f99a59065f7fcb3de0f98f1f8bc46a7a633ba1f5c1ad7666c", func := "sobriquet/sobriquetlaw11.NormHangul", spec := "normHangul", unfollowed := true, recurses := true, plainKeys := false, apart := false, narrowed := true }
def NormHangulUptoSaid : Prop := normHangulUptoRow.holds Try.pinned (OpenSpec.upto normHangulSpec)

end Rows
end Go.Proofs.Ytimbchkoomjhkaa

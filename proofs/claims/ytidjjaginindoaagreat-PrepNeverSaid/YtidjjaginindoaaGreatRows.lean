/-
  No cell of these rows narrows 'for every input' (looked for: loops, veiled, ifaces, maps, wideKeys, modest, calm, conditions, laid).
  DERIVED. THE GIVEN ROWS OF THIS SEAT. 5 by the template 'for every input the law returns true; each argument reads behind the call as it read before'; 0 by the template 'total and deterministic' (their statements: YtidjjaginindoaaGreatTotals.lean).
  GIVEN WITH THE SEED: the statements are not yours to turn. If you find one false, say at which input.
  Laid BY PROGRAM, IN A SANDBOX (cutbox-rows.mjs): the forced cells as the released guide's own fill.sh prints them over the translation 57a6a80946cf6c98… (all of the seat's roots in one cut). By AI agents, Wed Nov 11 2026. No macro, syntax, notation, axiom, sorry.
-/
import Derived.Test.YtidjjaginindoaaGreatChecked
import GoSem.Claim
import GoSem.ClaimJoined
import GoSem.ClaimMapViews
import Derived.JoinedTies
import Derived.KernelRfl
namespace Go.Proofs.YtidjjaginindoaaGreat
/- THE CELL 'sum', in the pinned program and in every row, IS THE sha256 OF THE DUMP (.gsa) THAT YtidjjaginindoaaGreatProg.lean LOADS. Nothing in Lean hashes anything: it is a label: what it is worth is what the hold of that sum in a sandbox is worth. -/
noncomputable def Tryz.pinned : Pinned := { name := "ytidjjaginindoaagreat", sum := "57a6a80946cf6c9874029412ce20f5feb96d91443d1a1e5f7fd3e17c49ff74c8", checked := Tryz.checked }
namespace Rows
def none {H : Type} : Left H := { results := [], args := [] }

/-- 'sobriquetlaw21.PrepExact': WHATEVER THE INPUT: true; the input reads as it did. -/
def prepExactSpec : ChangeSpec := { name := "prepExact", fn := fun _ => fun
  | [d1, d2, d3] => { results := [.lit (.bool true)], args := [d1, d2, d3] }
  | _ => none }
def prepExactRow : OpenClaim := { program := "ytidjjaginindoaagreat", sum := "57a6a80946cf6c9874029412ce20f5feb96d91443d1a1e5f7fd3e17c49ff74c8", func := "sobriquet/sobriquetlaw21.PrepExact", spec := "prepExact", unfollowed := true, recurses := true, plainKeys := false, apart := false }
def PrepExactSaid : Prop := prepExactRow.holds Tryz.pinned (OpenSpec.ofChange prepExactSpec)

/-- ITS FALSE NEIGHBOUR: 'it returns false'. Refute it at one input. -/
def prepExactWrong : ChangeSpec := { name := "prepExact", fn := fun _ => fun
  | [d1, d2, d3] => { results := [.lit (.bool false)], args := [d1, d2, d3] }
  | _ => none }
def PrepExactWrongFalsely : Prop := prepExactRow.holds Tryz.pinned (OpenSpec.ofChange prepExactWrong)

/-- 'sobriquetlaw21.PrepSteps': WHATEVER THE INPUT: true; the input reads as it did. -/
def prepStepsSpec : ChangeSpec := { name := "prepSteps", fn := fun _ => fun
  | [d1, d2] => { results := [.lit (.bool true)], args := [d1, d2] }
  | _ => none }
def prepStepsRow : OpenClaim := { program := "ytidjjaginindoaagreat", sum := "57a6a80946cf6c9874029412ce20f5feb96d91443d1a1e5f7fd3e17c49ff74c8", func := "sobriquet/sobriquetlaw21.PrepSteps", spec := "prepSteps", unfollowed := true, recurses := true, plainKeys := false, apart := false }
def PrepStepsSaid : Prop := prepStepsRow.holds Tryz.pinned (OpenSpec.ofChange prepStepsSpec)

/-- ITS FALSE NEIGHBOUR: 'it returns false'. Refute it at one input. -/
def prepStepsWrong : ChangeSpec := { name := "prepSteps", fn := fun _ => fun
  | [d1, d2] => { results := [.lit (.bool false)], args := [d1, d2] }
  | _ => none }
def PrepStepsWrongFalsely : Prop := prepStepsRow.holds Tryz.pinned (OpenSpec.ofChange prepStepsWrong)

/-- 'sobriquetlaw21.PrepCase': WHATEVER THE INPUT: true; the input reads as it did. -/
def prepCaseSpec : ChangeSpec := { name := "prepCase", fn := fun _ => fun
  | [d1, d2, d3, d4] => { results := [.lit (.bool true)], args := [d1, d2, d3, d4] }
  | _ => none }
def prepCaseRow : OpenClaim := { program := "ytidjjaginindoaagreat", sum := "57a6a80946cf6c9874029412ce20f5feb96d91443d1a1e5f7fd3e17c49ff74c8", func := "sobriquet/sobriquetlaw21.PrepCase", spec := "prepCase", unfollowed := true, recurses := true, plainKeys := false, apart := false }
def PrepCaseSaid : Prop := prepCaseRow.holds Tryz.pinned (OpenSpec.ofChange prepCaseSpec)

/-- ITS FALSE NEIGHBOUR: 'it returns false'. Refute it at one input. -/
def prepCaseWrong : ChangeSpec := { name := "prepCase", fn := fun _ => fun
  | [d1, d2, d3, d4] => { results := [.lit (.bool false)], args := [d1, d2, d3, d4] }
  | _ => none }
def PrepCaseWrongFalsely : Prop := prepCaseRow.holds Tryz.pinned (OpenSpec.ofChange prepCaseWrong)

/-- 'sobriquetlaw21.PrepSpaces': WHATEVER THE INPUT: true; the input reads as it did. -/
def prepSpacesSpec : ChangeSpec := { name := "prepSpaces", fn := fun _ => fun
  | [d1, d2, d3] => { results := [.lit (.bool true)], args := [d1, d2, d3] }
  | _ => none }
def prepSpacesRow : OpenClaim := { program := "ytidjjaginindoaagreat", sum := "57a6a80946cf6c9874029412ce20f5feb96d91443d1a1e5f7fd3e17c49ff74c8", func := "sobriquet/sobriquetlaw21.PrepSpaces", spec := "prepSpaces", unfollowed := true, recurses := true, plainKeys := false, apart := false }
def PrepSpacesSaid : Prop := prepSpacesRow.holds Tryz.pinned (OpenSpec.ofChange prepSpacesSpec)

/-- ITS FALSE NEIGHBOUR: 'it returns false'. Refute it at one input. -/
def prepSpacesWrong : ChangeSpec := { name := "prepSpaces", fn := fun _ => fun
  | [d1, d2, d3] => { results := [.lit (.bool false)], args := [d1, d2, d3] }
  | _ => none }
def PrepSpacesWrongFalsely : Prop := prepSpacesRow.holds Tryz.pinned (OpenSpec.ofChange prepSpacesWrong)

/-- 'sobriquetlaw21.PrepNever': WHATEVER THE INPUT: true; the input reads as it did. -/
def prepNeverSpec : ChangeSpec := { name := "prepNever", fn := fun _ => fun
  | [d1, d2, d3, d4] => { results := [.lit (.bool true)], args := [d1, d2, d3, d4] }
  | _ => none }
def prepNeverRow : OpenClaim := { program := "ytidjjaginindoaagreat", sum := "57a6a80946cf6c9874029412ce20f5feb96d91443d1a1e5f7fd3e17c49ff74c8", func := "sobriquet/sobriquetlaw21.PrepNever", spec := "prepNever", unfollowed := true, recurses := true, plainKeys := false, apart := false }
def PrepNeverSaid : Prop := prepNeverRow.holds Tryz.pinned (OpenSpec.ofChange prepNeverSpec)

/-- ITS FALSE NEIGHBOUR: 'it returns false'. Refute it at one input. -/
def prepNeverWrong : ChangeSpec := { name := "prepNever", fn := fun _ => fun
  | [d1, d2, d3, d4] => { results := [.lit (.bool false)], args := [d1, d2, d3, d4] }
  | _ => none }
def PrepNeverWrongFalsely : Prop := prepNeverRow.holds Tryz.pinned (OpenSpec.ofChange prepNeverWrong)

/- THE SECOND FORM. 'bulk': how many values and letters a reading holds, each counted each time it is reached (what is shared counts as often as it is met; a slice's spare places count too). A statement '..UptoSaid' is the law's where the arguments, and the package variables that the reading takes, are together of bulk at most 1048576: NARROWER than '..Said'. Prove '..Said' where nothing that the law and all that it calls make is longer than what came in: it says more and counts as full. Else prove '..UptoSaid'. A law counts once. -/
mutual
def uptoBulk {H : Type} : DataW H → Nat
  | .lit (.string bytes) => bytes.length + 1
  | .lit _ => 1
  | .nil => 1
  | .ptr d => uptoBulk d + 1
  | .slice elems spare => uptoBulkAll elems + uptoBulkAll spare + 1
  | .agg parts => uptoBulkAll parts + 1
  | .iface _ d => uptoBulk d + 1
  | .map entries => uptoBulkEntries entries + 1
  | .held _ => 1
def uptoBulkAll {H : Type} : List (DataW H) → Nat
  | [] => 0
  | d :: r => uptoBulk d + uptoBulkAll r
def uptoBulkEntries {H : Type} : List (Lit × DataW H) → Nat
  | [] => 0
  | x :: r => uptoBulkEntry x + uptoBulkEntries r
def uptoBulkEntry {H : Type} : Lit × DataW H → Nat
  | (.string bytes, d) => bytes.length + uptoBulk d + 1
  | (_, d) => uptoBulk d + 1
 end
def uptoSmall : (H : Type) → List (DataW H) → Bool := fun _ ds => decide (uptoBulkAll ds ≤ 1048576)
def OpenSpec.upto (s : _root_.Go.ChangeSpec) : _root_.Go.OpenSpec := { _root_.Go.OpenSpec.ofChange s with cond := some uptoSmall }

/-- 'sobriquetlaw21.PrepExact', WHERE WHAT IT READS IS OF BULK AT MOST 1048576: true; the input reads as it did. -/
def prepExactUptoRow : OpenClaim := { program := "ytidjjaginindoaagreat", sum := "57a6a80946cf6c9874029412ce20f5feb96d91443d1a1e5f7fd3e17c49ff74c8", func := "sobriquet/sobriquetlaw21.PrepExact", spec := "prepExact", unfollowed := true, recurses := true, plainKeys := false, apart := false, narrowed := true }
def PrepExactUptoSaid : Prop := prepExactUptoRow.holds Tryz.pinned (OpenSpec.upto prepExactSpec)

/-- 'sobriquetlaw21.PrepSteps', WHERE WHAT IT READS IS OF BULK AT MOST 1048576: true; the input reads as it did. -/
def prepStepsUptoRow : OpenClaim := { program := "ytidjjaginindoaagreat", sum := "57a6a80946cf6c9874029412ce20f5feb96d91443d1a1e5f7fd3e17c49ff74c8", func := "sobriquet/sobriquetlaw21.PrepSteps", spec := "prepSteps", unfollowed := true, recurses := true, plainKeys := false, apart := false, narrowed := true }
def PrepStepsUptoSaid : Prop := prepStepsUptoRow.holds Tryz.pinned (OpenSpec.upto prepStepsSpec)

/-- 'sobriquetlaw21.PrepCase', WHERE WHAT IT READS IS OF BULK AT MOST 1048576: true; the input reads as it did. -/
def prepCaseUptoRow : OpenClaim := { program := "ytidjjaginindoaagreat", sum := "57a6a80946cf6c9874029412ce20f5feb96d91443d1a1e5f7fd3e17c49ff74c8", func := "sobriquet/sobriquetlaw21.PrepCase", spec := "prepCase", unfollowed := true, recurses := true, plainKeys := false, apart := false, narrowed := true }
def PrepCaseUptoSaid : Prop := prepCaseUptoRow.holds Tryz.pinned (OpenSpec.upto prepCaseSpec)

/-- 'sobriquetlaw21.PrepSpaces', WHERE WHAT IT READS IS OF BULK AT MOST 1048576: true; the input reads as it did. -/
def prepSpacesUptoRow : OpenClaim := { program := "ytidjjaginindoaagreat", sum := "57a6a80946cf6c9874029412ce20f5feb96d91443d1a1e5f7fd3e17c49ff74c8", func := "sobriquet/sobriquetlaw21.PrepSpaces", spec := "prepSpaces", unfollowed := true, recurses := true, plainKeys := false, apart := false, narrowed := true }
def PrepSpacesUptoSaid : Prop := prepSpacesUptoRow.holds Tryz.pinned (OpenSpec.upto prepSpacesSpec)

/-- 'sobriquetlaw21.PrepNever', WHERE WHAT IT READS IS OF BULK AT MOST 1048576: true; the input reads as it did. -/
def prepNeverUptoRow : OpenClaim := { program := "ytidjjaginindoaagreat", sum := "57a6a80946cf6c9874029412ce20f5feb96d91443d1a1e5f7fd3e17c49ff74c8", func := "sobriquet/sobriquetlaw21.PrepNever", spec := "prepNever", unfollowed := true, recurses := true, plainKeys := false, apart := false, narrowed := true }
def PrepNeverUptoSaid : Prop := prepNeverUptoRow.holds Tryz.pinned (OpenSpec.upto prepNeverSpec)

end Rows
end Go.Proofs.YtidjjaginindoaaGreat

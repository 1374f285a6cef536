/-
  No cell of these rows narrows 'for every input' (looked for: loops, veiled, ifaces, maps, wideKeys, modest, calm, conditions, laid).
  DERIVED. THE GIVEN ROWS OF THIS SEAT. 5 by the template 'for every input the law returns true; each argument reads behind the call as it read before'; 0 by the template 'total and deterministic' (their statements: YteeclocldjmgaaaTotals.lean).
  GIVEN WITH THE SEED: the statements are not yours to turn. If you find one false, say at which input.
  Laid BY PROGRAM, IN A SANDBOX (cutbox-rows.mjs): the forced cells as the released guide's own fill.sh prints them over the translation 62b20158fda08195… (all of the seat's roots in one cut). By AI agents, Wed Nov 11 2026. No macro, syntax, notation, axiom, sorry.
-/
import Derived.Test.YteeclocldjmgaaaChecked
import GoSem.Claim
import GoSem.ClaimJoined
import GoSem.ClaimMapViews
import Derived.JoinedTies
import Derived.KernelRfl
namespace Go.Proofs.Yteeclocldjmgaaa
/- THE CELL 'sum', in the pinned program and in every row, IS THE sha256 OF THE DUMP (.gsa) THAT YteeclocldjmgaaaProg.lean LOADS. Nothing in Lean hashes anything: it is a label: what it is worth is what the hold of that sum in a sandbox is worth. -/
noncomputable def Try.pinned : Pinned := { name := "yteeclocldjmgaaa", sum := "62b20158fda0819502fb17e572c3c1aa553b664d5eba694d9c76471d4f0e09ba", checked := Try.checked }
namespace Rows
def none {H : Type} : Left H := { results := [], args := [] }

/-- 'laws.FnExactTagOk': WHATEVER THE INPUT: true; the input reads as it did. -/
def fnExactTagOkSpec : ChangeSpec := { name := "fnExactTagOk", fn := fun _ => fun
  | [d] => { results := [.lit (.bool true)], args := [d] }
  | _ => none }
def fnExactTagOkRow : OpenClaim := { program := "yteeclocldjmgaaa", sum := "62b20158fda0819502fb17e572c3c1aa553b664d5eba694d9c76471d4f0e09ba", func := "loop.example/g00207/laws.FnExactTagOk", spec := "fnExactTagOk", apart := false }
def FnExactTagOkSaid : Prop := fnExactTagOkRow.holds Try.pinned (OpenSpec.ofChange fnExactTagOkSpec)

/-- ITS FALSE NEIGHBOUR: 'it returns false'. Refute it at one input. -/
def fnExactTagOkWrong : ChangeSpec := { name := "fnExactTagOk", fn := fun _ => fun
  | [d] => { results := [.lit (.bool false)], args := [d] }
  | _ => none }
def FnExactTagOkWrongFalsely : Prop := fnExactTagOkRow.holds Try.pinned (OpenSpec.ofChange fnExactTagOkWrong)

/-- 'laws.FnExactShowTag': WHATEVER THE INPUT: true; the input reads as it did. -/
def fnExactShowTagSpec : ChangeSpec := { name := "fnExactShowTag", fn := fun _ => fun
  | [d] => { results := [.lit (.bool true)], args := [d] }
  | _ => none }
def fnExactShowTagRow : OpenClaim := { program := "yteeclocldjmgaaa", sum := "62b20158fda0819502fb17e572c3c1aa553b664d5eba694d9c76471d4f0e09ba", func := "loop.example/g00207/laws.FnExactShowTag", spec := "fnExactShowTag", apart := false }
def FnExactShowTagSaid : Prop := fnExactShowTagRow.holds Try.pinned (OpenSpec.ofChange fnExactShowTagSpec)

/-- ITS FALSE NEIGHBOUR: 'it returns false'. Refute it at one input. -/
def fnExactShowTagWrong : ChangeSpec := { name := "fnExactShowTag", fn := fun _ => fun
  | [d] => { results := [.lit (.bool false)], args := [d] }
  | _ => none }
def FnExactShowTagWrongFalsely : Prop := fnExactShowTagRow.holds Try.pinned (OpenSpec.ofChange fnExactShowTagWrong)

/-- 'laws.FnExactReadTag': WHATEVER THE INPUT: true; the input reads as it did. -/
def fnExactReadTagSpec : ChangeSpec := { name := "fnExactReadTag", fn := fun _ => fun
  | [d] => { results := [.lit (.bool true)], args := [d] }
  | _ => none }
def fnExactReadTagRow : OpenClaim := { program := "yteeclocldjmgaaa", sum := "62b20158fda0819502fb17e572c3c1aa553b664d5eba694d9c76471d4f0e09ba", func := "loop.example/g00207/laws.FnExactReadTag", spec := "fnExactReadTag", apart := false }
def FnExactReadTagSaid : Prop := fnExactReadTagRow.holds Try.pinned (OpenSpec.ofChange fnExactReadTagSpec)

/-- ITS FALSE NEIGHBOUR: 'it returns false'. Refute it at one input. -/
def fnExactReadTagWrong : ChangeSpec := { name := "fnExactReadTag", fn := fun _ => fun
  | [d] => { results := [.lit (.bool false)], args := [d] }
  | _ => none }
def FnExactReadTagWrongFalsely : Prop := fnExactReadTagRow.holds Try.pinned (OpenSpec.ofChange fnExactReadTagWrong)

/-- 'laws.FnExactStrong': WHATEVER THE INPUT: true; the input reads as it did. -/
def fnExactStrongSpec : ChangeSpec := { name := "fnExactStrong", fn := fun _ => fun
  | [d1, d2] => { results := [.lit (.bool true)], args := [d1, d2] }
  | _ => none }
def fnExactStrongRow : OpenClaim := { program := "yteeclocldjmgaaa", sum := "62b20158fda0819502fb17e572c3c1aa553b664d5eba694d9c76471d4f0e09ba", func := "loop.example/g00207/laws.FnExactStrong", spec := "fnExactStrong", apart := false }
def FnExactStrongSaid : Prop := fnExactStrongRow.holds Try.pinned (OpenSpec.ofChange fnExactStrongSpec)

/-- ITS FALSE NEIGHBOUR: 'it returns false'. Refute it at one input. -/
def fnExactStrongWrong : ChangeSpec := { name := "fnExactStrong", fn := fun _ => fun
  | [d1, d2] => { results := [.lit (.bool false)], args := [d1, d2] }
  | _ => none }
def FnExactStrongWrongFalsely : Prop := fnExactStrongRow.holds Try.pinned (OpenSpec.ofChange fnExactStrongWrong)

/-- 'laws.FnExactAlike': WHATEVER THE INPUT: true; the input reads as it did. -/
def fnExactAlikeSpec : ChangeSpec := { name := "fnExactAlike", fn := fun _ => fun
  | [d1, d2] => { results := [.lit (.bool true)], args := [d1, d2] }
  | _ => none }
def fnExactAlikeRow : OpenClaim := { program := "yteeclocldjmgaaa", sum := "62b20158fda0819502fb17e572c3c1aa553b664d5eba694d9c76471d4f0e09ba", func := "loop.example/g00207/laws.FnExactAlike", spec := "fnExactAlike", apart := false }
def FnExactAlikeSaid : Prop := fnExactAlikeRow.holds Try.pinned (OpenSpec.ofChange fnExactAlikeSpec)

/-- ITS FALSE NEIGHBOUR: 'it returns false'. Refute it at one input. -/
def fnExactAlikeWrong : ChangeSpec := { name := "fnExactAlike", fn := fun _ => fun
  | [d1, d2] => { results := [.lit (.bool false)], args := [d1, d2] }
  | _ => none }
def FnExactAlikeWrongFalsely : Prop := fnExactAlikeRow.holds Try.pinned (OpenSpec.ofChange fnExactAlikeWrong)

/- THE SECOND FORM. 'bulk': how many values and letters a reading holds, each counted each time it is reached (what is shared counts as often as it is met; a slice's spare places count too). A statement '..UptoSaid' is the law's where the arguments, and the package variables that the reading takes, are together of bulk at most 1048576: NARROWER than '..Said'. Prove '..Said' where nothing that the law and all that it calls make is longer than what came in: it says more and counts as full. Else prove '..UptoSaid'. A law counts once. -/
mutual
def uptoBulk {H : Type} : DataW H → Nat
  | .lit (.string bytes) => bytes.length + 1
  | .lit _ => 1
  | .nil => 1
  | .ptr d => uptoBulk d + 1
  | .slice elems spare => uptoBulkAll elems + uptoBulkAll spare + 1
  | .agg parts => uptoBulkAll parts + 1
  | .iface _ d => uptoBulk d + 1
  | .map entries => uptoBulkEntries entries + 1
  | .held _ => 1
def uptoBulkAll {H : Type} : List (DataW H) → Nat
  | [] => 0
  | d :: r => uptoBulk d + uptoBulkAll r
def uptoBulkEntries {H : Type} : List (Lit × DataW H) → Nat
  | [] => 0
  | x :: r => uptoBulkEntry x + uptoBulkEntries r
def uptoBulkEntry {H : Type} : Lit × DataW H → Nat
  | (.string bytes, d) => bytes.length + uptoBulk d + 1
  | (_, d) => uptoBulk d + 1
 end
def uptoSmall : (H : Type) → List (DataW H) → Bool := fun _ ds => decide (uptoBulkAll ds ≤ 1048576)
def OpenSpec.upto (s : _root_.Go.ChangeSpec) : _root_.Go.OpenSpec := { _root_.Go.OpenSpec.ofChange s with cond := some uptoSmall }

/-- 'laws.FnExactTagOk', WHERE WHAT IT READS IS OF BULK AT MOST 1048576: true; the input reads as it did. -/
def fnExactTagOkUptoRow : OpenClaim := { program := "yteeclocldjmgaaa", sum := "62b20158fda0819502fb17e572c3c1aa553b664d5eba694d9c76471d4f0e09ba", func := "loop.example/g00207/laws.FnExactTagOk", spec := "fnExactTagOk", apart := false, narrowed := true }
def FnExactTagOkUptoSaid : Prop := fnExactTagOkUptoRow.holds Try.pinned (OpenSpec.upto fnExactTagOkSpec)

/-- 'laws.FnExactShowTag', WHERE WHAT IT READS IS OF BULK AT MOST 1048576: true; the input reads as it did. -/
def fnExactShowTagUptoRow : OpenClaim := { program := "yteeclocldjmgaaa", sum := "62b20158fda0819502fb17e572c3c1aa553b664d5eba694d9c76471d4f0e09ba", func := "loop.example/g00207/laws.FnExactShowTag", spec := "fnExactShowTag", apart := false, narrowed := true }
def FnExactShowTagUptoSaid : Prop := fnExactShowTagUptoRow.holds Try.pinned (OpenSpec.upto fnExactShowTagSpec)

/-- 'laws.FnExactReadTag', WHERE WHAT IT READS IS OF BULK AT MOST 1048576: true; the input reads as it did. -/
def fnExactReadTagUptoRow : OpenClaim := { program := "yteeclocldjmgaaa", sum := "62b20158fda0819502fb17e572c3c1aa553b664d5eba694d9c76471d4f0e09ba", func := "loop.example/g00207/laws.FnExactReadTag", spec := "fnExactReadTag", apart := false, narrowed := true }
def FnExactReadTagUptoSaid : Prop := fnExactReadTagUptoRow.holds Try.pinned (OpenSpec.upto fnExactReadTagSpec)

/-- 'laws.FnExactStrong', WHERE WHAT IT READS IS OF BULK AT MOST 1048576: true; the input reads as it did. -/
def fnExactStrongUptoRow : OpenClaim := { program := "yteeclocldjmgaaa", sum := "62b20158fda0819502fb17e572c3c1aa553b664d5eba694d9c76471d4f0e09ba", func := "loop.example/g00207/laws.FnExactStrong", spec := "fnExactStrong", apart := false, narrowed := true }
def FnExactStrongUptoSaid : Prop := fnExactStrongUptoRow.holds Try.pinned (OpenSpec.upto fnExactStrongSpec)

/-- 'laws.FnExactAlike', WHERE WHAT IT READS IS OF BULK AT MOST 1048576: true; the input reads as it did. -/
def fnExactAlikeUptoRow : OpenClaim := { program := "yteeclocldjmgaaa", sum := "62b20158fda0819502fb17e572c3c1aa553b664d5eba694d9c76471d4f0e09ba", func := "loop.example/g00207/laws.FnExactAlike", spec := "fnExactAlike", apart := false, narrowed := true }
def FnExactAlikeUptoSaid : Prop := fnExactAlikeUptoRow.holds Try.pinned (OpenSpec.upto fnExactAlikeSpec)

end Rows
end Go.Proofs.Yteeclocldjmgaaa

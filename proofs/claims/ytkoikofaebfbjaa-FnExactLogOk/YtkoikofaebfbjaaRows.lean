/-
  No cell of these rows narrows 'for every input' (looked for: loops, veiled, ifaces, maps, wideKeys, modest, calm, conditions, laid).
  DERIVED. THE GIVEN ROWS OF THIS SEAT. 4 by the template 'for every input the law returns true; each argument reads behind the call as it read before'; 0 by the template 'total and deterministic' (their statements: YtkoikofaebfbjaaTotals.lean).
  GIVEN WITH THE SEED: the statements are not yours to turn. If you find one false, say at which input.
  Laid BY PROGRAM, IN A SANDBOX (cutbox-rows.mjs): the forced cells as the released guide's own fill.sh prints them over the translation 922420bc72495305… (all of the seat's roots in one cut). By AI agents, Wed Nov 11 2026. No macro, syntax, notation, axiom, sorry.
-/
import Derived.Test.YtkoikofaebfbjaaChecked
import GoSem.Claim
import GoSem.ClaimJoined
import GoSem.ClaimMapViews
import Derived.JoinedTies
import Derived.KernelRfl
namespace Go.Proofs.Ytkoikofaebfbjaa
/- THE CELL 'sum', in the pinned program and in every row, IS THE sha256 OF THE DUMP (.gsa) THAT YtkoikofaebfbjaaProg.lean LOADS. Nothing in Lean hashes anything: it is a label: what it is worth is what the hold of that sum in a sandbox is worth. -/
noncomputable def Try.pinned : Pinned := { name := "ytkoikofaebfbjaa", sum := "922420bc72495305fe566e65a8d35007a4767eab0c26254a74f3db4d72b6f1f1", checked := Try.checked }
namespace Rows
def none {H : Type} : Left H := { results := [], args := [] }

/-- 'laws.FnExactPurgeOk': WHATEVER THE INPUT: true; the input reads as it did. -/
def fnExactPurgeOkSpec : ChangeSpec := { name := "fnExactPurgeOk", fn := fun _ => fun
  | [d] => { results := [.lit (.bool true)], args := [d] }
  | _ => none }
def fnExactPurgeOkRow : OpenClaim := { program := "ytkoikofaebfbjaa", sum := "922420bc72495305fe566e65a8d35007a4767eab0c26254a74f3db4d72b6f1f1", func := "loop.example/g00207/laws.FnExactPurgeOk", spec := "fnExactPurgeOk", apart := false }
def FnExactPurgeOkSaid : Prop := fnExactPurgeOkRow.holds Try.pinned (OpenSpec.ofChange fnExactPurgeOkSpec)

/-- ITS FALSE NEIGHBOUR: 'it returns false'. Refute it at one input. -/
def fnExactPurgeOkWrong : ChangeSpec := { name := "fnExactPurgeOk", fn := fun _ => fun
  | [d] => { results := [.lit (.bool false)], args := [d] }
  | _ => none }
def FnExactPurgeOkWrongFalsely : Prop := fnExactPurgeOkRow.holds Try.pinned (OpenSpec.ofChange fnExactPurgeOkWrong)

/-- 'laws.FnExactShowPurge': WHATEVER THE INPUT: true; the input reads as it did. -/
def fnExactShowPurgeSpec : ChangeSpec := { name := "fnExactShowPurge", fn := fun _ => fun
  | [d] => { results := [.lit (.bool true)], args := [d] }
  | _ => none }
def fnExactShowPurgeRow : OpenClaim := { program := "ytkoikofaebfbjaa", sum := "922420bc72495305fe566e65a8d35007a4767eab0c26254a74f3db4d72b6f1f1", func := "loop.example/g00207/laws.FnExactShowPurge", spec := "fnExactShowPurge", apart := false }
def FnExactShowPurgeSaid : Prop := fnExactShowPurgeRow.holds Try.pinned (OpenSpec.ofChange fnExactShowPurgeSpec)

/-- ITS FALSE NEIGHBOUR: 'it returns false'. Refute it at one input. -/
def fnExactShowPurgeWrong : ChangeSpec := { name := "fnExactShowPurge", fn := fun _ => fun
  | [d] => { results := [.lit (.bool false)], args := [d] }
  | _ => none }
def FnExactShowPurgeWrongFalsely : Prop := fnExactShowPurgeRow.holds Try.pinned (OpenSpec.ofChange fnExactShowPurgeWrong)

/-- 'laws.FnExactReadPurge': WHATEVER THE INPUT: true; the input reads as it did. -/
def fnExactReadPurgeSpec : ChangeSpec := { name := "fnExactReadPurge", fn := fun _ => fun
  | [d] => { results := [.lit (.bool true)], args := [d] }
  | _ => none }
def fnExactReadPurgeRow : OpenClaim := { program := "ytkoikofaebfbjaa", sum := "922420bc72495305fe566e65a8d35007a4767eab0c26254a74f3db4d72b6f1f1", func := "loop.example/g00207/laws.FnExactReadPurge", spec := "fnExactReadPurge", inPlace := ["internal/bytealg.IndexByteString", "internal/bytealg.IndexString"], named := ["internal/bytealg.MaxLen"], apart := false }
def FnExactReadPurgeSaid : Prop := fnExactReadPurgeRow.holds Try.pinned (OpenSpec.ofChange fnExactReadPurgeSpec)

/-- ITS FALSE NEIGHBOUR: 'it returns false'. Refute it at one input. -/
def fnExactReadPurgeWrong : ChangeSpec := { name := "fnExactReadPurge", fn := fun _ => fun
  | [d] => { results := [.lit (.bool false)], args := [d] }
  | _ => none }
def FnExactReadPurgeWrongFalsely : Prop := fnExactReadPurgeRow.holds Try.pinned (OpenSpec.ofChange fnExactReadPurgeWrong)

/-- 'laws.FnExactLogOk': WHATEVER THE INPUT: true; the input reads as it did. -/
def fnExactLogOkSpec : ChangeSpec := { name := "fnExactLogOk", fn := fun _ => fun
  | [d] => { results := [.lit (.bool true)], args := [d] }
  | _ => none }
def fnExactLogOkRow : OpenClaim := { program := "ytkoikofaebfbjaa", sum := "922420bc72495305fe566e65a8d35007a4767eab0c26254a74f3db4d72b6f1f1", func := "loop.example/g00207/laws.FnExactLogOk", spec := "fnExactLogOk", inPlace := ["internal/bytealg.IndexByteString", "internal/bytealg.IndexString"], named := ["internal/bytealg.MaxLen"], apart := false }
def FnExactLogOkSaid : Prop := fnExactLogOkRow.holds Try.pinned (OpenSpec.ofChange fnExactLogOkSpec)

/-- ITS FALSE NEIGHBOUR: 'it returns false'. Refute it at one input. -/
def fnExactLogOkWrong : ChangeSpec := { name := "fnExactLogOk", fn := fun _ => fun
  | [d] => { results := [.lit (.bool false)], args := [d] }
  | _ => none }
def FnExactLogOkWrongFalsely : Prop := fnExactLogOkRow.holds Try.pinned (OpenSpec.ofChange fnExactLogOkWrong)

/- THE SECOND FORM. 'bulk': how many values and letters a reading holds, each counted each time it is reached (what is shared counts as often as it is met; a slice's spare places count too). A statement '..UptoSaid' is the law's where the arguments, and the package variables that the reading takes, are together of bulk at most 1048576: NARROWER than '..Said'. Prove '..Said' where nothing that the law and all that it calls make is longer than what came in: it says more and counts as full. Else prove '..UptoSaid'. A law counts once. -/
mutual
def uptoBulk {H : Type} : DataW H → Nat
  | .lit (.string bytes) => bytes.length + 1
  | .lit _ => 1
  | .nil => 1
  | .ptr d => uptoBulk d + 1
  | .slice elems spare => uptoBulkAll elems + uptoBulkAll spare + 1
  | .agg parts => uptoBulkAll parts + 1
  | .iface _ d => uptoBulk d + 1
  | .map entries => uptoBulkEntries entries + 1
  | .held _ => 1
def uptoBulkAll {H : Type} : List (DataW H) → Nat
  | [] => 0
  | d :: r => uptoBulk d + uptoBulkAll r
def uptoBulkEntries {H : Type} : List (Lit × DataW H) → Nat
  | [] => 0
  | x :: r => uptoBulkEntry x + uptoBulkEntries r
def uptoBulkEntry {H : Type} : Lit × DataW H → Nat
  | (.string bytes, d) => bytes.length + uptoBulk d + 1
  | (_, d) => uptoBulk d + 1
 end
def uptoSmall : (H : Type) → List (DataW H) → Bool := fun _ ds => decide (uptoBulkAll ds ≤ 1048576)
def OpenSpec.upto (s : _root_.Go.ChangeSpec) : _root_.Go.OpenSpec := { _root_.Go.OpenSpec.ofChange s with cond := some uptoSmall }

/-- 'laws.FnExactPurgeOk', WHERE WHAT IT READS IS OF BULK AT MOST 1048576: true; the input reads as it did. -/
def fnExactPurgeOkUptoRow : OpenClaim := { program := "ytkoikofaebfbjaa", sum := "922420bc72495305fe566e65a8d35007a4767eab0c26254a74f3db4d72b6f1f1", func := "loop.example/g00207/laws.FnExactPurgeOk", spec := "fnExactPurgeOk", apart := false, narrowed := true }
def FnExactPurgeOkUptoSaid : Prop := fnExactPurgeOkUptoRow.holds Try.pinned (OpenSpec.upto fnExactPurgeOkSpec)

/-- 'laws.FnExactShowPurge', WHERE WHAT IT READS IS OF BULK AT MOST 1048576: true; the input reads as it did. -/
def fnExactShowPurgeUptoRow : OpenClaim := { program := "ytkoikofaebfbjaa", sum := "922420bc72495305fe566e65a8d35007a4767eab0c26254a74f3db4d72b6f1f1", func := "loop.example/g00207/laws.FnExactShowPurge", spec := "fnExactShowPurge", apart := false, narrowed := true }
def FnExactShowPurgeUptoSaid : Prop := fnExactShowPurgeUptoRow.holds Try.pinned (OpenSpec.upto fnExactShowPurgeSpec)

/-- 'laws.FnExactReadPurge', WHERE WHAT IT READS IS OF BULK AT MOST 1048576: true; the input reads as it did. -/
def fnExactReadPurgeUptoRow : OpenClaim := { program := "ytkoikofaebfbjaa", sum := "922420bc72495305fe566e65a8d35007a4767eab0c26254a74f3db4d72b6f1f1", func := "loop.example/g00207/laws.FnExactReadPurge", spec := "fnExactReadPurge", inPlace := ["internal/bytealg.IndexByteString", "internal/bytealg.IndexString"], named := ["internal/bytealg.MaxLen"], apart := false, narrowed := true }
def FnExactReadPurgeUptoSaid : Prop := fnExactReadPurgeUptoRow.holds Try.pinned (OpenSpec.upto fnExactReadPurgeSpec)

/-- 'laws.FnExactLogOk', WHERE WHAT IT READS IS OF BULK AT MOST 1048576: true; the input reads as it did. -/
def fnExactLogOkUptoRow : OpenClaim := { program := "ytkoikofaebfbjaa", sum := "922420bc72495305fe566e65a8d35007a4767eab0c26254a74f3db4d72b6f1f1", func := "loop.example/g00207/laws.FnExactLogOk", spec := "fnExactLogOk", inPlace := ["internal/bytealg.IndexByteString", "internal/bytealg.IndexString"], named := ["internal/bytealg.MaxLen"], apart := false, narrowed := true }
def FnExactLogOkUptoSaid : Prop := fnExactLogOkUptoRow.holds Try.pinned (OpenSpec.upto fnExactLogOkSpec)

end Rows
end Go.Proofs.Ytkoikofaebfbjaa

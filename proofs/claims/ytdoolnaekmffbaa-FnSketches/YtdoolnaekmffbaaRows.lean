/-
  No cell of these rows narrows 'for every input' (looked for: loops, veiled, ifaces, maps, wideKeys, modest, calm, conditions, laid).
  DERIVED. THE GIVEN ROWS OF THIS SEAT. 7 by the template 'for every input the law returns true; each argument reads behind the call as it read before'; 0 by the template 'total and deterministic' (their statements: YtdoolnaekmffbaaTotals.lean).
  GIVEN WITH THE SEED: the statements are not yours to turn. If you find one false, say at which input.
  Laid BY PROGRAM, IN A SANDBOX (cutbox-rows.mjs): the forced cells as the released guide's own fill.sh prints them over the translation d5d3ab1e8aa846c0… (all of the seat's roots in one cut). By AI agents, Wed Nov 11 2026. No macro, syntax, notation, axiom, sorry.
-/
import Derived.Test.YtdoolnaekmffbaaChecked
import GoSem.Claim
import GoSem.ClaimJoined
import GoSem.ClaimMapViews
import Derived.JoinedTies
import Derived.KernelRfl
namespace Go.Proofs.Ytdoolnaekmffbaa
/- THE CELL 'sum', in the pinned program and in every row, IS THE sha256 OF THE DUMP (.gsa) THAT YtdoolnaekmffbaaProg.lean LOADS. Nothing in Lean hashes anything: it is a label: what it is worth is what the hold of that sum in a sandbox is worth. -/
noncomputable def Try.pinned : Pinned := { name := "ytdoolnaekmffbaa", sum := "d5d3ab1e8aa846c0631f8dda7461243318264d70576623fa8f528afee2644aff", checked := Try.checked }
namespace Rows
def none {H : Type} : Left H := { results := [], args := [] }

/-- 'laws.FnSketches': WHATEVER THE INPUT: true; the input reads as it did. -/
def fnSketchesSpec : ChangeSpec := { name := "fnSketches", fn := fun _ => fun
  | [d] => { results := [.lit (.bool true)], args := [d] }
  | _ => none }
def fnSketchesRow : OpenClaim := { program := "ytdoolnaekmffbaa", sum := "d5d3ab1e8aa846c0631f8dda7461243318264d70576623fa8f528afee2644aff", func := "loop.example/g00207/laws.FnSketches", spec := "fnSketches", apart := false }
def FnSketchesSaid : Prop := fnSketchesRow.holds Try.pinned (OpenSpec.ofChange fnSketchesSpec)

/-- ITS FALSE NEIGHBOUR: 'it returns false'. Refute it at one input. -/
def fnSketchesWrong : ChangeSpec := { name := "fnSketches", fn := fun _ => fun
  | [d] => { results := [.lit (.bool false)], args := [d] }
  | _ => none }
def FnSketchesWrongFalsely : Prop := fnSketchesRow.holds Try.pinned (OpenSpec.ofChange fnSketchesWrong)

/-- 'laws.FnExactSketchOk': WHATEVER THE INPUT: true; the input reads as it did. -/
def fnExactSketchOkSpec : ChangeSpec := { name := "fnExactSketchOk", fn := fun _ => fun
  | [d] => { results := [.lit (.bool true)], args := [d] }
  | _ => none }
def fnExactSketchOkRow : OpenClaim := { program := "ytdoolnaekmffbaa", sum := "d5d3ab1e8aa846c0631f8dda7461243318264d70576623fa8f528afee2644aff", func := "loop.example/g00207/laws.FnExactSketchOk", spec := "fnExactSketchOk", apart := false }
def FnExactSketchOkSaid : Prop := fnExactSketchOkRow.holds Try.pinned (OpenSpec.ofChange fnExactSketchOkSpec)

/-- ITS FALSE NEIGHBOUR: 'it returns false'. Refute it at one input. -/
def fnExactSketchOkWrong : ChangeSpec := { name := "fnExactSketchOk", fn := fun _ => fun
  | [d] => { results := [.lit (.bool false)], args := [d] }
  | _ => none }
def FnExactSketchOkWrongFalsely : Prop := fnExactSketchOkRow.holds Try.pinned (OpenSpec.ofChange fnExactSketchOkWrong)

/-- 'laws.FnExactNewSketch': WHATEVER THE INPUT: true; the input reads as it did. -/
def fnExactNewSketchSpec : ChangeSpec := { name := "fnExactNewSketch", fn := fun _ => fun
  | [d] => { results := [.lit (.bool true)], args := [d] }
  | _ => none }
def fnExactNewSketchRow : OpenClaim := { program := "ytdoolnaekmffbaa", sum := "d5d3ab1e8aa846c0631f8dda7461243318264d70576623fa8f528afee2644aff", func := "loop.example/g00207/laws.FnExactNewSketch", spec := "fnExactNewSketch", apart := false }
def FnExactNewSketchSaid : Prop := fnExactNewSketchRow.holds Try.pinned (OpenSpec.ofChange fnExactNewSketchSpec)

/-- ITS FALSE NEIGHBOUR: 'it returns false'. Refute it at one input. -/
def fnExactNewSketchWrong : ChangeSpec := { name := "fnExactNewSketch", fn := fun _ => fun
  | [d] => { results := [.lit (.bool false)], args := [d] }
  | _ => none }
def FnExactNewSketchWrongFalsely : Prop := fnExactNewSketchRow.holds Try.pinned (OpenSpec.ofChange fnExactNewSketchWrong)

/-- 'laws.FnExactMarks': WHATEVER THE INPUT: true; the input reads as it did. -/
def fnExactMarksSpec : ChangeSpec := { name := "fnExactMarks", fn := fun _ => fun
  | [d1, d2] => { results := [.lit (.bool true)], args := [d1, d2] }
  | _ => none }
def fnExactMarksRow : OpenClaim := { program := "ytdoolnaekmffbaa", sum := "d5d3ab1e8aa846c0631f8dda7461243318264d70576623fa8f528afee2644aff", func := "loop.example/g00207/laws.FnExactMarks", spec := "fnExactMarks", apart := false }
def FnExactMarksSaid : Prop := fnExactMarksRow.holds Try.pinned (OpenSpec.ofChange fnExactMarksSpec)

/-- ITS FALSE NEIGHBOUR: 'it returns false'. Refute it at one input. -/
def fnExactMarksWrong : ChangeSpec := { name := "fnExactMarks", fn := fun _ => fun
  | [d1, d2] => { results := [.lit (.bool false)], args := [d1, d2] }
  | _ => none }
def FnExactMarksWrongFalsely : Prop := fnExactMarksRow.holds Try.pinned (OpenSpec.ofChange fnExactMarksWrong)

/-- 'laws.FnExactMarked': WHATEVER THE INPUT: true; the input reads as it did. -/
def fnExactMarkedSpec : ChangeSpec := { name := "fnExactMarked", fn := fun _ => fun
  | [d1, d2] => { results := [.lit (.bool true)], args := [d1, d2] }
  | _ => none }
def fnExactMarkedRow : OpenClaim := { program := "ytdoolnaekmffbaa", sum := "d5d3ab1e8aa846c0631f8dda7461243318264d70576623fa8f528afee2644aff", func := "loop.example/g00207/laws.FnExactMarked", spec := "fnExactMarked", apart := false }
def FnExactMarkedSaid : Prop := fnExactMarkedRow.holds Try.pinned (OpenSpec.ofChange fnExactMarkedSpec)

/-- ITS FALSE NEIGHBOUR: 'it returns false'. Refute it at one input. -/
def fnExactMarkedWrong : ChangeSpec := { name := "fnExactMarked", fn := fun _ => fun
  | [d1, d2] => { results := [.lit (.bool false)], args := [d1, d2] }
  | _ => none }
def FnExactMarkedWrongFalsely : Prop := fnExactMarkedRow.holds Try.pinned (OpenSpec.ofChange fnExactMarkedWrong)

/-- 'laws.FnExactPerhaps': WHATEVER THE INPUT: true; the input reads as it did. -/
def fnExactPerhapsSpec : ChangeSpec := { name := "fnExactPerhaps", fn := fun _ => fun
  | [d1, d2] => { results := [.lit (.bool true)], args := [d1, d2] }
  | _ => none }
def fnExactPerhapsRow : OpenClaim := { program := "ytdoolnaekmffbaa", sum := "d5d3ab1e8aa846c0631f8dda7461243318264d70576623fa8f528afee2644aff", func := "loop.example/g00207/laws.FnExactPerhaps", spec := "fnExactPerhaps", apart := false }
def FnExactPerhapsSaid : Prop := fnExactPerhapsRow.holds Try.pinned (OpenSpec.ofChange fnExactPerhapsSpec)

/-- ITS FALSE NEIGHBOUR: 'it returns false'. Refute it at one input. -/
def fnExactPerhapsWrong : ChangeSpec := { name := "fnExactPerhaps", fn := fun _ => fun
  | [d1, d2] => { results := [.lit (.bool false)], args := [d1, d2] }
  | _ => none }
def FnExactPerhapsWrongFalsely : Prop := fnExactPerhapsRow.holds Try.pinned (OpenSpec.ofChange fnExactPerhapsWrong)

/-- 'laws.FnExactBoth': WHATEVER THE INPUT: true; the input reads as it did. -/
def fnExactBothSpec : ChangeSpec := { name := "fnExactBoth", fn := fun _ => fun
  | [d1, d2] => { results := [.lit (.bool true)], args := [d1, d2] }
  | _ => none }
def fnExactBothRow : OpenClaim := { program := "ytdoolnaekmffbaa", sum := "d5d3ab1e8aa846c0631f8dda7461243318264d70576623fa8f528afee2644aff", func := "loop.example/g00207/laws.FnExactBoth", spec := "fnExactBoth", apart := false }
def FnExactBothSaid : Prop := fnExactBothRow.holds Try.pinned (OpenSpec.ofChange fnExactBothSpec)

/-- ITS FALSE NEIGHBOUR: 'it returns false'. Refute it at one input. -/
def fnExactBothWrong : ChangeSpec := { name := "fnExactBoth", fn := fun _ => fun
  | [d1, d2] => { results := [.lit (.bool false)], args := [d1, d2] }
  | _ => none }
def FnExactBothWrongFalsely : Prop := fnExactBothRow.holds Try.pinned (OpenSpec.ofChange fnExactBothWrong)

/- THE SECOND FORM. 'bulk': how many values and letters a reading holds, each counted each time it is reached (what is shared counts as often as it is met; a slice's spare places count too). A statement '..UptoSaid' is the law's where the arguments, and the package variables that the reading takes, are together of bulk at most 1048576: NARROWER than '..Said'. Prove '..Said' where nothing that the law and all that it calls make is longer than what came in: it says more and counts as full. Else prove '..UptoSaid'. A law counts once. -/
mutual
def uptoBulk {H : Type} : DataW H → Nat
  | .lit (.string bytes) => bytes.length + 1
  | .lit _ => 1
  | .nil => 1
  | .ptr d => uptoBulk d + 1
  | .slice elems spare => uptoBulkAll elems + uptoBulkAll spare + 1
  | .agg parts => uptoBulkAll parts + 1
  | .iface _ d => uptoBulk d + 1
  | .map entries => uptoBulkEntries entries + 1
  | .held _ => 1
def uptoBulkAll {H : Type} : List (DataW H) → Nat
  | [] => 0
  | d :: r => uptoBulk d + uptoBulkAll r
def uptoBulkEntries {H : Type} : List (Lit × DataW H) → Nat
  | [] => 0
  | x :: r => uptoBulkEntry x + uptoBulkEntries r
def uptoBulkEntry {H : Type} : Lit × DataW H → Nat
  | (.string bytes, d) => bytes.length + uptoBulk d + 1
  | (_, d) => uptoBulk d + 1
 end
def uptoSmall : (H : Type) → List (DataW H) → Bool := fun _ ds => decide (uptoBulkAll ds ≤ 1048576)
def OpenSpec.upto (s : _root_.Go.ChangeSpec) : _root_.Go.OpenSpec := { _root_.Go.OpenSpec.ofChange s with cond := some uptoSmall }

/-- 'laws.FnSketches', WHERE WHAT IT READS IS OF BULK AT MOST 1048576: true; the input reads as it did. -/
def fnSketchesUptoRow : OpenClaim := { program := "ytdoolnaekmffbaa", sum := "d5d3ab1e8aa846c0631f8dda7461243318264d70576623fa8f528afee2644aff", func := "loop.example/g00207/laws.FnSketches", spec := "fnSketches", apart := false, narrowed := true }
def FnSketchesUptoSaid : Prop := fnSketchesUptoRow.holds Try.pinned (OpenSpec.upto fnSketchesSpec)

/-- 'laws.FnExactSketchOk', WHERE WHAT IT READS IS OF BULK AT MOST 1048576: true; the input reads as it did. -/
def fnExactSketchOkUptoRow : OpenClaim := { program := "ytdoolnaekmffbaa", sum := "d5d3ab1e8aa846c0631f8dda7461243318264d70576623fa8f528afee2644aff", func := "loop.example/g00207/laws.FnExactSketchOk", spec := "fnExactSketchOk", apart := false, narrowed := true }
def FnExactSketchOkUptoSaid : Prop := fnExactSketchOkUptoRow.holds Try.pinned (OpenSpec.upto fnExactSketchOkSpec)

/-- 'laws.FnExactNewSketch', WHERE WHAT IT READS IS OF BULK AT MOST 1048576: true; the input reads as it did. -/
def fnExactNewSketchUptoRow : OpenClaim := { program := "ytdoolnaekmffbaa", sum := "d5d3ab1e8aa846c0631f8dda7461243318264d70576623fa8f528afee2644aff", func := "loop.example/g00207/laws.FnExactNewSketch", spec := "fnExactNewSketch", apart := false, narrowed := true }
def FnExactNewSketchUptoSaid : Prop := fnExactNewSketchUptoRow.holds Try.pinned (OpenSpec.upto fnExactNewSketchSpec)

/-- 'laws.FnExactMarks', WHERE WHAT IT READS IS OF BULK AT MOST 1048576: true; the input reads as it did. -/
def fnExactMarksUptoRow : OpenClaim := { program := "ytdoolnaekmffbaa", sum := "d5d3ab1e8aa846c0631f8dda7461243318264d70576623fa8f528afee2644aff", func := "loop.example/g00207/laws.FnExactMarks", spec := "fnExactMarks", apart := false, narrowed := true }
def FnExactMarksUptoSaid : Prop := fnExactMarksUptoRow.holds Try.pinned (OpenSpec.upto fnExactMarksSpec)

/-- 'laws.FnExactMarked', WHERE WHAT IT READS IS OF BULK AT MOST 1048576: true; the input reads as it did. -/
def fnExactMarkedUptoRow : OpenClaim := { program := "ytdoolnaekmffbaa", sum := "d5d3ab1e8aa846c0631f8dda7461243318264d70576623fa8f528afee2644aff", func := "loop.example/g00207/laws.FnExactMarked", spec := "fnExactMarked", apart := false, narrowed := true }
def FnExactMarkedUptoSaid : Prop := fnExactMarkedUptoRow.holds Try.pinned (OpenSpec.upto fnExactMarkedSpec)

/-- 'laws.FnExactPerhaps', WHERE WHAT IT READS IS OF BULK AT MOST 1048576: true; the input reads as it did. -/
def fnExactPerhapsUptoRow : OpenClaim := { program := "ytdoolnaekmffbaa", sum := "d5d3ab1e8aa846c0631f8dda7461243318264d70576623fa8f528afee2644aff", func := "loop.example/g00207/laws.FnExactPerhaps", spec := "fnExactPerhaps", apart := false, narrowed := true }
def FnExactPerhapsUptoSaid : Prop := fnExactPerhapsUptoRow.holds Try.pinned (OpenSpec.upto fnExactPerhapsSpec)

/-- 'laws.FnExactBoth', WHERE WHAT IT READS IS OF BULK AT MOST 1048576: true; the input reads as it did. -/
def fnExactBothUptoRow : OpenClaim := { program := "ytdoolnaekmffbaa", sum := "d5d3ab1e8aa846c0631f8dda7461243318264d70576623fa8f528afee2644aff", func := "loop.example/g00207/laws.FnExactBoth", spec := "fnExactBoth", apart := false, narrowed := true }
def FnExactBothUptoSaid : Prop := fnExactBothUptoRow.holds Try.pinned (OpenSpec.upto fnExactBothSpec)

end Rows
end Go.Proofs.Ytdoolnaekmffbaa

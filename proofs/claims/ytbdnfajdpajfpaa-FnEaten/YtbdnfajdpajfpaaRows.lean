/-
  No cell of these rows narrows 'for every input' (looked for: loops, veiled, ifaces, maps, wideKeys, modest, calm, conditions, laid).
  DERIVED. THE GIVEN ROWS OF THIS SEAT. 5 by the template 'for every input the law returns true; each argument reads behind the call as it read before'; 0 by the template 'total and deterministic' (their statements: YtbdnfajdpajfpaaTotals.lean).
  GIVEN WITH THE SEED: the statements are not yours to turn. If you find one false, say at which input.
  Laid BY PROGRAM, IN A SANDBOX (cutbox-rows.mjs): the forced cells as the released guide's own fill.sh prints them over the translation 1e4250d82c9f1c72… (all of the seat's roots in one cut). By AI agents, Wed Nov 11 2026. No macro, syntax, notation, axiom, sorry.
-/
import Derived.Test.YtbdnfajdpajfpaaChecked
import GoSem.Claim
import GoSem.ClaimJoined
import GoSem.ClaimMapViews
import Derived.JoinedTies
import Derived.KernelRfl
namespace Go.Proofs.Ytbdnfajdpajfpaa
/- THE CELL 'sum', in the pinned program and in every row, IS THE sha256 OF THE DUMP (.gsa) THAT YtbdnfajdpajfpaaProg.lean LOADS. Nothing in Lean hashes anything: it is a label: what it is worth is what the hold of that sum in a sandbox is worth. -/
noncomputable def Try.pinned : Pinned := { name := "ytbdnfajdpajfpaa", sum := "1e4250d82c9f1c726c93d511bc3b0a10b5bd076238f05a2da52b3b202f76536d", checked := Try.checked }
namespace Rows
def none {H : Type} : Left H := { results := [], args := [] }

/-- 'laws.FnEaten': WHATEVER THE INPUT: true; the input reads as it did. -/
def fnEatenSpec : ChangeSpec := { name := "fnEaten", fn := fun _ => fun
  | [d] => { results := [.lit (.bool true)], args := [d] }
  | _ => none }
def fnEatenRow : OpenClaim := { program := "ytbdnfajdpajfpaa", sum := "1e4250d82c9f1c726c93d511bc3b0a10b5bd076238f05a2da52b3b202f76536d", func := "loop.example/g00207/laws.FnEaten", spec := "fnEaten", unfollowed := true, recurses := true, apart := false }
def FnEatenSaid : Prop := fnEatenRow.holds Try.pinned (OpenSpec.ofChange fnEatenSpec)

/-- ITS FALSE NEIGHBOUR: 'it returns false'. Refute it at one input. -/
def fnEatenWrong : ChangeSpec := { name := "fnEaten", fn := fun _ => fun
  | [d] => { results := [.lit (.bool false)], args := [d] }
  | _ => none }
def FnEatenWrongFalsely : Prop := fnEatenRow.holds Try.pinned (OpenSpec.ofChange fnEatenWrong)

/-- 'laws.FnExactChunkerOk': WHATEVER THE INPUT: true; the input reads as it did. -/
def fnExactChunkerOkSpec : ChangeSpec := { name := "fnExactChunkerOk", fn := fun _ => fun
  | [d] => { results := [.lit (.bool true)], args := [d] }
  | _ => none }
def fnExactChunkerOkRow : OpenClaim := { program := "ytbdnfajdpajfpaa", sum := "1e4250d82c9f1c726c93d511bc3b0a10b5bd076238f05a2da52b3b202f76536d", func := "loop.example/g00207/laws.FnExactChunkerOk", spec := "fnExactChunkerOk", apart := false }
def FnExactChunkerOkSaid : Prop := fnExactChunkerOkRow.holds Try.pinned (OpenSpec.ofChange fnExactChunkerOkSpec)

/-- ITS FALSE NEIGHBOUR: 'it returns false'. Refute it at one input. -/
def fnExactChunkerOkWrong : ChangeSpec := { name := "fnExactChunkerOk", fn := fun _ => fun
  | [d] => { results := [.lit (.bool false)], args := [d] }
  | _ => none }
def FnExactChunkerOkWrongFalsely : Prop := fnExactChunkerOkRow.holds Try.pinned (OpenSpec.ofChange fnExactChunkerOkWrong)

/-- 'laws.FnExactEat': WHATEVER THE INPUT: true; the input reads as it did. -/
def fnExactEatSpec : ChangeSpec := { name := "fnExactEat", fn := fun _ => fun
  | [d1, d2] => { results := [.lit (.bool true)], args := [d1, d2] }
  | _ => none }
def fnExactEatRow : OpenClaim := { program := "ytbdnfajdpajfpaa", sum := "1e4250d82c9f1c726c93d511bc3b0a10b5bd076238f05a2da52b3b202f76536d", func := "loop.example/g00207/laws.FnExactEat", spec := "fnExactEat", unfollowed := true, recurses := true, apart := false }
def FnExactEatSaid : Prop := fnExactEatRow.holds Try.pinned (OpenSpec.ofChange fnExactEatSpec)

/-- ITS FALSE NEIGHBOUR: 'it returns false'. Refute it at one input. -/
def fnExactEatWrong : ChangeSpec := { name := "fnExactEat", fn := fun _ => fun
  | [d1, d2] => { results := [.lit (.bool false)], args := [d1, d2] }
  | _ => none }
def FnExactEatWrongFalsely : Prop := fnExactEatRow.holds Try.pinned (OpenSpec.ofChange fnExactEatWrong)

/-- 'laws.FnExactEatAll': WHATEVER THE INPUT: true; the input reads as it did. -/
def fnExactEatAllSpec : ChangeSpec := { name := "fnExactEatAll", fn := fun _ => fun
  | [d1, d2] => { results := [.lit (.bool true)], args := [d1, d2] }
  | _ => none }
def fnExactEatAllRow : OpenClaim := { program := "ytbdnfajdpajfpaa", sum := "1e4250d82c9f1c726c93d511bc3b0a10b5bd076238f05a2da52b3b202f76536d", func := "loop.example/g00207/laws.FnExactEatAll", spec := "fnExactEatAll", unfollowed := true, recurses := true, apart := false }
def FnExactEatAllSaid : Prop := fnExactEatAllRow.holds Try.pinned (OpenSpec.ofChange fnExactEatAllSpec)

/-- ITS FALSE NEIGHBOUR: 'it returns false'. Refute it at one input. -/
def fnExactEatAllWrong : ChangeSpec := { name := "fnExactEatAll", fn := fun _ => fun
  | [d1, d2] => { results := [.lit (.bool false)], args := [d1, d2] }
  | _ => none }
def FnExactEatAllWrongFalsely : Prop := fnExactEatAllRow.holds Try.pinned (OpenSpec.ofChange fnExactEatAllWrong)

/-- 'laws.FnExactUnchunked': WHATEVER THE INPUT: true; the input reads as it did. -/
def fnExactUnchunkedSpec : ChangeSpec := { name := "fnExactUnchunked", fn := fun _ => fun
  | [d] => { results := [.lit (.bool true)], args := [d] }
  | _ => none }
def fnExactUnchunkedRow : OpenClaim := { program := "ytbdnfajdpajfpaa", sum := "1e4250d82c9f1c726c93d511bc3b0a10b5bd076238f05a2da52b3b202f76536d", func := "loop.example/g00207/laws.FnExactUnchunked", spec := "fnExactUnchunked", unfollowed := true, recurses := true, apart := false }
def FnExactUnchunkedSaid : Prop := fnExactUnchunkedRow.holds Try.pinned (OpenSpec.ofChange fnExactUnchunkedSpec)

/-- ITS FALSE NEIGHBOUR: 'it returns false'. Refute it at one input. -/
def fnExactUnchunkedWrong : ChangeSpec := { name := "fnExactUnchunked", fn := fun _ => fun
  | [d] => { results := [.lit (.bool false)], args := [d] }
  | _ => none }
def FnExactUnchunkedWrongFalsely : Prop := fnExactUnchunkedRow.holds Try.pinned (OpenSpec.ofChange fnExactUnchunkedWrong)

/- THE SECOND FORM. 'bulk': how many values and letters a reading holds, each counted each time it is reached (what is shared counts as often as it is met; a slice's spare places count too). A statement '..UptoSaid' is the law's where the arguments, and the package variables that the reading takes, are together of bulk at most 1048576: NARROWER than '..Said'. Prove '..Said' where nothing that the law and all that it calls make is longer than what came in: it says more and counts as full. Else prove '..UptoSaid'. A law counts once. -/
mutual
def uptoBulk {H : Type} : DataW H → Nat
  | .lit (.string bytes) => bytes.length + 1
  | .lit _ => 1
  | .nil => 1
  | .ptr d => uptoBulk d + 1
  | .slice elems spare => uptoBulkAll elems + uptoBulkAll spare + 1
  | .agg parts => uptoBulkAll parts + 1
  | .iface _ d => uptoBulk d + 1
  | .map entries => uptoBulkEntries entries + 1
  | .held _ => 1
def uptoBulkAll {H : Type} : List (DataW H) → Nat
  | [] => 0
  | d :: r => uptoBulk d + uptoBulkAll r
def uptoBulkEntries {H : Type} : List (Lit × DataW H) → Nat
  | [] => 0
  | x :: r => uptoBulkEntry x + uptoBulkEntries r
def uptoBulkEntry {H : Type} : Lit × DataW H → Nat
  | (.string bytes, d) => bytes.length + uptoBulk d + 1
  | (_, d) => uptoBulk d + 1
 end
def uptoSmall : (H : Type) → List (DataW H) → Bool := fun _ ds => decide (uptoBulkAll ds ≤ 1048576)
def OpenSpec.upto (s : _root_.Go.ChangeSpec) : _root_.Go.OpenSpec := { _root_.Go.OpenSpec.ofChange s with cond := some uptoSmall }

/-- 'laws.FnEaten', WHERE WHAT IT READS IS OF BULK AT MOST 1048576: true; the input reads as it did. -/
def fnEatenUptoRow : OpenClaim := { program := "ytbdnfajdpajfpaa", sum := "1e4250d82c9f1c726c93d511bc3b0a10b5bd076238f05a2da52b3b202f76536d", func := "loop.example/g00207/laws.FnEaten", spec := "fnEaten", unfollowed := true, recurses := true, apart := false, narrowed := true }
def FnEatenUptoSaid : Prop := fnEatenUptoRow.holds Try.pinned (OpenSpec.upto fnEatenSpec)

/-- 'laws.FnExactChunkerOk', WHERE WHAT IT READS IS OF BULK AT MOST 1048576: true; the input reads as it did. -/
def fnExactChunkerOkUptoRow : OpenClaim := { program := "ytbdnfajdpajfpaa", sum := "1e4250d82c9f1c726c93d511bc3b0a10b5bd076238f05a2da52b3b202f76536d", func := "loop.example/g00207/laws.FnExactChunkerOk", spec := "fnExactChunkerOk", apart := false, narrowed := true }
def FnExactChunkerOkUptoSaid : Prop := fnExactChunkerOkUptoRow.holds Try.pinned (OpenSpec.upto fnExactChunkerOkSpec)

/-- 'laws.FnExactEat', WHERE WHAT IT READS IS OF BULK AT MOST 1048576: true; the input reads as it did. -/
def fnExactEatUptoRow : OpenClaim := { program := "ytbdnfajdpajfpaa", sum := "1e4250d82c9f1c726c93d511bc3b0a10b5bd076238f05a2da52b3b202f76536d", func := "loop.example/g00207/laws.FnExactEat", spec := "fnExactEat", unfollowed := true, recurses := true, apart := false, narrowed := true }
def FnExactEatUptoSaid : Prop := fnExactEatUptoRow.holds Try.pinned (OpenSpec.upto fnExactEatSpec)

/-- 'laws.FnExactEatAll', WHERE WHAT IT READS IS OF BULK AT MOST 1048576: true; the input reads as it did. -/
def fnExactEatAllUptoRow : OpenClaim := { program := "ytbdnfajdpajfpaa", sum := "1e4250d82c9f1c726c93d511bc3b0a10b5bd076238f05a2da52b3b202f76536d", func := "loop.example/g00207/laws.FnExactEatAll", spec := "fnExactEatAll", unfollowed := true, recurses := true, apart := false, narrowed := true }
def FnExactEatAllUptoSaid : Prop := fnExactEatAllUptoRow.holds Try.pinned (OpenSpec.upto fnExactEatAllSpec)

/-- 'laws.FnExactUnchunked', WHERE WHAT IT READS IS OF BULK AT MOST 1048576: true; the input reads as it did. -/
def fnExactUnchunkedUptoRow : OpenClaim := { program := "ytbdnfajdpajfpaa", sum := "1e4250d82c9f1c726c93d511bc3b0a10b5bd076238f05a2da52b3b202f76536d", func := "loop.example/g00207/laws.FnExactUnchunked", spec := "fnExactUnchunked", unfollowed := true, recurses := true, apart := false, narrowed := true }
def FnExactUnchunkedUptoSaid : Prop := fnExactUnchunkedUptoRow.holds Try.pinned (OpenSpec.upto fnExactUnchunkedSpec)

end Rows
end Go.Proofs.Ytbdnfajdpajfpaa

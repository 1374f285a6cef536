/-
  No cell of these rows narrows 'for every input' (looked for: loops, veiled, ifaces, maps, wideKeys, modest, calm, conditions, laid).
  DERIVED. THE GIVEN ROWS OF THIS SEAT. 10 by the template 'for every input the law returns true; each argument reads behind the call as it read before'; 0 by the template 'total and deterministic' (their statements: YtlngleinegkoeaaGreatTotals.lean).
  GIVEN WITH THE SEED: the statements are not yours to turn. If you find one false, say at which input.
  Laid BY PROGRAM, IN A SANDBOX (cutbox-rows.mjs): the forced cells as the released guide's own fill.sh prints them over the translation b6f49cbff1bb5b8a… (all of the seat's roots in one cut). By AI agents, Wed Nov 11 2026. No macro, syntax, notation, axiom, sorry.
-/
import Derived.Test.YtlngleinegkoeaaGreatChecked
import GoSem.Claim
import GoSem.ClaimJoined
import GoSem.ClaimMapViews
import Derived.JoinedTies
import Derived.KernelRfl
namespace Go.Proofs.YtlngleinegkoeaaGreat
/- THE CELL 'sum', in the pinned program and in every row, IS THE sha256 OF THE DUMP (.gsa) THAT YtlngleinegkoeaaGreatProg.lean LOADS. Nothing in Lean hashes anything: it is a label: what it is worth is what the hold of that sum in a sandbox is worth. -/
noncomputable def Tryz.pinned : Pinned := { name := "ytlngleinegkoeaagreat", sum := "b6f49cbff1bb5b8a4f313611fa7e19a67d2bdada3bda34560271169e9f997b90", checked := Tryz.checked }
namespace Rows
def none {H : Type} : Left H := { results := [], args := [] }

/-- 'laws.FnReceived': WHATEVER THE INPUT: true; the input reads as it did. -/
def fnReceivedSpec : ChangeSpec := { name := "fnReceived", fn := fun _ => fun
  | [d] => { results := [.lit (.bool true)], args := [d] }
  | _ => none }
def fnReceivedRow : OpenClaim := { program := "ytlngleinegkoeaagreat", sum := "b6f49cbff1bb5b8a4f313611fa7e19a67d2bdada3bda34560271169e9f997b90", func := "loop.example/g00207/laws.FnReceived", spec := "fnReceived", inPlace := ["internal/bytealg.IndexByteString", "internal/bytealg.IndexString", "slices.overlaps[int64]", "slices.overlaps[loop.example/g00207/impl.Message]"], unfollowed := true, recurses := true, named := ["internal/bytealg.MaxLen"], leaving := true, apart := false }
def FnReceivedSaid : Prop := fnReceivedRow.holds Tryz.pinned (OpenSpec.ofChange fnReceivedSpec)

/-- ITS FALSE NEIGHBOUR: 'it returns false'. Refute it at one input. -/
def fnReceivedWrong : ChangeSpec := { name := "fnReceived", fn := fun _ => fun
  | [d] => { results := [.lit (.bool false)], args := [d] }
  | _ => none }
def FnReceivedWrongFalsely : Prop := fnReceivedRow.holds Tryz.pinned (OpenSpec.ofChange fnReceivedWrong)

/-- 'laws.FnSubmitted': WHATEVER THE INPUT: true; the input reads as it did. -/
def fnSubmittedSpec : ChangeSpec := { name := "fnSubmitted", fn := fun _ => fun
  | [d] => { results := [.lit (.bool true)], args := [d] }
  | _ => none }
def fnSubmittedRow : OpenClaim := { program := "ytlngleinegkoeaagreat", sum := "b6f49cbff1bb5b8a4f313611fa7e19a67d2bdada3bda34560271169e9f997b90", func := "loop.example/g00207/laws.FnSubmitted", spec := "fnSubmitted", inPlace := ["internal/bytealg.IndexByteString", "internal/bytealg.IndexString", "slices.overlaps[loop.example/g00207/impl.Message]"], unfollowed := true, recurses := true, named := ["internal/bytealg.MaxLen"], leaving := true, apart := false }
def FnSubmittedSaid : Prop := fnSubmittedRow.holds Tryz.pinned (OpenSpec.ofChange fnSubmittedSpec)

/-- ITS FALSE NEIGHBOUR: 'it returns false'. Refute it at one input. -/
def fnSubmittedWrong : ChangeSpec := { name := "fnSubmitted", fn := fun _ => fun
  | [d] => { results := [.lit (.bool false)], args := [d] }
  | _ => none }
def FnSubmittedWrongFalsely : Prop := fnSubmittedRow.holds Tryz.pinned (OpenSpec.ofChange fnSubmittedWrong)

/-- 'laws.FnActed': WHATEVER THE INPUT: true; the input reads as it did. -/
def fnActedSpec : ChangeSpec := { name := "fnActed", fn := fun _ => fun
  | [d] => { results := [.lit (.bool true)], args := [d] }
  | _ => none }
def fnActedRow : OpenClaim := { program := "ytlngleinegkoeaagreat", sum := "b6f49cbff1bb5b8a4f313611fa7e19a67d2bdada3bda34560271169e9f997b90", func := "loop.example/g00207/laws.FnActed", spec := "fnActed", inPlace := ["internal/bytealg.IndexByteString", "internal/bytealg.IndexString", "slices.overlaps[loop.example/g00207/impl.Message]", "slices.overlaps[int64]"], unfollowed := true, recurses := true, named := ["internal/bytealg.MaxLen"], leaving := true, apart := false }
def FnActedSaid : Prop := fnActedRow.holds Tryz.pinned (OpenSpec.ofChange fnActedSpec)

/-- ITS FALSE NEIGHBOUR: 'it returns false'. Refute it at one input. -/
def fnActedWrong : ChangeSpec := { name := "fnActed", fn := fun _ => fun
  | [d] => { results := [.lit (.bool false)], args := [d] }
  | _ => none }
def FnActedWrongFalsely : Prop := fnActedRow.holds Tryz.pinned (OpenSpec.ofChange fnActedWrong)

/-- 'laws.FnPlayed': WHATEVER THE INPUT: true; the input reads as it did. -/
def fnPlayedSpec : ChangeSpec := { name := "fnPlayed", fn := fun _ => fun
  | [d] => { results := [.lit (.bool true)], args := [d] }
  | _ => none }
def fnPlayedRow : OpenClaim := { program := "ytlngleinegkoeaagreat", sum := "b6f49cbff1bb5b8a4f313611fa7e19a67d2bdada3bda34560271169e9f997b90", func := "loop.example/g00207/laws.FnPlayed", spec := "fnPlayed", inPlace := ["internal/bytealg.IndexByteString", "internal/bytealg.IndexString", "slices.overlaps[loop.example/g00207/impl.Message]", "slices.overlaps[int64]"], unfollowed := true, recurses := true, named := ["internal/bytealg.MaxLen"], leaving := true, apart := false }
def FnPlayedSaid : Prop := fnPlayedRow.holds Tryz.pinned (OpenSpec.ofChange fnPlayedSpec)

/-- ITS FALSE NEIGHBOUR: 'it returns false'. Refute it at one input. -/
def fnPlayedWrong : ChangeSpec := { name := "fnPlayed", fn := fun _ => fun
  | [d] => { results := [.lit (.bool false)], args := [d] }
  | _ => none }
def FnPlayedWrongFalsely : Prop := fnPlayedRow.holds Tryz.pinned (OpenSpec.ofChange fnPlayedWrong)

/-- 'laws.FnOneLog': WHATEVER THE INPUT: true; the input reads as it did. -/
def fnOneLogSpec : ChangeSpec := { name := "fnOneLog", fn := fun _ => fun
  | [d] => { results := [.lit (.bool true)], args := [d] }
  | _ => none }
def fnOneLogRow : OpenClaim := { program := "ytlngleinegkoeaagreat", sum := "b6f49cbff1bb5b8a4f313611fa7e19a67d2bdada3bda34560271169e9f997b90", func := "loop.example/g00207/laws.FnOneLog", spec := "fnOneLog", inPlace := ["internal/bytealg.IndexByteString", "internal/bytealg.IndexString", "(*sync.WaitGroup).Add", "internal/race.ReleaseMerge", "internal/race.Disable", "internal/race.Enable", "internal/synctest.IsInBubble", "internal/synctest.Associate[sync.WaitGroup]", "sync.fatal", "sync/atomic.OrUint64", "sync/atomic.AddUint64", "internal/race.Read", "sync/atomic.LoadUint64", "sync/atomic.StoreUint64", "internal/synctest.Disassociate[sync.WaitGroup]", "sync.runtime_Semrelease", "(*sync.WaitGroup).Done", "(*sync.WaitGroup).Wait", "internal/race.Acquire", "internal/synctest.IsAssociated[sync.WaitGroup]", "sync/atomic.CompareAndSwapUint64", "internal/race.Write", "sync.runtime_SemacquireWaitGroup"], unfollowed := true, recurses := true, named := ["internal/bytealg.MaxLen"], leaving := true, apart := false }
def FnOneLogSaid : Prop := fnOneLogRow.holds Tryz.pinned (OpenSpec.ofChange fnOneLogSpec)

/-- ITS FALSE NEIGHBOUR: 'it returns false'. Refute it at one input. -/
def fnOneLogWrong : ChangeSpec := { name := "fnOneLog", fn := fun _ => fun
  | [d] => { results := [.lit (.bool false)], args := [d] }
  | _ => none }
def FnOneLogWrongFalsely : Prop := fnOneLogRow.holds Tryz.pinned (OpenSpec.ofChange fnOneLogWrong)

/-- 'laws.FnCalmed': WHATEVER THE INPUT: true; the input reads as it did. -/
def fnCalmedSpec : ChangeSpec := { name := "fnCalmed", fn := fun _ => fun
  | [d] => { results := [.lit (.bool true)], args := [d] }
  | _ => none }
def fnCalmedRow : OpenClaim := { program := "ytlngleinegkoeaagreat", sum := "b6f49cbff1bb5b8a4f313611fa7e19a67d2bdada3bda34560271169e9f997b90", func := "loop.example/g00207/laws.FnCalmed", spec := "fnCalmed", inPlace := ["internal/bytealg.IndexByteString", "internal/bytealg.IndexString", "slices.overlaps[loop.example/g00207/impl.Message]", "slices.overlaps[int64]", "(*sync.WaitGroup).Add", "internal/race.ReleaseMerge", "internal/race.Disable", "internal/race.Enable", "internal/synctest.IsInBubble", "internal/synctest.Associate[sync.WaitGroup]", "sync.fatal", "sync/atomic.OrUint64", "sync/atomic.AddUint64", "internal/race.Read", "sync/atomic.LoadUint64", "sync/atomic.StoreUint64", "internal/synctest.Disassociate[sync.WaitGroup]", "sync.runtime_Semrelease", "(*sync.WaitGroup).Done", "(*sync.WaitGroup).Wait", "internal/race.Acquire", "internal/synctest.IsAssociated[sync.WaitGroup]", "sync/atomic.CompareAndSwapUint64", "internal/race.Write", "sync.runtime_SemacquireWaitGroup"], unfollowed := true, recurses := true, named := ["internal/bytealg.MaxLen"], leaving := true, apart := false }
def FnCalmedSaid : Prop := fnCalmedRow.holds Tryz.pinned (OpenSpec.ofChange fnCalmedSpec)

/-- ITS FALSE NEIGHBOUR: 'it returns false'. Refute it at one input. -/
def fnCalmedWrong : ChangeSpec := { name := "fnCalmed", fn := fun _ => fun
  | [d] => { results := [.lit (.bool false)], args := [d] }
  | _ => none }
def FnCalmedWrongFalsely : Prop := fnCalmedRow.holds Tryz.pinned (OpenSpec.ofChange fnCalmedWrong)

/-- 'laws.FnExactSuspect': WHATEVER THE INPUT: true; the input reads as it did. -/
def fnExactSuspectSpec : ChangeSpec := { name := "fnExactSuspect", fn := fun _ => fun
  | [d] => { results := [.lit (.bool true)], args := [d] }
  | _ => none }
def fnExactSuspectRow : OpenClaim := { program := "ytlngleinegkoeaagreat", sum := "b6f49cbff1bb5b8a4f313611fa7e19a67d2bdada3bda34560271169e9f997b90", func := "loop.example/g00207/laws.FnExactSuspect", spec := "fnExactSuspect", inPlace := ["internal/bytealg.IndexByteString", "internal/bytealg.IndexString", "slices.overlaps[loop.example/g00207/impl.Message]"], unfollowed := true, recurses := true, named := ["internal/bytealg.MaxLen"], leaving := true, apart := false }
def FnExactSuspectSaid : Prop := fnExactSuspectRow.holds Tryz.pinned (OpenSpec.ofChange fnExactSuspectSpec)

/-- ITS FALSE NEIGHBOUR: 'it returns false'. Refute it at one input. -/
def fnExactSuspectWrong : ChangeSpec := { name := "fnExactSuspect", fn := fun _ => fun
  | [d] => { results := [.lit (.bool false)], args := [d] }
  | _ => none }
def FnExactSuspectWrongFalsely : Prop := fnExactSuspectRow.holds Tryz.pinned (OpenSpec.ofChange fnExactSuspectWrong)

/-- 'laws.FnExactReceive': WHATEVER THE INPUT: true; the input reads as it did. -/
def fnExactReceiveSpec : ChangeSpec := { name := "fnExactReceive", fn := fun _ => fun
  | [d1, d2] => { results := [.lit (.bool true)], args := [d1, d2] }
  | _ => none }
def fnExactReceiveRow : OpenClaim := { program := "ytlngleinegkoeaagreat", sum := "b6f49cbff1bb5b8a4f313611fa7e19a67d2bdada3bda34560271169e9f997b90", func := "loop.example/g00207/laws.FnExactReceive", spec := "fnExactReceive", inPlace := ["internal/bytealg.IndexByteString", "internal/bytealg.IndexString", "slices.overlaps[int64]", "slices.overlaps[loop.example/g00207/impl.Message]"], unfollowed := true, recurses := true, named := ["internal/bytealg.MaxLen"], leaving := true, apart := false }
def FnExactReceiveSaid : Prop := fnExactReceiveRow.holds Tryz.pinned (OpenSpec.ofChange fnExactReceiveSpec)

/-- ITS FALSE NEIGHBOUR: 'it returns false'. Refute it at one input. -/
def fnExactReceiveWrong : ChangeSpec := { name := "fnExactReceive", fn := fun _ => fun
  | [d1, d2] => { results := [.lit (.bool false)], args := [d1, d2] }
  | _ => none }
def FnExactReceiveWrongFalsely : Prop := fnExactReceiveRow.holds Tryz.pinned (OpenSpec.ofChange fnExactReceiveWrong)

/-- 'laws.FnExactAct': WHATEVER THE INPUT: true; the input reads as it did. -/
def fnExactActSpec : ChangeSpec := { name := "fnExactAct", fn := fun _ => fun
  | [d1, d2] => { results := [.lit (.bool true)], args := [d1, d2] }
  | _ => none }
def fnExactActRow : OpenClaim := { program := "ytlngleinegkoeaagreat", sum := "b6f49cbff1bb5b8a4f313611fa7e19a67d2bdada3bda34560271169e9f997b90", func := "loop.example/g00207/laws.FnExactAct", spec := "fnExactAct", inPlace := ["internal/bytealg.IndexByteString", "internal/bytealg.IndexString", "slices.overlaps[loop.example/g00207/impl.Message]", "slices.overlaps[int64]"], unfollowed := true, recurses := true, named := ["internal/bytealg.MaxLen"], leaving := true, apart := false }
def FnExactActSaid : Prop := fnExactActRow.holds Tryz.pinned (OpenSpec.ofChange fnExactActSpec)

/-- ITS FALSE NEIGHBOUR: 'it returns false'. Refute it at one input. -/
def fnExactActWrong : ChangeSpec := { name := "fnExactAct", fn := fun _ => fun
  | [d1, d2] => { results := [.lit (.bool false)], args := [d1, d2] }
  | _ => none }
def FnExactActWrongFalsely : Prop := fnExactActRow.holds Tryz.pinned (OpenSpec.ofChange fnExactActWrong)

/-- 'laws.FnExactPlay': WHATEVER THE INPUT: true; the input reads as it did. -/
def fnExactPlaySpec : ChangeSpec := { name := "fnExactPlay", fn := fun _ => fun
  | [d1, d2] => { results := [.lit (.bool true)], args := [d1, d2] }
  | _ => none }
def fnExactPlayRow : OpenClaim := { program := "ytlngleinegkoeaagreat", sum := "b6f49cbff1bb5b8a4f313611fa7e19a67d2bdada3bda34560271169e9f997b90", func := "loop.example/g00207/laws.FnExactPlay", spec := "fnExactPlay", inPlace := ["internal/bytealg.IndexByteString", "internal/bytealg.IndexString", "slices.overlaps[loop.example/g00207/impl.Message]", "slices.overlaps[int64]"], unfollowed := true, recurses := true, named := ["internal/bytealg.MaxLen"], leaving := true, apart := false }
def FnExactPlaySaid : Prop := fnExactPlayRow.holds Tryz.pinned (OpenSpec.ofChange fnExactPlaySpec)

/-- ITS FALSE NEIGHBOUR: 'it returns false'. Refute it at one input. -/
def fnExactPlayWrong : ChangeSpec := { name := "fnExactPlay", fn := fun _ => fun
  | [d1, d2] => { results := [.lit (.bool false)], args := [d1, d2] }
  | _ => none }
def FnExactPlayWrongFalsely : Prop := fnExactPlayRow.holds Tryz.pinned (OpenSpec.ofChange fnExactPlayWrong)

/- THE SECOND FORM. 'bulk': how many values and letters a reading holds, each counted each time it is reached (what is shared counts as often as it is met; a slice's spare places count too). A statement '..UptoSaid' is the law's where the arguments, and the package variables that the reading takes, are together of bulk at most 1048576: NARROWER than '..Said'. Prove '..Said' where nothing that the law and all that it calls make is longer than what came in: it says more and counts as full. Else prove '..UptoSaid'. A law counts once. -/
mutual
def uptoBulk {H : Type} : DataW H → Nat
  | .lit (.string bytes) => bytes.length + 1
  | .lit _ => 1
  | .nil => 1
  | .ptr d => uptoBulk d + 1
  | .slice elems spare => uptoBulkAll elems + uptoBulkAll spare + 1
  | .agg parts => uptoBulkAll parts + 1
  | .iface _ d => uptoBulk d + 1
  | .map entries => uptoBulkEntries entries + 1
  | .held _ => 1
def uptoBulkAll {H : Type} : List (DataW H) → Nat
  | [] => 0
  | d :: r => uptoBulk d + uptoBulkAll r
def uptoBulkEntries {H : Type} : List (Lit × DataW H) → Nat
  | [] => 0
  | x :: r => uptoBulkEntry x + uptoBulkEntries r
def uptoBulkEntry {H : Type} : Lit × DataW H → Nat
  | (.string bytes, d) => bytes.length + uptoBulk d + 1
  | (_, d) => uptoBulk d + 1
 end
def uptoSmall : (H : Type) → List (DataW H) → Bool := fun _ ds => decide (uptoBulkAll ds ≤ 1048576)
def OpenSpec.upto (s : _root_.Go.ChangeSpec) : _root_.Go.OpenSpec := { _root_.Go.OpenSpec.ofChange s with cond := some uptoSmall }

/-- 'laws.FnReceived', WHERE WHAT IT READS IS OF BULK AT MOST 1048576: true; the input reads as it did. -/
def fnReceivedUptoRow : OpenClaim := { program := "ytlngleinegkoeaagreat", sum := "b6f49cbff1bb5b8a4f313611fa7e19a67d2bdada3bda34560271169e9f997b90", func := "loop.example/g00207/laws.FnReceived", spec := "fnReceived", inPlace := ["internal/bytealg.IndexByteString", "internal/bytealg.IndexString", "slices.overlaps[int64]", "slices.overlaps[loop.example/g00207/impl.Message]"], unfollowed := true, recurses := true, named := ["internal/bytealg.MaxLen"], leaving := true, apart := false, narrowed := true }
def FnReceivedUptoSaid : Prop := fnReceivedUptoRow.holds Tryz.pinned (OpenSpec.upto fnReceivedSpec)

/-- 'laws.FnSubmitted', WHERE WHAT IT READS IS OF BULK AT MOST 1048576: true; the input reads as it did. -/
def fnSubmittedUptoRow : OpenClaim := { program := "ytlngleinegkoeaagreat", sum := "b6f49cbff1bb5b8a4f313611fa7e19a67d2bdada3bda34560271169e9f997b90", func := "loop.example/g00207/laws.FnSubmitted", spec := "fnSubmitted", inPlace := ["internal/bytealg.IndexByteString", "internal/bytealg.IndexString", "slices.overlaps[loop.example/g00207/impl.Message]"], unfollowed := true, recurses := true, named := ["internal/bytealg.MaxLen"], leaving := true, apart := false, narrowed := true }
def FnSubmittedUptoSaid : Prop := fnSubmittedUptoRow.holds Tryz.pinned (OpenSpec.upto fnSubmittedSpec)

/-- 'laws.FnActed', WHERE WHAT IT READS IS OF BULK AT MOST 1048576: true; the input reads as it did. -/
def fnActedUptoRow : OpenClaim := { program := "ytlngleinegkoeaagreat", sum := "b6f49cbff1bb5b8a4f313611fa7e19a67d2bdada3bda34560271169e9f997b90", func := "loop.example/g00207/laws.FnActed", spec := "fnActed", inPlace := ["internal/bytealg.IndexByteString", "internal/bytealg.IndexString", "slices.overlaps[loop.example/g00207/impl.Message]", "slices.overlaps[int64]"], unfollowed := true, recurses := true, named := ["internal/bytealg.MaxLen"], leaving := true, apart := false, narrowed := true }
def FnActedUptoSaid : Prop := fnActedUptoRow.holds Tryz.pinned (OpenSpec.upto fnActedSpec)

/-- 'laws.FnPlayed', WHERE WHAT IT READS IS OF BULK AT MOST 1048576: true; the input reads as it did. -/
def fnPlayedUptoRow : OpenClaim := { program := "ytlngleinegkoeaagreat", sum := "b6f49cbff1bb5b8a4f313611fa7e19a67d2bdada3bda34560271169e9f997b90", func := "loop.example/g00207/laws.FnPlayed", spec := "fnPlayed", inPlace := ["internal/bytealg.IndexByteString", "internal/bytealg.IndexString", "slices.overlaps[loop.example/g00207/impl.Message]", "slices.overlaps[int64]"], unfollowed := true, recurses := true, named := ["internal/bytealg.MaxLen"], leaving := true, apart := false, narrowed := true }
def FnPlayedUptoSaid : Prop := fnPlayedUptoRow.holds Tryz.pinned (OpenSpec.upto fnPlayedSpec)

/-- 'laws.FnOneLog', WHERE WHAT IT READS IS OF BULK AT MOST 1048576: true; the input reads as it did. -/
def fnOneLogUptoRow : OpenClaim := { program := "ytlngleinegkoeaagreat", sum := "b6f49cbff1bb5b8a4f313611fa7e19a67d2bdada3bda34560271169e9f997b90", func := "loop.example/g00207/laws.FnOneLog", spec := "fnOneLog", inPlace := ["internal/bytealg.IndexByteString", "internal/bytealg.IndexString", "(*sync.WaitGroup).Add", "internal/race.ReleaseMerge", "internal/race.Disable", "internal/race.Enable", "internal/synctest.IsInBubble", "internal/synctest.Associate[sync.WaitGroup]", "sync.fatal", "sync/atomic.OrUint64", "sync/atomic.AddUint64", "internal/race.Read", "sync/atomic.LoadUint64", "sync/atomic.StoreUint64", "internal/synctest.Disassociate[sync.WaitGroup]", "sync.runtime_Semrelease", "(*sync.WaitGroup).Done", "(*sync.WaitGroup).Wait", "internal/race.Acquire", "internal/synctest.IsAssociated[sync.WaitGroup]", "sync/atomic.CompareAndSwapUint64", "internal/race.Write", "sync.runtime_SemacquireWaitGroup"], unfollowed := true, recurses := true, named := ["internal/bytealg.MaxLen"], leaving := true, apart := false, narrowed := true }
def FnOneLogUptoSaid : Prop := fnOneLogUptoRow.holds Tryz.pinned (OpenSpec.upto fnOneLogSpec)

/-- 'laws.FnCalmed', WHERE WHAT IT READS IS OF BULK AT MOST 1048576: true; the input reads as it did. -/
def fnCalmedUptoRow : OpenClaim := { program := "ytlngleinegkoeaagreat", sum := "b6f49cbff1bb5b8a4f313611fa7e19a67d2bdada3bda34560271169e9f997b90", func := "loop.example/g00207/laws.FnCalmed", spec := "fnCalmed", inPlace := ["internal/bytealg.IndexByteString", "internal/bytealg.IndexString", "slices.overlaps[loop.example/g00207/impl.Message]", "slices.overlaps[int64]", "(*sync.WaitGroup).Add", "internal/race.ReleaseMerge", "internal/race.Disable", "internal/race.Enable", "internal/synctest.IsInBubble", "internal/synctest.Associate[sync.WaitGroup]", "sync.fatal", "sync/atomic.OrUint64", "sync/atomic.AddUint64", "internal/race.Read", "sync/atomic.LoadUint64", "sync/atomic.StoreUint64", "internal/synctest.Disassociate[sync.WaitGroup]", "sync.runtime_Semrelease", "(*sync.WaitGroup).Done", "(*sync.WaitGroup).Wait", "internal/race.Acquire", "internal/synctest.IsAssociated[sync.WaitGroup]", "sync/atomic.CompareAndSwapUint64", "internal/race.Write", "sync.runtime_SemacquireWaitGroup"], unfollowed := true, recurses := true, named := ["internal/bytealg.MaxLen"], leaving := true, apart := false, narrowed := true }
def FnCalmedUptoSaid : Prop := fnCalmedUptoRow.holds Tryz.pinned (OpenSpec.upto fnCalmedSpec)

/-- 'laws.FnExactSuspect', WHERE WHAT IT READS IS OF BULK AT MOST 1048576: true; the input reads as it did. -/
def fnExactSuspectUptoRow : OpenClaim := { program := "ytlngleinegkoeaagreat", sum := "b6f49cbff1bb5b8a4f313611fa7e19a67d2bdada3bda34560271169e9f997b90", func := "loop.example/g00207/laws.FnExactSuspect", spec := "fnExactSuspect", inPlace := ["internal/bytealg.IndexByteString", "internal/bytealg.IndexString", "slices.overlaps[loop.example/g00207/impl.Message]"], unfollowed := true, recurses := true, named := ["internal/bytealg.MaxLen"], leaving := true, apart := false, narrowed := true }
def FnExactSuspectUptoSaid : Prop := fnExactSuspectUptoRow.holds Tryz.pinned (OpenSpec.upto fnExactSuspectSpec)

/-- 'laws.FnExactReceive', WHERE WHAT IT READS IS OF BULK AT MOST 1048576: true; the input reads as it did. -/
def fnExactReceiveUptoRow : OpenClaim := { program := "ytlngleinegkoeaagreat", sum := "b6f49cbff1bb5b8a4f313611fa7e19a67d2bdada3bda34560271169e9f997b90", func := "loop.example/g00207/laws.FnExactReceive", spec := "fnExactReceive", inPlace := ["internal/bytealg.IndexByteString", "internal/bytealg.IndexString", "slices.overlaps[int64]", "slices.overlaps[loop.example/g00207/impl.Message]"], unfollowed := true, recurses := true, named := ["internal/bytealg.MaxLen"], leaving := true, apart := false, narrowed := true }
def FnExactReceiveUptoSaid : Prop := fnExactReceiveUptoRow.holds Tryz.pinned (OpenSpec.upto fnExactReceiveSpec)

/-- 'laws.FnExactAct', WHERE WHAT IT READS IS OF BULK AT MOST 1048576: true; the input reads as it did. -/
def fnExactActUptoRow : OpenClaim := { program := "ytlngleinegkoeaagreat", sum := "b6f49cbff1bb5b8a4f313611fa7e19a67d2bdada3bda34560271169e9f997b90", func := "loop.example/g00207/laws.FnExactAct", spec := "fnExactAct", inPlace := ["internal/bytealg.IndexByteString", "internal/bytealg.IndexString", "slices.overlaps[loop.example/g00207/impl.Message]", "slices.overlaps[int64]"], unfollowed := true, recurses := true, named := ["internal/bytealg.MaxLen"], leaving := true, apart := false, narrowed := true }
def FnExactActUptoSaid : Prop := fnExactActUptoRow.holds Tryz.pinned (OpenSpec.upto fnExactActSpec)

/-- 'laws.FnExactPlay', WHERE WHAT IT READS IS OF BULK AT MOST 1048576: true; the input reads as it did. -/
def fnExactPlayUptoRow : OpenClaim := { program := "ytlngleinegkoeaagreat", sum := "b6f49cbff1bb5b8a4f313611fa7e19a67d2bdada3bda34560271169e9f997b90", func := "loop.example/g00207/laws.FnExactPlay", spec := "fnExactPlay", inPlace := ["internal/bytealg.IndexByteString", "internal/bytealg.IndexString", "slices.overlaps[loop.example/g00207/impl.Message]", "slices.overlaps[int64]"], unfollowed := true, recurses := true, named := ["internal/bytealg.MaxLen"], leaving := true, apart := false, narrowed := true }
def FnExactPlayUptoSaid : Prop := fnExactPlayUptoRow.holds Tryz.pinned (OpenSpec.upto fnExactPlaySpec)

end Rows
end Go.Proofs.YtlngleinegkoeaaGreat

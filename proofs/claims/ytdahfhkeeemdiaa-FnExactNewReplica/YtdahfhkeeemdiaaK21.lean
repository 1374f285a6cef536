/-
  Rows of messages of a call: what is pushed; the same message to all others.
  The specification's Spread, by contract.
  The program's spread; both sides' Spread.
-/
import Derived.Test.YtdahfhkeeemdiaaK19
import Derived.Test.YtdahfhkeeemdiaaK15
import Derived.Test.YtdahfhkeeemdiaaK20
import Derived.Test.YtdahfhkeeemdiaaK18
import Derived.Deep.RegionWith
import Derived.Test.YtdahfhkeeemdiaaK16
import Derived.Test.YtdahfhkeeemdiaaRows
import Derived.StillTail
import Derived.Deep.QuietTactic
import Derived.Lib.QuietBelow
import Derived.BigQuiet
namespace Go.Proofs.Ytdahfhkeeemdiaa.Rl
open Go.RowKit Go.Sort Pg
set_option linter.unusedVariables false
set_option linter.unusedSimpArgs false

/-- A row of messages of the call's own, each log in a block of its own. -/
structure MsOwn (w : World) (B : Nat) (v : Value) (T : List Mx) (L : List Ms) : Prop where
  row : OwnsM w B v T
  logs : Logs w B T
  ap : ∀ x ∈ T, ap v x.u
  is : T.map (·.m) = L
theorem MsOwn.kept {w w' : World} {B : Nat} {v : Value} {T : List Mx} {L : List Ms} (h : MsOwn w B v T L) (hb : Below w.heap.size w w') : MsOwn w' B v T L := ⟨h.row.kept hb, h.logs.kept hb, h.ap, h.is⟩
theorem MsOwn.low {w : World} {B B' : Nat} {v : Value} {T : List Mx} {L : List Ms} (h : MsOwn w B v T L) (hB : B' ≤ B) : MsOwn w B' v T L := ⟨h.row.low hB, h.logs.low hB, h.ap, h.is⟩
theorem MsOwn.len {w : World} {B : Nat} {v : Value} {T : List Mx} {L : List Ms} (h : MsOwn w B v T L) : T.length = L.length := by rw [← h.is, List.length_map]
theorem MsOwn.got {w : World} {B : Nat} {v : Value} {T : List Mx} {L : List Ms} (h : MsOwn w B v T L) : TeGot w v T := ⟨h.row.sls, fun x hx => (h.logs.l x hx).sls⟩
theorem MsOwn.born (w : World) : MsOwn (w.alloc (.cells #[] 50)) w.heap.size (.slice (some ⟨w.heap.size, 0, none⟩) 0 0) [] [] := ⟨OwnsE.born w, Logs.nil _ _, fun x hx => (by cases hx), rfl⟩
theorem MsOwn.alloc {w : World} {B : Nat} {v : Value} {T : List Mx} {L : List Ms} (h : MsOwn w B v T L) (o : Obj) : MsOwn (w.alloc o) B v T L := h.kept ((Below.refl _ w).alloc (Nat.le_refl _) o)
end Go.Proofs.Ytdahfhkeeemdiaa.Rl
namespace Go.Proofs.Ytdahfhkeeemdiaa.Rl
open Go.RowKit Go.Sort Pg
set_option linter.unusedVariables false
set_option linter.unusedSimpArgs false

/-- One message that tells, in a block of its own. -/
structure TlB (x : World) (lo g : Nat) (p1 : Option Addr) (d1 : Nat) (r : Rp) (q : Int) : Prop where
  b : Bx x g 50 #[.int .i64 4, .int .i64 r.id, .int .i64 q, .int .i64 r.v, .int .i64 r.la, .slice p1 r.l.length d1, .int .i64 r.c]
  l : OwnsX x lo (.slice p1 r.l.length d1) r.l
theorem TlB.kept {x y : World} {lo g : Nat} {p1 : Option Addr} {d1 : Nat} {r : Rp} {q : Int} (h : TlB x lo g p1 d1 r q) (hb : Below x.heap.size x y) : TlB y lo g p1 d1 r q := ⟨h.b.kept hb, h.l.kept hb⟩
end Go.Proofs.Ytdahfhkeeemdiaa.Rl
namespace Go.Proofs.Ytdahfhkeeemdiaa.Rl
open Go.RowKit Go.Sort Pg
set_option linter.unusedVariables false
set_option linter.unusedSimpArgs false

/-- The first messages of what is spread: that the view changes. -/
def SpOwn (x : World) (lo : Nat) (p1 : Option Addr) (d1 : Nat) (r : Rp) : Prop := ∃ T, MsOwn x lo (.slice p1 (allM r ⟨3, 0, 0, r.v, 0, [], 0⟩).length d1) T (allM r ⟨3, 0, 0, r.v, 0, [], 0⟩)
theorem SpOwn.kept {x y : World} {lo : Nat} {p1 : Option Addr} {d1 : Nat} {r : Rp} (h : SpOwn x lo p1 d1 r) (hb : Below x.heap.size x y) : SpOwn y lo p1 d1 r := by
  obtain ⟨T, h⟩ := h
  exact ⟨T, h.kept hb⟩
theorem SpOwn.of {x : World} {lo : Nat} {p1 : Option Addr} {d1 : Nat} {r : Rp} {T : List Mx} (h : MsOwn x lo (.slice p1 T.length d1) T (allM r ⟨3, 0, 0, r.v, 0, [], 0⟩)) : SpOwn x lo p1 d1 r := ⟨T, by have e := h.len; rw [← e]; exact h⟩
end Go.Proofs.Ytdahfhkeeemdiaa.Rl

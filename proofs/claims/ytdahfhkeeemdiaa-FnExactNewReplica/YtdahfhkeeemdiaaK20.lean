/-
  The specification's ReplicaOk, by contract: its first tests, and the rest given what it does behind them.
  What a replica of a call lives in; the walk of FnExactReplicaOk, given the program's ReplicaOk.
  A slice that lies anywhere, nil or not, appended to a row of one's own.
-/
import Derived.Test.YtdahfhkeeemdiaaK19
import Derived.Test.YtdahfhkeeemdiaaK12
import Derived.Test.YtdahfhkeeemdiaaK09
import Derived.Lib.SmallJoins
import Derived.Lib.ItoaNum
import Derived.Test.YtdahfhkeeemdiaaRows
import Derived.StillTail
import Derived.Deep.QuietTactic
import Derived.Lib.QuietBelow
import Derived.BigQuiet
import Derived.Deep.DeepCutAuto
import Derived.Test.YtdahfhkeeemdiaaK01
import Derived.Test.YtdahfhkeeemdiaaK14
import Derived.Test.YtdahfhkeeemdiaaK17
import Derived.Test.YtdahfhkeeemdiaaK15
import Derived.Deep.RegionWith
import Derived.Deep.Cut
import Derived.Deep.CutRange
import Derived.Tactics
namespace Go.Proofs.Ytdahfhkeeemdiaa.Rl
open Go.RowKit Go.Sort Pg
set_option linter.unusedVariables false
set_option linter.unusedSimpArgs false

/-- What holds behind the first tests. -/
structure Rk (r : Rp) (u : Rv) (w W : World) : Prop where
  b : RpB W w.heap.size r u
  low : Below w.heap.size w W
  got : RpGot w u r
  fit : Fit r
  p : pOk r.p
  id : 0 ≤ r.id ∧ r.id < r.p
  v : 0 ≤ r.v ∧ r.v ≤ 10000
  lg : LgP r
  la : 0 ≤ r.la ∧ r.la ≤ r.v
  n : r.n = true ↔ r.la = r.v
theorem Rk.kept {r : Rp} {u : Rv} {w W W' : World} (h : Rk r u w W) (hb : Below W.heap.size W W') : Rk r u w W' := ⟨h.b.kept hb, h.low.trans (hb.mono h.low.size), h.got, h.fit, h.p, h.id, h.v, h.lg, h.la, h.n⟩
end Go.Proofs.Ytdahfhkeeemdiaa.Rl
namespace Go.Proofs.Ytdahfhkeeemdiaa.Rl
open Go.RowKit Go.Sort
set_option linter.unusedVariables false
set_option linter.unusedSimpArgs false

/-- A replica whose rows lie in blocks from lo to hi. -/
def RpF (lo hi : Nat) (u : Rv) (r : Rp) (W : World) : Prop := RpHas W lo u r ∧ ∀ v ∈ u.rows, ∀ k, v.ownBlock = some k → k < hi
theorem Liv.rp {W : World} {lo hi : Nat} {u : Rv} {r : Rp} (h : RpHas W lo u r) (hu : ∀ v ∈ u.rows, ∀ k, v.ownBlock = some k → k < hi) (ht : hi ≤ W.heap.size) : Liv lo hi (RpF lo hi u r) W :=
  ⟨⟨h, hu⟩, ht, fun W' hW _ => ⟨h.off fun v hv k hk => hW k (h.from v hv k hk) (hu v hv k hk), hu⟩⟩
theorem Liv.newRp {W : World} {lo : Nat} {u : Rv} {r : Rp} (h : RpHas W lo u r) : Liv lo W.heap.size (RpF lo W.heap.size u r) W := Liv.rp h h.under (Nat.le_refl _)
/-- Rows that read as a replica's. -/
def GotM (x : World) (r : Rp) (p1 : Option Addr) (d1 : Nat) (p2 : Option Addr) (d2 : Nat) (p3 : Option Addr) (d3 : Nat) (p4 : Option Addr) (d4 : Nat) : Prop := ∃ M, RpGot x ⟨.slice p1 r.l.length d1, .slice p2 r.ok.length d2, .slice p3 r.ch.length d3, .slice p4 r.te.length d4, M⟩ r
theorem GotM.kept {x y : World} {r : Rp} {p1 : Option Addr} {d1 : Nat} {p2 : Option Addr} {d2 : Nat} {p3 : Option Addr} {d3 : Nat} {p4 : Option Addr} {d4 : Nat} (h : GotM x r p1 d1 p2 d2 p3 d3 p4 d4) (hb : Below x.heap.size x y) : GotM y r p1 d1 p2 d2 p3 d3 p4 d4 := by
  obtain ⟨M, h⟩ := h
  exact ⟨M, h.kept hb⟩
end Go.Proofs.Ytdahfhkeeemdiaa.Rl
namespace Go.Proofs.Ytdahfhkeeemdiaa
open Go.RowKit
set_option linter.unusedVariables false

theorem Sls.cells {α : Type} {E : Enc α} {w : World} {ad : Addr} {n c : Nat} {m : List α} (h : Sls E w (.slice (some ad) n c) m) : ∀ j u, (cellsE E m)[j]? = some u → w.cell? (ad.add j) = some u := by
  intro j u hu
  obtain ⟨a, cap, e, _, _, h3⟩ := h
  injection e with e1 _ _
  have h0 : 0 < m.length := by
    rcases Nat.eq_zero_or_pos m.length with h0 | h0
    · rw [List.eq_nil_of_length_eq_zero h0] at hu
      simp [cellsE] at hu
    · exact h0
  obtain ⟨g, o, ha, _, hc⟩ := h3 h0
  rw [ha] at e1
  injection e1 with e1
  subst e1
  rw [addr_add]
  exact hc j u hu
end Go.Proofs.Ytdahfhkeeemdiaa

/-
  The contracts of the law's own helpers on fields: how large, turned into the program's, compared.
  A struct in a block, whatever its cells.
  Rows of messages, and a replica, in memory.
-/
import Derived.Test.YtdkhdjickkcaiaaRK12
import Derived.Test.YtdkhdjickkcaiaaRK06
import Derived.Laws.OwnMore
import Derived.Test.YtdkhdjickkcaiaaRK04
import Derived.Test.YtdkhdjickkcaiaaRK13
import Derived.Test.YtdkhdjickkcaiaaRows
import Derived.Test.YtdkhdjickkcaiaaRK03
import Derived.WalkKit
import Derived.WalkSpells
import Derived.Test.YtdkhdjickkcaiaaRK01
import Derived.Lib.SlBytesConst
import Derived.Test.YtdkhdjickkcaiaaRK02
import Derived.Laws.RangeAny
import Derived.Deep.RegionWith
import Derived.Lib.AppendStr
import Derived.Test.YtdkhdjickkcaiaaRK08
import Derived.Lib.ItoaNum
import Derived.StillTail
import Derived.Deep.QuietTactic
import Derived.Lib.QuietBelow
import Derived.BigQuiet
import Derived.Test.YtdkhdjickkcaiaaRK09
namespace Go.Proofs.Ytdkhdjickkcaiaa
open Go.RowKit Go.Sort

/-- Turned so far: the first k, and behind them empty ones. -/
def turned (l : List Fl) (k : Nat) : List Fl := l.take k ++ List.replicate (l.length - k) (⟨#[]⟩, ⟨#[]⟩)
end Go.Proofs.Ytdkhdjickkcaiaa
namespace Go.Proofs.Ytdkhdjickkcaiaa
open Go.RowKit
set_option linter.unusedVariables false

/-- All its cells stored, one behind the other. -/
def putL (w : World) (b : Nat) : List Value → Nat → World
  | [], _ => w
  | v :: vs, i => putL (w.setCell ⟨b, i, Option.none⟩ v) b vs (i + 1)
theorem putL_block (b : Nat) : ∀ (vs : List Value) (i : Nat) (w : World) (k : Nat), k ≠ b → (putL w b vs i).heap[k]? = w.heap[k]?
  | [], _, _, _, _ => rfl
  | v :: vs, i, w, k, hk => (putL_block b vs (i + 1) _ k hk).trans (Below.heap_setCell _ _ _ _ hk)
theorem putL_below {B b : Nat} (hB : B ≤ b) {w0 : World} : ∀ (vs : List Value) (i : Nat) {w : World}, Below B w0 w → Below B w0 (putL w b vs i)
  | [], _, _, h => h
  | v :: vs, i, _, h => putL_below hB vs (i + 1) (h.setCell (p := ⟨b, i, Option.none⟩) hB v)
end Go.Proofs.Ytdkhdjickkcaiaa
namespace Go.Proofs.Ytdkhdjickkcaiaa.Rl
open Go.RowKit Go.Sort
set_option linter.unusedVariables false
set_option linter.unusedSimpArgs false

/-- A message and where its log lies. -/
structure Mx where
  m : Ms
  pl : Option Addr
  cl : Nat
def Mx.u (x : Mx) : Value := .slice x.pl x.m.l.length x.cl
def mxC (x : Mx) : List Value := [.int .i64 x.m.k, .int .i64 x.m.f, .int .i64 x.m.t, .int .i64 x.m.v, .int .i64 x.m.la, x.u, .int .i64 x.m.c]
def mxE : Enc Mx where
  k := 7
  pos := by decide
  c := mxC
  len := fun _ => rfl
  one := fun x u hu => by
    simp only [mxC, Mx.u, List.mem_cons, List.not_mem_nil, or_false] at hu
    rcases hu with rfl | rfl | rfl | rfl | rfl | rfl | rfl <;> rfl
/-- The cells of the j-th message of a row. -/
theorem mxCells {w : World} {g q n cap : Nat} {L : List Mx} (h : Sls mxE w (.slice (some ⟨g, q, none⟩) n cap) L) {j : Nat} (hj : j < L.length) :
    (w.cell? ⟨g, q + j * 7, none⟩ = some (.int .i64 L[j].m.k) ∧ w.cell? ⟨g, q + j * 7 + 1, none⟩ = some (.int .i64 L[j].m.f) ∧ w.cell? ⟨g, q + j * 7 + 2, none⟩ = some (.int .i64 L[j].m.t) ∧ w.cell? ⟨g, q + j * 7 + 3, none⟩ = some (.int .i64 L[j].m.v) ∧ w.cell? ⟨g, q + j * 7 + 4, none⟩ = some (.int .i64 L[j].m.la) ∧ w.cell? ⟨g, q + j * 7 + 5, none⟩ = some L[j].u ∧ w.cell? ⟨g, q + j * 7 + 6, none⟩ = some (.int .i64 L[j].m.c)) := by
  obtain ⟨a, cap', hv, h1, h2, h3⟩ := h
  obtain ⟨g', q', ha, hg, hc⟩ := h3 (by omega)
  cases hv
  cases ha
  have k : ∀ i (hi : i < 7) u, (mxC L[j])[i]? = some u → w.cell? ⟨g, q + j * 7 + i, none⟩ = some u := fun i hi u hu => by
    have := hc (j * 7 + i) u ((cellsE_at mxE L j hj i hi).trans hu)
    rw [← Nat.add_assoc] at this
    exact this
  exact ⟨k 0 (by decide) _ rfl, k 1 (by decide) _ rfl, k 2 (by decide) _ rfl, k 3 (by decide) _ rfl, k 4 (by decide) _ rfl, k 5 (by decide) _ rfl, k 6 (by decide) _ rfl⟩
theorem mxAt {w : World} {a : Option Addr} {n cap : Nat} {L : List Mx} (h : Sls mxE w (.slice a n cap) L) (hl : 0 < L.length) : ∃ g q, a = some ⟨g, q, none⟩ := by
  obtain ⟨a', cap', hv, _, _, h3⟩ := h
  obtain ⟨g, q, ha, _⟩ := h3 hl
  cases hv
  exact ⟨g, q, ha⟩
/-- A message as a value, its log at u. -/
def msA (m : Ms) (u : Value) : Value := .agg #[.int .i64 m.k, .int .i64 m.f, .int .i64 m.t, .int .i64 m.v, .int .i64 m.la, u, .int .i64 m.c]
def MsGot (w : World) (u : Value) (m : Ms) : Prop := Sls txtE w u m.l
theorem MsGot.kept {w w' : World} {u : Value} {m : Ms} (h : MsGot w u m) (hb : Below w.heap.size w w') : MsGot w' u m := Sls.kept h hb
/-- A row of messages at v. -/
def TeGot (w : World) (v : Value) (T : List Mx) : Prop := Sls mxE w v T ∧ ∀ x ∈ T, MsGot w x.u x.m
theorem TeGot.kept {w w' : World} {v : Value} {T : List Mx} (h : TeGot w v T) (hb : Below w.heap.size w w') : TeGot w' v T := ⟨h.1.kept hb, fun x hx => (h.2 x hx).kept hb⟩
/-- Where the four slices of a replica lie. -/
structure Rv where
  l : Value
  ok : Value
  ch : Value
  te : Value
  T : List Mx
def rpA (r : Rp) (u : Rv) : Value := .agg #[.int .i64 r.id, .int .i64 r.p, .int .i64 r.v, .bool r.n, .int .i64 r.la, u.l, .int .i64 r.c, u.ok, u.ch, u.te]
structure RpGot (w : World) (u : Rv) (r : Rp) : Prop where
  l : Sls txtE w u.l r.l
  ok : Sls intE w u.ok r.ok
  ch : Sls intE w u.ch r.ch
  t : u.T.map (·.m) = r.te
  te : TeGot w u.te u.T
theorem RpGot.kept {w w' : World} {u : Rv} {r : Rp} (h : RpGot w u r) (hb : Below w.heap.size w w') : RpGot w' u r := ⟨h.l.kept hb, h.ok.kept hb, h.ch.kept hb, h.t, h.te.kept hb⟩
theorem RpGot.tlen {w : World} {u : Rv} {r : Rp} (h : RpGot w u r) : u.T.length = r.te.length := by rw [← h.t, List.length_map]
end Go.Proofs.Ytdkhdjickkcaiaa.Rl

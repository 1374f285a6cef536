/-
  What a replica has, told: the program's standing.
  The program's spread; both sides' Spread.
  What a row of messages of a call lives in; the walk of FnExactSpread, given both sides' Spread.
-/
import Derived.Test.YtdahfhkeeemdiaaGreatS31
import Derived.Test.YtdahfhkeeemdiaaGreatS28
import Derived.Test.YtdahfhkeeemdiaaGreatS30
namespace Go.Proofs.YtdahfhkeeemdiaaGreat.Rl
open Go.RowKit Go.Sort Pg
set_option linter.unusedVariables false
set_option linter.unusedSimpArgs false

def GSd (r : Rp) (kd : Int) (b z lo : Nat) (la : Option Addr) (lc : Nat) (i : Nat) (x : World) (v : Value) : Prop := match i with
  | 0 => v = .int .i64 kd
  | 1 => v = .pointer (some ⟨b, 0, none⟩)
  | 2 => v = .pointer (some ⟨b, 0, none⟩)
  | 3 => v = .pointer (some ⟨b, 0, none⟩)
  | 4 => v = .int .i64 r.id
  | 5 => v = .pointer (some ⟨b, 0, none⟩)
  | 6 => v = .pointer (some ⟨b, 0, none⟩)
  | 7 => v = .pointer (some ⟨b, 2, none⟩)
  | 8 => v = .int .i64 r.v
  | 9 => v = .pointer (some ⟨b, 0, none⟩)
  | 10 => v = .pointer (some ⟨b, 0, none⟩)
  | 11 => v = .pointer (some ⟨b, 1, none⟩)
  | 12 => v = .int .i64 r.p
  | 13 => v = .int .i64 (r.v % r.p)
  | 14 => v = .pointer (some ⟨b, 0, none⟩)
  | 15 => v = .pointer (some ⟨b, 0, none⟩)
  | 16 => v = .pointer (some ⟨b, 2, none⟩)
  | 17 => v = .int .i64 r.v
  | 18 => v = .pointer (some ⟨b, 0, none⟩)
  | 19 => v = .pointer (some ⟨b, 0, none⟩)
  | 20 => v = .pointer (some ⟨b, 4, none⟩)
  | 21 => v = .int .i64 r.la
  | 22 => v = .pointer (some ⟨b, 0, none⟩)
  | 23 => v = .pointer (some ⟨b, 0, none⟩)
  | 24 => v = .pointer (some ⟨b, 5, none⟩)
  | 25 => v = .slice la r.l.length lc
  | 26 => ∃ (p1 : Option Addr) (d1 : Nat), v = .slice p1 r.l.length d1 ∧ OwnsX x lo (.slice p1 r.l.length d1) r.l
  | 27 => v = .pointer (some ⟨b, 0, none⟩)
  | 28 => v = .pointer (some ⟨b, 0, none⟩)
  | 29 => v = .pointer (some ⟨b, 6, none⟩)
  | 30 => v = .int .i64 r.c
  | 31 => ∃ (p1 : Option Addr) (d1 : Nat), v = .agg #[.int .i64 kd, .int .i64 r.id, .int .i64 (r.v % r.p), .int .i64 r.v, .int .i64 r.la, .slice p1 r.l.length d1, .int .i64 r.c] ∧ OwnsX x lo (.slice p1 r.l.length d1) r.l
  | _ => True
theorem GSd.keep {r : Rp} {kd : Int} {b z lo : Nat} {la : Option Addr} {lc : Nat} {x y : World} (hb : Below x.heap.size x y) (j : Nat) (v : Value) (hj : j < 32) (h : GSd r kd b z lo la lc j x v) : GSd r kd b z lo la lc j y v := by
  rcases (show j = 0 ∨ j = 1 ∨ j = 2 ∨ j = 3 ∨ j = 4 ∨ j = 5 ∨ j = 6 ∨ j = 7 ∨ j = 8 ∨ j = 9 ∨ j = 10 ∨ j = 11 ∨ j = 12 ∨ j = 13 ∨ j = 14 ∨ j = 15 ∨ j = 16 ∨ j = 17 ∨ j = 18 ∨ j = 19 ∨ j = 20 ∨ j = 21 ∨ j = 22 ∨ j = 23 ∨ j = 24 ∨ j = 25 ∨ j = 26 ∨ j = 27 ∨ j = 28 ∨ j = 29 ∨ j = 30 ∨ j = 31 by omega) with rfl | rfl | rfl | rfl | rfl | rfl | rfl | rfl | rfl | rfl | rfl | rfl | rfl | rfl | rfl | rfl | rfl | rfl | rfl | rfl | rfl | rfl | rfl | rfl | rfl | rfl | rfl | rfl | rfl | rfl | rfl | rfl
  · exact h
  · exact h
  · exact h
  · exact h
  · exact h
  · exact h
  · exact h
  · exact h
  · exact h
  · exact h
  · exact h
  · exact h
  · exact h
  · exact h
  · exact h
  · exact h
  · exact h
  · exact h
  · exact h
  · exact h
  · exact h
  · exact h
  · exact h
  · exact h
  · exact h
  · exact h
  · obtain ⟨p1, d1, h1, h2⟩ := h; exact ⟨p1, d1, h1, h2.kept hb⟩
  · exact h
  · exact h
  · exact h
  · exact h
  · obtain ⟨p1, d1, h1, h2⟩ := h; exact ⟨p1, d1, h1, h2.kept hb⟩
end Go.Proofs.YtdahfhkeeemdiaaGreat.Rl
namespace Go.Proofs.YtdahfhkeeemdiaaGreat.Rl
open Go.RowKit Go.Sort Pg
set_option linter.unusedVariables false
set_option linter.unusedSimpArgs false

/-- The first messages of what is spread: that the view changes. -/
def SpOwn (x : World) (lo : Nat) (p1 : Option Addr) (d1 : Nat) (r : Rp) : Prop := ∃ T, MsOwn x lo (.slice p1 (allM r ⟨3, 0, 0, r.v, 0, [], 0⟩).length d1) T (allM r ⟨3, 0, 0, r.v, 0, [], 0⟩)
theorem SpOwn.kept {x y : World} {lo : Nat} {p1 : Option Addr} {d1 : Nat} {r : Rp} (h : SpOwn x lo p1 d1 r) (hb : Below x.heap.size x y) : SpOwn y lo p1 d1 r := by
  obtain ⟨T, h⟩ := h
  exact ⟨T, h.kept hb⟩
theorem SpOwn.of {x : World} {lo : Nat} {p1 : Option Addr} {d1 : Nat} {r : Rp} {T : List Mx} (h : MsOwn x lo (.slice p1 T.length d1) T (allM r ⟨3, 0, 0, r.v, 0, [], 0⟩)) : SpOwn x lo p1 d1 r := ⟨T, by have e := h.len; rw [← e]; exact h⟩
def GSq (r : Rp) (b lo : Nat) (i : Nat) (x : World) (v : Value) : Prop := match i with
  | 0 => v = .pointer (some ⟨b, 0, none⟩)
  | 1 => v = .pointer (some ⟨b, 0, none⟩)
  | 2 => v = .pointer (some ⟨b, 0, none⟩)
  | 3 => v = .pointer (some ⟨b, 0, none⟩)
  | 4 => v = .int .i64 r.id
  | 5 => v = .pointer (some ⟨b, 0, none⟩)
  | 6 => v = .pointer (some ⟨b, 0, none⟩)
  | 7 => v = .pointer (some ⟨b, 2, none⟩)
  | 8 => v = .int .i64 r.v
  | 9 => v = .agg #[.int .i64 3, .int .i64 r.id, .int .i64 0, .int .i64 r.v, .int .i64 0, .slice none 0 0, .int .i64 0]
  | 10 => ∃ (p1 : Option Addr) (d1 : Nat), v = .slice p1 (allM r ⟨3, 0, 0, r.v, 0, [], 0⟩).length d1 ∧ SpOwn x lo p1 d1 r
  | _ => True
theorem GSq.keep {r : Rp} {b lo : Nat} {x y : World} (hb : Below x.heap.size x y) (j : Nat) (v : Value) (hj : j < 11) (h : GSq r b lo j x v) : GSq r b lo j y v := by
  rcases (show j = 0 ∨ j = 1 ∨ j = 2 ∨ j = 3 ∨ j = 4 ∨ j = 5 ∨ j = 6 ∨ j = 7 ∨ j = 8 ∨ j = 9 ∨ j = 10 by omega) with rfl | rfl | rfl | rfl | rfl | rfl | rfl | rfl | rfl | rfl | rfl
  · exact h
  · exact h
  · exact h
  · exact h
  · exact h
  · exact h
  · exact h
  · exact h
  · exact h
  · exact h
  · obtain ⟨p1, d1, h1, h2⟩ := h; exact ⟨p1, d1, h1, h2.kept hb⟩
end Go.Proofs.YtdahfhkeeemdiaaGreat.Rl
namespace Go.Proofs.YtdahfhkeeemdiaaGreat.Rl
open Go.RowKit Go.Sort
set_option linter.unusedVariables false
set_option linter.unusedSimpArgs false

/-- A row of messages whose blocks lie from lo to hi. -/
structure MsF (lo hi : Nat) (v : Value) (T : List Mx) (W : World) : Prop where
  row : HasM W lo v T
  logs : Logs W lo T
  ap : ∀ x ∈ T, ap v x.u
  top : ∀ k, Bl (v :: T.map Mx.u) k → k < hi
theorem MsF.got {lo hi : Nat} {v : Value} {T : List Mx} {W : World} (h : MsF lo hi v T W) : TeGot W v T := ⟨h.row.sls, fun x hx => (h.logs.l x hx).sls⟩
theorem MsF.low {lo hi : Nat} {v : Value} {T : List Mx} {W : World} (h : MsF lo hi v T W) : ∀ k, Bl (v :: T.map Mx.u) k → lo ≤ k ∧ k < hi := fun k hk => ⟨by
    obtain ⟨y, hy, hk⟩ := hk
    rcases List.mem_cons.1 hy with rfl | hy
    · exact h.row.from k hk
    · obtain ⟨x, hx, rfl⟩ := List.mem_map.1 hy
      exact (h.logs.l x hx).from k hk, h.top k hk⟩
theorem Liv.ms {W : World} {lo hi : Nat} {v : Value} {T : List Mx} (h : MsF lo hi v T W) (ht : hi ≤ W.heap.size) : Liv lo hi (MsF lo hi v T) W :=
  ⟨h, ht, fun W' hW _ => ⟨h.row.off fun k hk => hW k (h.low k (Bl.of (List.mem_cons_self ..) hk)).1 (h.top k (Bl.of (List.mem_cons_self ..) hk)),
    ⟨fun x hx => (h.logs.l x hx).off fun k hk => hW k (h.low k (Bl.of (List.mem_cons_of_mem _ (List.mem_map.2 ⟨x, hx, rfl⟩)) hk)).1 (h.top k (Bl.of (List.mem_cons_of_mem _ (List.mem_map.2 ⟨x, hx, rfl⟩)) hk)), h.logs.ap⟩, h.ap, h.top⟩⟩
theorem MsF.of {W : World} {lo : Nat} {v : Value} {T : List Mx} {L : List Ms} (h : MsOwn W lo v T L) : MsF lo W.heap.size v T W :=
  ⟨h.row.has, h.logs, h.ap, fun k hk => by
    obtain ⟨y, hy, hk⟩ := hk
    rcases List.mem_cons.1 hy with rfl | hy
    · exact h.row.under k hk
    · obtain ⟨x, hx, rfl⟩ := List.mem_map.1 hy
      exact (h.logs.l x hx).under k hk⟩
def kR (r : Rp) : Int := ((1 : Nat) : Int) + (cR r : Int)
theorem kR_nn (r : Rp) : ¬ kR r < 0 := by unfold kR; omega
/-- Few messages, none with a log beyond bounds. -/
structure Few (L : List Ms) : Prop where
  n : L.length ≤ 6
  l : ∀ m ∈ L, m.l.length ≤ 1048576
theorem Few.each {L : List Ms} (h : Few L) {T : List Mx} (i : T.map (·.m) = L) : ∀ x ∈ T, x.m.l.length ≤ 1048576 := fun x hx => h.l _ (by rw [← i]; exact List.mem_map.2 ⟨x, hx, rfl⟩)
theorem Few.len {L : List Ms} (h : Few L) {T : List Mx} (i : T.map (·.m) = L) : T.length ≤ 6 := by have := h.n; rw [← i, List.length_map] at this; exact this
theorem sum_few (l : List Nat) (h : ∀ x ∈ l, x ≤ 1048576) : l.sum ≤ l.length * 1048576 := by
  induction l with
  | nil => simp
  | cons a t ih =>
    have h1 := h a (List.mem_cons_self ..)
    have h2 := ih fun x hx => h x (List.mem_cons_of_mem _ hx)
    simp only [List.sum_cons, List.length_cons]
    omega
theorem Few.cT {L : List Ms} (h : Few L) {T : List Mx} (i : T.map (·.m) = L) : 1 + cT T ≤ 50000000 := by
  rw [cT_of i]
  have h1 := sum_few (L.map fun m => m.l.length) (fun x hx => by obtain ⟨m, hm, rfl⟩ := List.mem_map.1 hx; exact h.l m hm)
  rw [List.length_map] at h1
  have h2 := h.n
  have h3 : L.length * 1048576 ≤ 6 * 1048576 := Nat.mul_le_mul_right _ h2
  omega
def GRsp (r : Rp) (pl4 : Option Addr) (ql4 : Nat) (po4 : Option Addr) (qo4 : Nat) (pc4 : Option Addr) (qc4 : Nat) (pt4 : Option Addr) (qt4 : Nat) (plA : Option Addr) (qlA : Nat) (poA : Option Addr) (qoA : Nat) (pcA : Option Addr) (qcA : Nat) (ptA : Option Addr) (qtA : Nat) (i : Nat) (x : World) (v : Value) : Prop := match i with
  | 0 => v = .agg #[.int .i64 r.id, .int .i64 r.p, .int .i64 r.v, .bool r.n, .int .i64 r.la, .slice pl4 r.l.length ql4, .int .i64 r.c, .slice po4 r.ok.length qo4, .slice pc4 r.ch.length qc4, .slice pt4 r.te.length qt4]
  | 1 => v = .agg #[.int .i64 r.id, .int .i64 r.p, .int .i64 r.v, .bool r.n, .int .i64 r.la, .slice plA r.l.length qlA, .int .i64 r.c, .slice poA r.ok.length qoA, .slice pcA r.ch.length qcA, .slice ptA r.te.length qtA]
  | 2 => ∃ (p1 : Option Addr) (d1 : Nat) (p2 : Option Addr) (d2 : Nat) (p3 : Option Addr) (d3 : Nat) (p4 : Option Addr) (d4 : Nat), v = .agg #[.int .i64 r.id, .int .i64 r.p, .int .i64 r.v, .bool r.n, .int .i64 r.la, .slice p1 r.l.length d1, .int .i64 r.c, .slice p2 r.ok.length d2, .slice p3 r.ch.length d3, .slice p4 r.te.length d4] ∧ GotM x r p1 d1 p2 d2 p3 d3 p4 d4
  | 3 => v = .bool true
  | _ => True
theorem GRsp.keep {r : Rp} {pl4 : Option Addr} {ql4 : Nat} {po4 : Option Addr} {qo4 : Nat} {pc4 : Option Addr} {qc4 : Nat} {pt4 : Option Addr} {qt4 : Nat} {plA : Option Addr} {qlA : Nat} {poA : Option Addr} {qoA : Nat} {pcA : Option Addr} {qcA : Nat} {ptA : Option Addr} {qtA : Nat} {x y : World} (hb : Below x.heap.size x y) (j : Nat) (v : Value) (hj : j < 4) (h : GRsp r pl4 ql4 po4 qo4 pc4 qc4 pt4 qt4 plA qlA poA qoA pcA qcA ptA qtA j x v) : GRsp r pl4 ql4 po4 qo4 pc4 qc4 pt4 qt4 plA qlA poA qoA pcA qcA ptA qtA j y v := by
  rcases (show j = 0 ∨ j = 1 ∨ j = 2 ∨ j = 3 by omega) with rfl | rfl | rfl | rfl
  · exact h
  · exact h
  · obtain ⟨p1, d1, p2, d2, p3, d3, p4, d4, h1, h2⟩ := h; exact ⟨p1, d1, p2, d2, p3, d3, p4, d4, h1, h2.kept hb⟩
  · exact h
end Go.Proofs.YtdahfhkeeemdiaaGreat.Rl

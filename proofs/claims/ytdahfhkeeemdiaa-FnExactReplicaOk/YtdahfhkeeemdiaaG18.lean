/-
  Slices of texts that came in or that a call made: how they are read; the laws' own helpers for them.
  Texts in rows: the laws' helpers on them: measured, turned, compared, marked, held.
  Rows of messages, and a replica, in memory.
-/
import Derived.Test.YtdahfhkeeemdiaaG08
import Derived.Test.YtdahfhkeeemdiaaG11
import Derived.SliceStrings
import Derived.Deep.QuietTactic
import Derived.BigQuiet
import Derived.Laws.OwnMore
import Derived.Lib.QuietBelow
import Derived.Test.YtdahfhkeeemdiaaG17
import Derived.Deep.RegionWith
import Derived.Laws.IdiomStrings
import Derived.Test.YtdahfhkeeemdiaaG10
import Derived.Test.YtdahfhkeeemdiaaG15
import Derived.Test.YtdahfhkeeemdiaaG13
import Derived.Test.YtdahfhkeeemdiaaG14
namespace Go.Proofs.Ytdahfhkeeemdiaa
open Go.RowKit

theorem Try.info9p : (Try.prog.info? 9).map (fun i => (i.zero, i.size, i.bytes)) = some (some (.string ⟨#[]⟩), 1, 16) := by kernel_rfl
/-- The slice v holds the texts l. -/
def StrsP (w : World) (v : Value) (l : List ByteArray) : Prop := ∃ a cap, v = .slice a l.length cap ∧ l.length ≤ cap ∧ cap ≤ maxLen ∧ (0 < l.length → ∃ g o, a = some ⟨g, o, none⟩ ∧ g < w.heap.size ∧ ∀ j (hj : j < l.length), w.cell? ⟨g, o + j, none⟩ = some (.string l[j]))
theorem StrsP.kept {w w' : World} {v : Value} {l : List ByteArray} (h : StrsP w v l) (hb : Below w.heap.size w w') : StrsP w' v l := by
  obtain ⟨a, cap, h1, h2, h3, h4⟩ := h
  refine ⟨a, cap, h1, h2, h3, fun h0 => ?_⟩
  obtain ⟨g, o, h5, h6, h7⟩ := h4 h0
  exact ⟨g, o, h5, Nat.lt_of_lt_of_le h6 hb.size, fun j hj => (hb.cell (p := ⟨g, o + j, none⟩) h6).trans (h7 j hj)⟩
theorem StrsP.drew {w : World} {v : Value} {l : List ByteArray} (h : StrsP w v l) : StrsP w.drew v l := h
/-- The value v owns the texts l, in a block from B on. -/
def OwnsP (w : World) (B : Nat) (v : Value) (l : List ByteArray) : Prop := w.ownsRow B 9 1 v l.length (l.map Value.string)
/-- Turned so far: the first k, and behind them empty ones. -/
def turnP (l : List ByteArray) (k : Nat) : List ByteArray := l.take k ++ List.replicate (l.length - k) ⟨#[]⟩
theorem turnP_length (l : List ByteArray) (k : Nat) (hk : k ≤ l.length) : (turnP l k).length = l.length := by unfold turnP; simp; omega
theorem turnP_all (l : List ByteArray) : turnP l l.length = l := by simp [turnP]
theorem turnP_next (l : List ByteArray) (k : Nat) (hk : k < l.length) : (turnP l k).set k l[k] = turnP l (k + 1) := by
  unfold turnP
  have e : (l.take k).length = k := by simp; omega
  rw [List.set_append_right _ _ (by omega), e, Nat.sub_self, List.take_succ_eq_append_getElem hk, List.append_assoc]
  congr 1
  rw [show l.length - k = (l.length - (k + 1)) + 1 from by omega, List.replicate_succ, List.set_cons_zero]
  rfl
theorem OwnsP.put {w : World} {B g cap n : Nat} {l : List ByteArray} (h : OwnsP w B (.slice (some ⟨g, 0, none⟩) n cap) l) (hn : n = l.length) (k : Nat) (s : ByteArray) : OwnsP (w.setCell ⟨g, k, none⟩ (.string s)) B (.slice (some ⟨g, 0, none⟩) n cap) (l.set k s) := by
  subst hn
  rcases h.2 with ⟨e, _⟩ | ⟨g', cap', cur, e, hb, hg, hc, hm, hz, rest⟩
  · cases e
  · obtain ⟨rfl, rfl⟩ : g = g' ∧ cap = cap' := by simpa using e
    refine ⟨by simp, .inr ⟨g, cap, cur.setIfInBounds k (.string s), by simp, hb, ?_, by simpa using hc, hm, by simpa using hz, ?_⟩⟩
    · rw [setCell_eq_setRow w g k cur 9 (0, 0) _ hg]
      exact setRow_heap w g cur _ 9 _ hg
    · simp only [Nat.mul_one] at rest ⊢
      rw [List.length_set, Array.toList_setIfInBounds, List.take_set, rest, List.map_set]
theorem OwnsP.at {w : World} {B g cap n : Nat} {l : List ByteArray} (h : OwnsP w B (.slice (some ⟨g, 0, none⟩) n cap) l) (hn : n = l.length) (k : Nat) (hk : k < l.length) : w.cell? ⟨g, k, none⟩ = some (.string l[k]) ∧ w.frozen? ⟨g, k, none⟩ = false := by
  subst hn
  refine ⟨?_, World.ownsRow.frozenAt h k⟩
  have := World.ownsRow.cells h (g := g) rfl k (.string l[k]) (by rw [List.getElem?_map, List.getElem?_eq_getElem hk]; rfl)
  rw [addr_add, Nat.zero_add] at this
  exact this
theorem made_strs (n : Nat) : (madeCells (Value.cells (.string ⟨#[]⟩)) (n * 1)).toList = (List.replicate n (⟨#[]⟩ : ByteArray)).map Value.string := by
  have e := toList_madeCells_one (.string ⟨#[]⟩) (n * 1)
  rw [show (Value.string ⟨#[]⟩).cells = #[.string ⟨#[]⟩] from rfl, e, Nat.mul_one, List.map_replicate]
theorem make_strs (w : World) (n : Nat) (hn : n ≤ 1048576) : ∃ w', (Instr.makeSlice 22 (.int .i64 (n : Int)) (.int .i64 (n : Int))).run Try.prog w = .ok (.slice (some ⟨w.heap.size, 0, none⟩) n n) w' ∧ OwnsP w' w.heap.size (.slice (some ⟨w.heap.size, 0, none⟩) n n) (List.replicate n ⟨#[]⟩) ∧ Below w.heap.size w w' := by
  obtain ⟨i0, hi, hz0, hz1, hz2⟩ := info_parts Try.info9p
  obtain ⟨w0, hrun, hown, hgr⟩ := run_make_full (P := Try.prog) w w.heap.size 22 9 i0 (.string ⟨#[]⟩) 1 Try.underlying22 hi hz0 hz1 .i64 .i64 n (by rw [hz2]; omega) (by unfold maxLen; omega) (Nat.le_refl _)
  rw [made_strs] at hown
  refine ⟨w0, hrun, ?_, (Below.refl _ w).grown hgr (Nat.le_refl _) (fun j hj => by cases hj)⟩
  unfold OwnsP
  rw [List.length_replicate]
  exact hown

set_option maxHeartbeats 1000000 in
theorem lawToS (v : Value) (l : List ByteArray) (w : World) (h : StrsP w v l) (hl : l.length ≤ 1048576) :
    Calls Try.prog 28 #[v] w fun e w' => ∃ u, e = .returned u ∧ OwnsP w' w.heap.size u l ∧ Below w.heap.size w w' := by
  obtain ⟨a, cap, rfl, h1, h2, h3⟩ := h
  unfold maxLen at h2
  obtain ⟨w0, hrun, hown0, hb0⟩ := make_strs w l.length hl
  have h00 : turnP l 0 = List.replicate l.length ⟨#[]⟩ := by simp [turnP]
  rw [← h00] at hown0
  have H3 : Hid _ := h3
  clear h3 h00
  go_enter Try.func28, Try.ntmps28
  go_wp2
  go_loopw [4] (fun i wr => ∃ k : Nat, k ≤ l.length ∧ i = .int .i64 k ∧ OwnsP wr w.heap.size (.slice (some ⟨w.heap.size, 0, none⟩) l.length l.length) (turnP l k) ∧ Below w.heap.size w wr) (fun i _ => l.length - (intOf i).toNat)
  case atStart => exact ⟨0, Nat.zero_le _, rfl, hown0, hb0⟩
  case round =>
    clear hown0 hb0 hrun
    obtain ⟨k, hk, rfl, ho, hb⟩ := hrel
    by_cases hlt : k < l.length
    · obtain ⟨g, o, rfl, hg, hc⟩ := H3.out (by omega)
      have c1 := (hb.cell (p := ⟨g, o + k, none⟩) hg).trans (hc k hlt)
      have hnx := turnP_next l k hlt
      have hln := turnP_length l k hk
      generalize l[k] = f at c1 hnx
      generalize hl2 : turnP l (k + 1) = l2 at hnx
      generalize turnP l k = l1 at ho hnx hln
      obtain ⟨d1, d2⟩ := ho.at hln.symm k (by omega)
      have hp := ho.put hln.symm k f
      rw [hnx] at hp
      have HP : Hid _ := hp
      clear hc hp hnx
      go_wp2
      go_roundw
      case rel => exact ⟨k + 1, by omega, by go_num, by rw [hl2]; exact HP.out, hb.setCell (Nat.le_refl _) _⟩
      case measure => simp [intOf]; omega
    · obtain rfl : k = l.length := by omega
      rw [turnP_all] at ho
      go_wp2
      go_ret
      exact ⟨_, rfl, ho, hb⟩

end Go.Proofs.Ytdahfhkeeemdiaa
namespace Go.Proofs.Ytdahfhkeeemdiaa
open Go.RowKit Go.Sort
set_option linter.unusedVariables false
set_option linter.unusedSimpArgs false

abbrev OwnsX := OwnsE txtE 9
abbrev HasX := HasE txtE 9
theorem cellsX_map (l : List ByteArray) : cellsE txtE l = l.map Value.string := by
  induction l with
  | nil => rfl
  | cons x l ih => rw [cellsE_cons, ih]; rfl
theorem OwnsP.x {w : World} {B : Nat} {v : Value} {l : List ByteArray} (h : OwnsP w B v l) : OwnsX w B v l := by
  show w.ownsRow B 9 1 v l.length (cellsE txtE l)
  rw [cellsX_map]
  exact h
theorem cellsX_at (l : List ByteArray) (j : Nat) (hj : j < l.length) : (cellsE txtE l)[j]? = some (.string l[j]) := by
  have := cellsE_at txtE l j hj 0 (by decide)
  rw [show j * txtE.k + 0 = j from by show j * 1 + 0 = j; omega] at this
  exact this
theorem Sls.txt {w : World} {v : Value} {l : List ByteArray} (h : Sls txtE w v l) : ∃ a cap, v = .slice a l.length cap ∧ l.length ≤ cap ∧ cap ≤ maxLen ∧ (0 < l.length → ∃ g o, a = some ⟨g, o, Option.none⟩ ∧ g < w.heap.size ∧
    ∀ j (hj : j < l.length), w.cell? ⟨g, o + j, Option.none⟩ = some (.string l[j])) := by
  obtain ⟨a, cap, rfl, h1, h2, h3⟩ := h
  refine ⟨a, cap, rfl, h1, h2, fun h0 => ?_⟩
  obtain ⟨g, o, rfl, hg, hc⟩ := h3 h0
  exact ⟨g, o, rfl, hg, fun j hj => hc j _ (cellsX_at l j hj)⟩
set_option maxHeartbeats 400000 in
theorem eqTxt (va vb : Value) (l : List ByteArray) (w : World) (ha : Sls txtE w va l) (hb : Sls txtE w vb l) (hl : l.length ≤ 1048576) :
    Calls Try.prog 38 #[va, vb] w fun e w' => e = .returned (.bool true) ∧ Grew w w' := by
  obtain ⟨a, ca, rfl, a1, a2, a3⟩ := ha.txt
  obtain ⟨b, cb, rfl, b1, b2, b3⟩ := hb.txt
  clear ha hb
  have hmx := mixed
  go_enter Try.func38, Try.ntmps38
  go_wp2
  go_loopw [5] (fun i wr => ∃ (k : Nat), k ≤ l.length ∧ i = .int .i64 k ∧ Grew w wr) (fun i _ => l.length - (intOf i).toNat)
  case atStart => exact ⟨0, Nat.zero_le _, rfl, Grew.refl _⟩
  case round =>
    obtain ⟨k, hk, rfl, hg⟩ := hrel
    by_cases hlt : k < l.length
    · obtain ⟨ga, oa, rfl, hga, hca⟩ := a3 (by omega)
      obtain ⟨gb, ob, rfl, hgb, hcb⟩ := b3 (by omega)
      have c1 := hg.cell (hca k hlt) hga
      have c3 := hg.cell (hcb k hlt) hgb
      generalize l[k] = f at c1 c3
      clear a3 b3 hca hcb
      go_wp2
      go_quiet (fail)
      have hg2 : Grew w (wr.drewN nq) := hg.drewN _
      generalize wr.drewN nq = w1 at hg2 ⊢
      go_wp2
      go_roundw
      case rel => exact ⟨k + 1, by omega, by go_num, hg2⟩
      case measure => simp [intOf]; omega
    · go_wp2
      go_ret
      exact ⟨rfl, hg⟩
theorem toTxt (v : Value) (l : List ByteArray) (w : World) (h : Sls txtE w v l) (hl : l.length ≤ 1048576) :
    Calls Try.prog 28 #[v] w fun e w' => ∃ u, e = .returned u ∧ OwnsX w' w.heap.size u l ∧ Below w.heap.size w w' :=
  (lawToS v l w h.txt hl).mono fun e w' ⟨u, h1, h2, h3⟩ => ⟨u, h1, h2.x, h3⟩
end Go.Proofs.Ytdahfhkeeemdiaa
namespace Go.Proofs.Ytdahfhkeeemdiaa.Rl
open Go.RowKit Go.Sort
set_option linter.unusedVariables false
set_option linter.unusedSimpArgs false

/-- A message and where its log lies. -/
structure Mx where
  m : Ms
  pl : Option Addr
  cl : Nat
def Mx.u (x : Mx) : Value := .slice x.pl x.m.l.length x.cl
def mxC (x : Mx) : List Value := [.int .i64 x.m.k, .int .i64 x.m.f, .int .i64 x.m.t, .int .i64 x.m.v, .int .i64 x.m.la, x.u, .int .i64 x.m.c]
def mxE : Enc Mx where
  k := 7
  pos := by decide
  c := mxC
  len := fun _ => rfl
  one := fun x u hu => by
    simp only [mxC, Mx.u, List.mem_cons, List.not_mem_nil, or_false] at hu
    rcases hu with rfl | rfl | rfl | rfl | rfl | rfl | rfl <;> rfl
/-- The cells of the j-th message of a row. -/
theorem mxCells {w : World} {g q n cap : Nat} {L : List Mx} (h : Sls mxE w (.slice (some ⟨g, q, none⟩) n cap) L) {j : Nat} (hj : j < L.length) :
    (w.cell? ⟨g, q + j * 7, none⟩ = some (.int .i64 L[j].m.k) ∧ w.cell? ⟨g, q + j * 7 + 1, none⟩ = some (.int .i64 L[j].m.f) ∧ w.cell? ⟨g, q + j * 7 + 2, none⟩ = some (.int .i64 L[j].m.t) ∧ w.cell? ⟨g, q + j * 7 + 3, none⟩ = some (.int .i64 L[j].m.v) ∧ w.cell? ⟨g, q + j * 7 + 4, none⟩ = some (.int .i64 L[j].m.la) ∧ w.cell? ⟨g, q + j * 7 + 5, none⟩ = some L[j].u ∧ w.cell? ⟨g, q + j * 7 + 6, none⟩ = some (.int .i64 L[j].m.c)) := by
  obtain ⟨a, cap', hv, h1, h2, h3⟩ := h
  obtain ⟨g', q', ha, hg, hc⟩ := h3 (by omega)
  cases hv
  cases ha
  have k : ∀ i (hi : i < 7) u, (mxC L[j])[i]? = some u → w.cell? ⟨g, q + j * 7 + i, none⟩ = some u := fun i hi u hu => by
    have := hc (j * 7 + i) u ((cellsE_at mxE L j hj i hi).trans hu)
    rw [← Nat.add_assoc] at this
    exact this
  exact ⟨k 0 (by decide) _ rfl, k 1 (by decide) _ rfl, k 2 (by decide) _ rfl, k 3 (by decide) _ rfl, k 4 (by decide) _ rfl, k 5 (by decide) _ rfl, k 6 (by decide) _ rfl⟩
theorem mxAt {w : World} {a : Option Addr} {n cap : Nat} {L : List Mx} (h : Sls mxE w (.slice a n cap) L) (hl : 0 < L.length) : ∃ g q, a = some ⟨g, q, none⟩ := by
  obtain ⟨a', cap', hv, _, _, h3⟩ := h
  obtain ⟨g, q, ha, _⟩ := h3 hl
  cases hv
  exact ⟨g, q, ha⟩
/-- A message as a value, its log at u. -/
def msA (m : Ms) (u : Value) : Value := .agg #[.int .i64 m.k, .int .i64 m.f, .int .i64 m.t, .int .i64 m.v, .int .i64 m.la, u, .int .i64 m.c]
def MsGot (w : World) (u : Value) (m : Ms) : Prop := Sls txtE w u m.l
theorem MsGot.kept {w w' : World} {u : Value} {m : Ms} (h : MsGot w u m) (hb : Below w.heap.size w w') : MsGot w' u m := Sls.kept h hb
theorem MsGot.alloc {w : World} {u : Value} {m : Ms} (h : MsGot w u m) (o : Obj) : MsGot (w.alloc o) u m := h.kept ((Below.refl _ w).alloc (Nat.le_refl _) o)
/-- A row of messages at v. -/
def TeGot (w : World) (v : Value) (T : List Mx) : Prop := Sls mxE w v T ∧ ∀ x ∈ T, MsGot w x.u x.m
theorem TeGot.kept {w w' : World} {v : Value} {T : List Mx} (h : TeGot w v T) (hb : Below w.heap.size w w') : TeGot w' v T := ⟨h.1.kept hb, fun x hx => (h.2 x hx).kept hb⟩
theorem TeGot.alloc {w : World} {v : Value} {T : List Mx} (h : TeGot w v T) (o : Obj) : TeGot (w.alloc o) v T := h.kept ((Below.refl _ w).alloc (Nat.le_refl _) o)
/-- Where the four slices of a replica lie. -/
structure Rv where
  l : Value
  ok : Value
  ch : Value
  te : Value
  T : List Mx
def rpA (r : Rp) (u : Rv) : Value := .agg #[.int .i64 r.id, .int .i64 r.p, .int .i64 r.v, .bool r.n, .int .i64 r.la, u.l, .int .i64 r.c, u.ok, u.ch, u.te]
structure RpGot (w : World) (u : Rv) (r : Rp) : Prop where
  l : Sls txtE w u.l r.l
  ok : Sls intE w u.ok r.ok
  ch : Sls intE w u.ch r.ch
  t : u.T.map (·.m) = r.te
  te : TeGot w u.te u.T
theorem RpGot.kept {w w' : World} {u : Rv} {r : Rp} (h : RpGot w u r) (hb : Below w.heap.size w w') : RpGot w' u r := ⟨h.l.kept hb, h.ok.kept hb, h.ch.kept hb, h.t, h.te.kept hb⟩
theorem RpGot.alloc {w : World} {u : Rv} {r : Rp} (h : RpGot w u r) (o : Obj) : RpGot (w.alloc o) u r := h.kept ((Below.refl _ w).alloc (Nat.le_refl _) o)
theorem RpGot.tlen {w : World} {u : Rv} {r : Rp} (h : RpGot w u r) : u.T.length = r.te.length := by rw [← h.t, List.length_map]
/-- Three values that are no replica's slices. -/
def rv0 : Rv := ⟨.slice none 0 0, .slice none 0 0, .slice none 0 0, .slice none 0 0, []⟩
theorem RpGot.none (w : World) : RpGot w rv0 noRp where
  l := Sls.nil (Nat.zero_le _)
  ok := Sls.nil (Nat.zero_le _)
  ch := Sls.nil (Nat.zero_le _)
  t := rfl
  te := ⟨Sls.nil (Nat.zero_le _), fun x hx => by cases hx⟩
end Go.Proofs.Ytdahfhkeeemdiaa.Rl

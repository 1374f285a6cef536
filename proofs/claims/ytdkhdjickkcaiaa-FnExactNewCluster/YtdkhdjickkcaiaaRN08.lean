/-
  A struct in a block, whatever its cells.
  Rows of messages, and a replica, in memory.
  The laws' marks in rows of numbers, from any start; how much such a row holds.
-/
import Derived.Test.YtdkhdjickkcaiaaRN02
import Derived.Test.YtdkhdjickkcaiaaRN07
import Derived.Test.YtdkhdjickkcaiaaRN06
import Derived.Test.YtdkhdjickkcaiaaRows
import Derived.Test.YtdkhdjickkcaiaaRN01
import Derived.WalkKit
import Derived.WalkSpells
import Derived.Laws.RangeAny
import Derived.Below
import Derived.Deep.RegionWith
import Derived.Lib.AppendStr
import Derived.Lib.ItoaNum
import Derived.StillTail
import Derived.Deep.QuietTactic
import Derived.Lib.QuietBelow
import Derived.BigQuiet
import Derived.Test.YtdkhdjickkcaiaaRN03
import Derived.Test.YtdkhdjickkcaiaaRN04
namespace Go.Proofs.Ytdkhdjickkcaiaa
open Go.RowKit
set_option linter.unusedVariables false

/-- All its cells stored, one behind the other. -/
def putL (w : World) (b : Nat) : List Value → Nat → World
  | [], _ => w
  | v :: vs, i => putL (w.setCell ⟨b, i, Option.none⟩ v) b vs (i + 1)
theorem putL_block (b : Nat) : ∀ (vs : List Value) (i : Nat) (w : World) (k : Nat), k ≠ b → (putL w b vs i).heap[k]? = w.heap[k]?
  | [], _, _, _, _ => rfl
  | v :: vs, i, w, k, hk => (putL_block b vs (i + 1) _ k hk).trans (Below.heap_setCell _ _ _ _ hk)
theorem putL_below {B b : Nat} (hB : B ≤ b) {w0 : World} : ∀ (vs : List Value) (i : Nat) {w : World}, Below B w0 w → Below B w0 (putL w b vs i)
  | [], _, _, h => h
  | v :: vs, i, _, h => putL_below hB vs (i + 1) (h.setCell (p := ⟨b, i, Option.none⟩) hB v)
end Go.Proofs.Ytdkhdjickkcaiaa
namespace Go.Proofs.Ytdkhdjickkcaiaa.Rl
open Go.RowKit Go.Sort
set_option linter.unusedVariables false
set_option linter.unusedSimpArgs false

/-- A message and where its log lies. -/
structure Mx where
  m : Ms
  pl : Option Addr
  cl : Nat
def Mx.u (x : Mx) : Value := .slice x.pl x.m.l.length x.cl
def mxC (x : Mx) : List Value := [.int .i64 x.m.k, .int .i64 x.m.f, .int .i64 x.m.t, .int .i64 x.m.v, .int .i64 x.m.la, x.u, .int .i64 x.m.c]
def mxE : Enc Mx where
  k := 7
  pos := by decide
  c := mxC
  len := fun _ => rfl
  one := fun x u hu => by
    simp only [mxC, Mx.u, List.mem_cons, List.not_mem_nil, or_false] at hu
    rcases hu with rfl | rfl | rfl | rfl | rfl | rfl | rfl <;> rfl
/-- The cells of the j-th message of a row. -/
theorem mxCells {w : World} {g q n cap : Nat} {L : List Mx} (h : Sls mxE w (.slice (some ⟨g, q, none⟩) n cap) L) {j : Nat} (hj : j < L.length) :
    (w.cell? ⟨g, q + j * 7, none⟩ = some (.int .i64 L[j].m.k) ∧ w.cell? ⟨g, q + j * 7 + 1, none⟩ = some (.int .i64 L[j].m.f) ∧ w.cell? ⟨g, q + j * 7 + 2, none⟩ = some (.int .i64 L[j].m.t) ∧ w.cell? ⟨g, q + j * 7 + 3, none⟩ = some (.int .i64 L[j].m.v) ∧ w.cell? ⟨g, q + j * 7 + 4, none⟩ = some (.int .i64 L[j].m.la) ∧ w.cell? ⟨g, q + j * 7 + 5, none⟩ = some L[j].u ∧ w.cell? ⟨g, q + j * 7 + 6, none⟩ = some (.int .i64 L[j].m.c)) := by
  obtain ⟨a, cap', hv, h1, h2, h3⟩ := h
  obtain ⟨g', q', ha, hg, hc⟩ := h3 (by omega)
  cases hv
  cases ha
  have k : ∀ i (hi : i < 7) u, (mxC L[j])[i]? = some u → w.cell? ⟨g, q + j * 7 + i, none⟩ = some u := fun i hi u hu => by
    have := hc (j * 7 + i) u ((cellsE_at mxE L j hj i hi).trans hu)
    rw [← Nat.add_assoc] at this
    exact this
  exact ⟨k 0 (by decide) _ rfl, k 1 (by decide) _ rfl, k 2 (by decide) _ rfl, k 3 (by decide) _ rfl, k 4 (by decide) _ rfl, k 5 (by decide) _ rfl, k 6 (by decide) _ rfl⟩
theorem mxAt {w : World} {a : Option Addr} {n cap : Nat} {L : List Mx} (h : Sls mxE w (.slice a n cap) L) (hl : 0 < L.length) : ∃ g q, a = some ⟨g, q, none⟩ := by
  obtain ⟨a', cap', hv, _, _, h3⟩ := h
  obtain ⟨g, q, ha, _⟩ := h3 hl
  cases hv
  exact ⟨g, q, ha⟩
/-- A message as a value, its log at u. -/
def msA (m : Ms) (u : Value) : Value := .agg #[.int .i64 m.k, .int .i64 m.f, .int .i64 m.t, .int .i64 m.v, .int .i64 m.la, u, .int .i64 m.c]
def MsGot (w : World) (u : Value) (m : Ms) : Prop := Sls txtE w u m.l
theorem MsGot.kept {w w' : World} {u : Value} {m : Ms} (h : MsGot w u m) (hb : Below w.heap.size w w') : MsGot w' u m := Sls.kept h hb
/-- A row of messages at v. -/
def TeGot (w : World) (v : Value) (T : List Mx) : Prop := Sls mxE w v T ∧ ∀ x ∈ T, MsGot w x.u x.m
theorem TeGot.kept {w w' : World} {v : Value} {T : List Mx} (h : TeGot w v T) (hb : Below w.heap.size w w') : TeGot w' v T := ⟨h.1.kept hb, fun x hx => (h.2 x hx).kept hb⟩
/-- Where the four slices of a replica lie. -/
structure Rv where
  l : Value
  ok : Value
  ch : Value
  te : Value
  T : List Mx
def rpA (r : Rp) (u : Rv) : Value := .agg #[.int .i64 r.id, .int .i64 r.p, .int .i64 r.v, .bool r.n, .int .i64 r.la, u.l, .int .i64 r.c, u.ok, u.ch, u.te]
structure RpGot (w : World) (u : Rv) (r : Rp) : Prop where
  l : Sls txtE w u.l r.l
  ok : Sls intE w u.ok r.ok
  ch : Sls intE w u.ch r.ch
  t : u.T.map (·.m) = r.te
  te : TeGot w u.te u.T
theorem RpGot.kept {w w' : World} {u : Rv} {r : Rp} (h : RpGot w u r) (hb : Below w.heap.size w w') : RpGot w' u r := ⟨h.l.kept hb, h.ok.kept hb, h.ch.kept hb, h.t, h.te.kept hb⟩
theorem RpGot.tlen {w : World} {u : Rv} {r : Rp} (h : RpGot w u r) : u.T.length = r.te.length := by rw [← h.t, List.length_map]
end Go.Proofs.Ytdkhdjickkcaiaa.Rl
namespace Go.Proofs.Ytdkhdjickkcaiaa
open Go.RowKit Go.Sort
set_option linter.unusedVariables false
set_option linter.unusedSimpArgs false

def mkU (s j : Nat) : Int := (s : Int) + (j : Int)
def markedU (s : Nat) (l : List Int) (k : Nat) : List Int := (List.range k).map (mkU s) ++ l.drop k
def marksU (s n : Nat) : List Int := (List.range n).map (mkU s)
theorem markedU_length (s : Nat) (l : List Int) (k : Nat) (h : k ≤ l.length) : (markedU s l k).length = l.length := by unfold markedU; simp; omega
theorem markedU_zero (s : Nat) (l : List Int) : markedU s l 0 = l := by simp [markedU]
theorem markedU_all (s : Nat) (l : List Int) : markedU s l l.length = marksU s l.length := by simp [markedU, marksU]
theorem markedU_next (s : Nat) (l : List Int) (k : Nat) (h : k < l.length) : (markedU s l k).set k (mkU s k) = markedU s l (k + 1) := by
  unfold markedU
  have e : ((List.range k).map (mkU s)).length = k := by simp
  rw [List.set_append_right _ _ (by omega), e, Nat.sub_self, List.range_succ, List.map_append, List.append_assoc]
  congr 1
  rw [List.drop_eq_getElem_cons h, List.set_cons_zero]
  rfl
theorem marksU_length (s n : Nat) : (marksU s n).length = n := by simp [marksU]
theorem marksU_at (s n j : Nat) (h : j < (marksU s n).length) : (marksU s n)[j] = mkU s j := by simp [marksU]
set_option maxHeartbeats 1000000 in
theorem markNu (s : Nat) (hs2 : s ≤ 50000000) (v : Value) (l : List Int) (B : Nat) (w : World) (h : HasN w B v l) (hl : l.length ≤ 1048576) :
    Calls Try.prog 65 #[v, .int .i64 (s : Int)] w fun e w' => e = .returned (.int .i64 ((s : Int) + (l.length : Int))) ∧ HasN w' B v (marksU s l.length) ∧ w.grownBy w' v.ownBlock := by
  have hh := h
  obtain ⟨a, cap, rfl, h1, h2, h3⟩ := hh.form
  unfold maxLen at h2
  go_enter Try.func65, Try.ntmps65
  go_wp2
  go_loopw [1, 5] (fun m i wr => ∃ k : Nat, k ≤ l.length ∧ i = .int .i64 k ∧ m = .int .i64 ((s : Int) + (k : Int)) ∧ HasN wr B (.slice a l.length cap) (markedU s l k) ∧ w.grownBy wr (Value.slice a l.length cap).ownBlock) (fun _ i _ => l.length - (intOf i).toNat)
  case atStart => exact ⟨0, Nat.zero_le _, rfl, by simp, by rw [markedU_zero]; exact h, grownE_self _ _⟩
  case round =>
    clear h hh
    obtain ⟨k, hk, rfl, rfl, ho, hgr⟩ := hrel
    by_cases hlt : k < l.length
    · obtain ⟨g, rfl⟩ := h3 (by omega)
      have hml := markedU_length s l k hk
      have hnx := markedU_next s l k hlt
      generalize hl2 : markedU s l (k + 1) = l2 at hnx
      generalize markedU s l k = l1 at ho hml hnx
      have d1 := hasN_at ho k (by omega)
      have f1 := ho.free k
      have ho2 := hasN_put ho (j := k) (by omega) (mkU s k)
      have hg2 := grownE_put hgr k (.int .i64 (mkU s k))
      rw [hnx] at ho2
      unfold mkU at ho2 hg2
      have HO : Hid _ := ho2
      have HG : Hid _ := hg2
      clear ho hgr h3 ho2 hg2
      go_wp2
      go_roundw
      case rel => exact ⟨k + 1, by omega, by go_num, by go_num, by rw [hl2]; exact HO.out, HG.out⟩
      case measure => simp [intOf]; omega
    · obtain rfl : k = l.length := by omega
      rw [markedU_all] at ho
      go_wp2
      go_ret
      exact ⟨rfl, ho, hgr⟩
set_option maxHeartbeats 1000000 in
theorem heldNu (s : Nat) (hs2 : s ≤ 50000000) (v : Value) (n : Nat) (w : World) (h : Sls intE w v (marksU s n)) (hl : n ≤ 1048576) :
    Calls Try.prog 66 #[v, .int .i64 (s : Int)] w fun e w' => e = .returned (.int .i64 ((s : Int) + (n : Int))) ∧ w = w' := by
  have hml := marksU_length s n
  obtain ⟨a, cap, rfl, h1, h2, h3⟩ := h.one
  unfold maxLen at h2
  rw [hml] at h1 ⊢
  have hat : ∀ (j : Nat) (hj : j < n), ∃ g o, a = some ⟨g, o, Option.none⟩ ∧ w.cell? ⟨g, o + j, Option.none⟩ = some (.int .i64 ((s : Int) + (j : Int))) := fun j hj => by
    obtain ⟨g, o, ha, _, hc⟩ := h3 (by omega)
    have := hc j (by omega)
    rw [marksU_at] at this
    exact ⟨g, o, ha, this⟩
  clear h h3 hml
  go_enter Try.func66, Try.ntmps66
  go_wp2
  go_loop [1, 5] (fun m i => ∃ k : Nat, k ≤ n ∧ i = .int .i64 k ∧ m = .int .i64 ((s : Int) + (k : Int))) (fun _ i => n - (intOf i).toNat)
  case atStart => exact ⟨0, Nat.zero_le _, rfl, by simp⟩
  case round =>
    obtain ⟨k, hk, rfl, rfl⟩ := hrel
    by_cases hlt : k < n
    · obtain ⟨g, o, rfl, c1⟩ := hat k hlt
      clear hat
      go_wp2
      go_round
      case rel => exact ⟨k + 1, by omega, by go_num, by go_num⟩
      case measure => simp [intOf]; omega
    · obtain rfl : k = n := by omega
      go_wp2
      go_ret
      exact ⟨rfl, rfl⟩
end Go.Proofs.Ytdkhdjickkcaiaa

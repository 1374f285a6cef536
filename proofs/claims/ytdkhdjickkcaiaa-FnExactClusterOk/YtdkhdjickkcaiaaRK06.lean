/-
  Calls that lay new blocks and draw, and turn nothing that lay before.
  Rows of numbers in memory, and the laws' own helpers on them.
  Rows of numbers that came in, opened.
-/
import Derived.Test.YtdkhdjickkcaiaaRows
import Derived.WalkKit
import Derived.WalkSpells
import Derived.Below
import Derived.Laws.IdiomStrings
import Derived.Shelf.SlSortCmp.QuietGrown
import Derived.Test.YtdkhdjickkcaiaaRK04
import Derived.Test.YtdkhdjickkcaiaaRK05
import Derived.Laws.OwnMore
import Derived.ChangeSlices
import Derived.ChangeArms
import Derived.ProofKit
import Derived.OpenShut
import Derived.ShutString
import Derived.Lib.SmallJoins
import Derived.Lib.LaidU8
namespace Go.Proofs.Ytdkhdjickkcaiaa
open Go.RowKit Go.Sort

theorem mixed : Try.prog.follows .mixedOrders = true := by kernel_rfl

/-- New blocks and draws alone. -/
def Grew (w w' : World) : Prop := Below w.heap.size w w' ∧ w.drawn ≤ w'.drawn
theorem Grew.refl (w : World) : Grew w w := ⟨Below.refl _ _, Nat.le_refl _⟩
theorem Grew.trans {a b c : World} (h : Grew a b) (k : Grew b c) : Grew a c :=
  ⟨⟨k.1.os.trans h.1.os, k.1.tape.trans h.1.tape, k.1.output.trans h.1.output, Nat.le_trans h.1.size k.1.size, fun i hi => (k.1.block i (Nat.lt_of_lt_of_le hi h.1.size)).trans (h.1.block i hi)⟩, Nat.le_trans h.2 k.2⟩
theorem Grew.alloc {w w' : World} (h : Grew w w') (o : Obj) : Grew w (w'.alloc o) := ⟨h.1.alloc h.1.size o, h.2⟩
theorem Grew.drewN {w w' : World} (h : Grew w w') (n : Nat) : Grew w (w'.drewN n) := ⟨⟨h.1.os, h.1.tape, h.1.output, h.1.size, h.1.block⟩, Nat.le_trans h.2 (Nat.le_add_right _ _)⟩
theorem Grew.low {w w' : World} (h : Grew w w') : Below w.heap.size w w' := h.1
theorem Grew.cell {w x : World} {b j : Nat} {v : Value} (hb : Grew w x) (h : w.cell? ⟨b, j, none⟩ = some v) (hB : b < w.heap.size) : x.cell? ⟨b, j, none⟩ = some v := (hb.1.cell (p := ⟨b, j, none⟩) hB).trans h
end Go.Proofs.Ytdkhdjickkcaiaa
namespace Go.Proofs.Ytdkhdjickkcaiaa
open Go.RowKit Go.Sort
set_option linter.unusedVariables false

def intE : Enc Int where
  k := 1
  pos := by decide
  c := fun x => [.int .i64 x]
  len := fun _ => rfl
  one := fun x u hu => by simp at hu; subst hu; rfl
theorem Try.infoN2 : (Try.prog.info? 2).map (fun i => (i.zero, i.size, i.bytes)) = some (some (.int .i64 0), 1, 8) := by kernel_rfl
theorem cellsN_at (l : List Int) (j : Nat) (hj : j < l.length) : (cellsE intE l)[j]? = some (.int .i64 l[j]) := by
  have := cellsE_at intE l j hj 0 (by decide)
  rw [show j * intE.k + 0 = j from by show j * 1 + 0 = j; omega] at this
  exact this
theorem Sls.one {w : World} {v : Value} {l : List Int} (h : Sls intE w v l) : ∃ a cap, v = .slice a l.length cap ∧ l.length ≤ cap ∧ cap ≤ maxLen ∧ (0 < l.length → ∃ g o, a = some ⟨g, o, Option.none⟩ ∧ g < w.heap.size ∧
    ∀ j (hj : j < l.length), w.cell? ⟨g, o + j, Option.none⟩ = some (.int .i64 l[j])) := by
  obtain ⟨a, cap, rfl, h1, h2, h3⟩ := h
  refine ⟨a, cap, rfl, h1, h2, fun h0 => ?_⟩
  obtain ⟨g, o, rfl, hg, hc⟩ := h3 h0
  exact ⟨g, o, rfl, hg, fun j hj => hc j _ (cellsN_at l j hj)⟩
abbrev OwnsN := OwnsE intE 2
abbrev HasN := HasE intE 2
theorem ownsN_at {w : World} {B g n cap : Nat} {l : List Int} (h : OwnsN w B (.slice (some ⟨g, 0, Option.none⟩) n cap) l) (j : Nat) (hj : j < l.length) : w.cell? ⟨g, j, Option.none⟩ = some (.int .i64 l[j]) := by
  have := h.at (i := 0) hj (u := .int .i64 l[j]) rfl
  rw [show j * intE.k + 0 = j from by show j * 1 + 0 = j; omega] at this
  exact this
theorem ownsN_put {w : World} {B g n cap : Nat} {l : List Int} (hn : n = l.length) (h : OwnsN w B (.slice (some ⟨g, 0, Option.none⟩) n cap) l) {j : Nat} (hj : j < l.length) (x : Int) : OwnsN (w.setCell ⟨g, j, Option.none⟩ (.int .i64 x)) B (.slice (some ⟨g, 0, Option.none⟩) n cap) (l.set j x) := by
  have := h.put hn hj (i := 0) (by decide) (.int .i64 x) x rfl
  rw [show j * intE.k + 0 = j from by show j * 1 + 0 = j; omega] at this
  exact this
/-! ### The laws' helpers -/
theorem madeN (n : Nat) : (madeCells (Value.cells (.int .i64 0)) (n * 1)).toList = cellsE intE (List.replicate n 0) := by
  rw [Nat.mul_one]
  apply List.ext_getElem?
  intro j
  by_cases hj : j < n
  · have e : (madeCells (Value.cells (.int .i64 0)) n).toList[j]? = some (.int .i64 0) := by simp [madeCells, hj, Value.cells, Nat.mod_one]
    rw [e, cellsN_at (List.replicate n 0) j (by simpa using hj)]
    simp
  · rw [List.getElem?_eq_none (by simp [madeCells]; omega), List.getElem?_eq_none (by rw [cellsE_length]; simp; show n * 1 ≤ j; omega)]
/-- Turned so far: the first k, and behind them zero ones. -/
def turnN (l : List Int) (k : Nat) : List Int := l.take k ++ List.replicate (l.length - k) 0
theorem turnN_length (l : List Int) (k : Nat) (hk : k ≤ l.length) : (turnN l k).length = l.length := by unfold turnN; simp; omega
theorem turnN_zero (l : List Int) : turnN l 0 = List.replicate l.length 0 := by simp [turnN]
theorem turnN_all (l : List Int) : turnN l l.length = l := by simp [turnN]
theorem turnN_next (l : List Int) (k : Nat) (hk : k < l.length) : (turnN l k).set k l[k] = turnN l (k + 1) := by
  unfold turnN
  have e : (l.take k).length = k := by simp; omega
  rw [List.set_append_right _ _ (by omega), e, Nat.sub_self, List.take_succ_eq_append_getElem hk, List.append_assoc]
  congr 1
  rw [show l.length - k = (l.length - (k + 1)) + 1 from by omega, List.replicate_succ, List.set_cons_zero]
  rfl
set_option maxHeartbeats 400000 in
theorem toNum (v : Value) (l : List Int) (w : World) (h : Sls intE w v l) (hl : l.length ≤ 1048576) :
    Calls Try.prog 78 #[v] w fun e w' => ∃ u, e = .returned u ∧ OwnsN w' w.heap.size u l ∧ Below w.heap.size w w' := by
  obtain ⟨a, cap, rfl, h1, h2, h3⟩ := h.one
  clear h
  unfold maxLen at h2
  obtain ⟨i0, hi, hz0, hz1, hz2⟩ := info_parts Try.infoN2
  obtain ⟨w0, hrun, hown, hgr⟩ := run_make_full (P := Try.prog) w w.heap.size 41 2 i0 (.int .i64 0) 1 Try.underlying41 hi hz0 hz1 .i64 .i64 l.length (by rw [hz2]; omega) (by unfold maxLen; omega) (Nat.le_refl _)
  rw [madeN, ← turnN_zero] at hown
  have hown0 : OwnsN w0 w.heap.size (.slice (some ⟨w.heap.size, 0, Option.none⟩) l.length l.length) (turnN l 0) := by
    show w0.ownsRow _ _ 1 _ _ _
    rw [turnN_length l 0 (Nat.zero_le _)]
    exact hown
  have hb0 : Below w.heap.size w w0 := (Below.refl _ w).grown hgr (Nat.le_refl _) (fun j hj => by cases hj)
  have hs0 : w.heap.size < w0.heap.size := hown0.under _ rfl
  clear hown hgr hi hz0 hz1 hz2
  go_enter Try.func78, Try.ntmps78
  go_wp2
  go_loopw [4] (fun i wr => ∃ k : Nat, k ≤ l.length ∧ i = .int .i64 k ∧ OwnsN wr w.heap.size (.slice (some ⟨w.heap.size, 0, Option.none⟩) l.length l.length) (turnN l k) ∧ Below w.heap.size w wr) (fun i _ => l.length - (intOf i).toNat)
  case atStart => exact ⟨0, Nat.zero_le _, rfl, hown0, hb0⟩
  case round =>
    clear hown0 hb0 hs0 hrun
    obtain ⟨k, hk, rfl, ho, hb⟩ := hrel
    by_cases hlt : k < l.length
    · obtain ⟨g, o, rfl, hg, hc⟩ := h3 (by omega)
      have c1 := (hb.cell (p := ⟨g, o + k, Option.none⟩) hg).trans (hc k hlt)
      have hnx := turnN_next l k hlt
      have hln := turnN_length l k hk
      generalize l[k] = f at c1 hnx
      generalize hl2 : turnN l (k + 1) = l2 at hnx
      generalize turnN l k = l1 at ho hnx hln
      have f1 := ho.free hln.symm k
      have d1 := ownsN_at ho k (by omega)
      have hp := ownsN_put hln.symm ho (j := k) (by omega) f
      rw [hnx] at hp
      have HP : Hid _ := hp
      have HB : Hid (Below w.heap.size w (wr.setCell ⟨w.heap.size, k, Option.none⟩ (.int .i64 f))) := hb.setCell (Nat.le_refl _) _
      clear hc h3 hp ho
      go_wp2
      go_roundw
      case rel => exact ⟨k + 1, by omega, by go_num, by rw [hl2]; exact HP.out, HB.out⟩
      case measure => simp [intOf]; omega
    · obtain rfl : k = l.length := by omega
      rw [turnN_all] at ho
      go_wp2
      go_ret
      exact ⟨_, rfl, ho, hb⟩
set_option maxHeartbeats 400000 in
theorem eqNum (va vb : Value) (l : List Int) (w : World) (ha : Sls intE w va l) (hb : Sls intE w vb l) (hl : l.length ≤ 1048576) :
    Calls Try.prog 69 #[va, vb] w fun e w' => e = .returned (.bool true) ∧ Grew w w' := by
  obtain ⟨a, ca, rfl, a1, a2, a3⟩ := ha.one
  obtain ⟨b, cb, rfl, b1, b2, b3⟩ := hb.one
  clear ha hb
  have hmx := mixed
  go_enter Try.func69, Try.ntmps69
  go_wp2
  go_loopw [5] (fun i wr => ∃ (k : Nat), k ≤ l.length ∧ i = .int .i64 k ∧ Grew w wr) (fun i _ => l.length - (intOf i).toNat)
  case atStart => exact ⟨0, Nat.zero_le _, rfl, Grew.refl _⟩
  case round =>
    obtain ⟨k, hk, rfl, hg⟩ := hrel
    by_cases hlt : k < l.length
    · obtain ⟨ga, oa, rfl, hga, hca⟩ := a3 (by omega)
      obtain ⟨gb, ob, rfl, hgb, hcb⟩ := b3 (by omega)
      have c1 := hg.cell (hca k hlt) hga
      have c3 := hg.cell (hcb k hlt) hgb
      generalize l[k] = f at c1 c3
      clear a3 b3 hca hcb
      go_wp2
      go_quiet (fail)
      have hg2 : Grew w (wr.drewN nq) := hg.drewN _
      generalize wr.drewN nq = w1 at hg2 ⊢
      go_wp2
      go_roundw
      case rel => exact ⟨k + 1, by omega, by go_num, hg2⟩
      case measure => simp [intOf]; omega
    · go_wp2
      go_ret
      exact ⟨rfl, hg⟩
end Go.Proofs.Ytdkhdjickkcaiaa
namespace Go.Proofs.Ytdkhdjickkcaiaa
open Go.RowKit Go.ChangeShapes Go.WideShapes Go.ChangeAt Go.Joins
set_option linter.unusedVariables false

theorem cell_ltO {w : World} {b o : Nat} {v : Value} (h : w.cell? ⟨b, o, Option.none⟩ = some v) : b < w.heap.size := by
  cases e : w.heap[b]? with
  | none => simp [World.cell?, e] at h
  | some x => exact (Array.getElem?_eq_some_iff.1 e).1
theorem open_nums {H : Type} {enc : TypeId × Value → H} {W : World} {base : Nat} {spare : Nat → Bool} {held : Bool} {fuel : Nat} {sa : Option Addr} {sl sc : Nat} {x : DataW H × List MemPlace}
    (h : DataW.trod enc Try.prog W base spare held fuel 41 (Value.cells (.slice sa sl sc)).toList = some x) :
    ∃ l : List Int, Sls intE W (.slice sa sl sc) l := by
  rcases open_ints Try.underlying41 Try.underlying2 (by kernel_rfl) h with ⟨hcs, _⟩ | ⟨a, l, c, zs, hcs, _, hl, hm, hz, _, hcell, hwz⟩
  · simp [Value.cells] at hcs
    obtain ⟨rfl, rfl, rfl⟩ := hcs
    exact ⟨[], Sls.nil (Nat.zero_le _)⟩
  · simp [Value.cells] at hcs
    obtain ⟨rfl, rfl, rfl⟩ := hcs
    have hlz : sl ≤ zs.length := by rw [hz]; split <;> omega
    have hlt : (zs.take sl).length = sl := by rw [List.length_take]; omega
    refine ⟨zs.take sl, some a, sc, by rw [hlt], by rw [hlt]; exact hl, hm, fun h0 => ?_⟩
    rw [hlt] at h0
    obtain ⟨b, o, sp⟩ := a
    have c0 := hcell 0 (by omega)
    have hsp : sp = Option.none := by
      have : W.cell? ⟨b, o, sp⟩ = some (.int .i64 (zs.getD 0 0)) := by simpa [Addr.add] using c0
      exact Go.Proofs.cell_spot this
    subst hsp
    have hb : b < W.heap.size := by
      rw [addr_add] at c0
      exact cell_ltO c0
    refine ⟨b, o, rfl, hb, fun j u hu => ?_⟩
    have hj : j < sl := by
      have := (List.getElem?_eq_some_iff.1 hu).1
      rw [cellsE_length, hlt] at this
      simpa [intE] using this
    rw [cellsN_at _ j (by rw [hlt]; exact hj)] at hu
    have c1 := hcell j (by omega)
    rw [addr_add] at c1
    rw [c1, ← hu]
    have hjz : j < zs.length := by omega
    simp [List.getD, hjz]
end Go.Proofs.Ytdkhdjickkcaiaa

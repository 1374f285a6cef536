/-
  The specification's policy by its contracts: keys, moments, what is a right object.
  Rows of numbers in memory, and the laws' own helpers on them.
  Rows of any elements: appended, and where the new row lies.
-/
import Derived.Test.YtdahfhkeeemdiaaK06
import Derived.Test.YtdahfhkeeemdiaaK08
import Derived.Test.YtdahfhkeeemdiaaK04
import Derived.Test.YtdahfhkeeemdiaaK05
import Derived.Test.YtdahfhkeeemdiaaRows
import Derived.Test.YtdahfhkeeemdiaaK03
import Derived.WalkKit
import Derived.WalkSpells
import Derived.Test.YtdahfhkeeemdiaaK02
import Derived.Laws.RangeAny
import Derived.Test.YtdahfhkeeemdiaaK07
import Derived.Deep.RegionWith
import Derived.Test.YtdahfhkeeemdiaaK10
import Derived.Test.YtdahfhkeeemdiaaK09
import Derived.Lib.SmallJoins
import Derived.Laws.OwnMore
import Derived.Maps.AppendAt
namespace Go.Proofs.Ytdahfhkeeemdiaa
open Go.RowKit Go.Sort
/-- The cells of an object in block b. -/
structure ObB (w : World) (b : Nat) (o : Ob) (v u : Value) : Prop where
  c0 : w.cell? ⟨b, 0, none⟩ = some (.string o.k)
  c1 : w.cell? ⟨b, 1, none⟩ = some v
  c2 : w.cell? ⟨b, 2, none⟩ = some (.int .i64 o.r.s)
  c3 : w.cell? ⟨b, 3, none⟩ = some u
  c4 : w.cell? ⟨b, 4, none⟩ = some (.string o.r.b)
  c5 : w.cell? ⟨b, 5, none⟩ = some (.int .i64 o.asked)
  c6 : w.cell? ⟨b, 6, none⟩ = some (.int .i64 o.got)
  c7 : w.cell? ⟨b, 7, none⟩ = some (.int .i64 o.ep)
  fz : ∀ k, w.frozen? ⟨b, k, none⟩ = false
  hi : b < w.heap.size
theorem ObB.new (w : World) (o : Ob) (v u : Value) (t : TypeId) : ObB (w.alloc (.cells #[.string o.k, v, .int .i64 o.r.s, u, .string o.r.b, .int .i64 o.asked, .int .i64 o.got, .int .i64 o.ep] t)) w.heap.size o v u where
  c0 := World.cell?_alloc_mark _ _ _ _ _
  c1 := World.cell?_alloc_mark _ _ _ _ _
  c2 := World.cell?_alloc_mark _ _ _ _ _
  c3 := World.cell?_alloc_mark _ _ _ _ _
  c4 := World.cell?_alloc_mark _ _ _ _ _
  c5 := World.cell?_alloc_mark _ _ _ _ _
  c6 := World.cell?_alloc_mark _ _ _ _ _
  c7 := World.cell?_alloc_mark _ _ _ _ _
  fz := fun k => by rw [World.frozen?_alloc_mark]; simp
  hi := by simp
theorem ObB.next {w w' : World} {b : Nat} {o : Ob} {v u : Value} (h : ObB w b o v u) (hb : Below w.heap.size w w') : ObB w' b o v u := by
  have e : w'.heap[b]? = w.heap[b]? := hb.block b h.hi
  have k : ∀ k, w'.cell? ⟨b, k, none⟩ = w.cell? ⟨b, k, none⟩ := fun k => World.cell?_of_block (a := ⟨b, k, none⟩) e
  exact ⟨(k 0).trans h.c0, (k 1).trans h.c1, (k 2).trans h.c2, (k 3).trans h.c3, (k 4).trans h.c4, (k 5).trans h.c5, (k 6).trans h.c6, (k 7).trans h.c7, fun j => (World.frozen?_of_block (a := ⟨b, j, none⟩) e).trans (h.fz j), Nat.lt_of_lt_of_le h.hi hb.size⟩
/-- What a walk is told of an object that came in. -/
def ObIn (w : World) (v u : Value) (o : Ob) : Prop := Fits w v o.l ∧ RsIn w u o.r ∧ o.k.size ≤ 1048576
theorem ObIn.kept {w w' : World} {v u : Value} {o : Ob} (h : ObIn w v u o) (hb : Below w.heap.size w w') : ObIn w' v u o := ⟨h.1.kept hb, h.2.1.kept hb, h.2.2⟩
theorem Fits.form {w : World} {v : Value} {l : List Fl} (h : Fits w v l) : ∃ a cap, v = .slice a l.length cap := by
  obtain ⟨a, cap, hv, _⟩ := h.1
  exact ⟨a, cap, hv⟩
end Go.Proofs.Ytdahfhkeeemdiaa
namespace Go.Proofs.Ytdahfhkeeemdiaa
open Go.RowKit Go.Sort
set_option linter.unusedVariables false

def intE : Enc Int where
  k := 1
  pos := by decide
  c := fun x => [.int .i64 x]
  len := fun _ => rfl
  one := fun x u hu => by simp at hu; subst hu; rfl
theorem Try.infoN2 : (Try.prog.info? 2).map (fun i => (i.zero, i.size, i.bytes)) = some (some (.int .i64 0), 1, 8) := by kernel_rfl
theorem cellsN_at (l : List Int) (j : Nat) (hj : j < l.length) : (cellsE intE l)[j]? = some (.int .i64 l[j]) := by
  have := cellsE_at intE l j hj 0 (by decide)
  rw [show j * intE.k + 0 = j from by show j * 1 + 0 = j; omega] at this
  exact this
theorem Sls.one {w : World} {v : Value} {l : List Int} (h : Sls intE w v l) : ∃ a cap, v = .slice a l.length cap ∧ l.length ≤ cap ∧ cap ≤ maxLen ∧ (0 < l.length → ∃ g o, a = some ⟨g, o, Option.none⟩ ∧ g < w.heap.size ∧
    ∀ j (hj : j < l.length), w.cell? ⟨g, o + j, Option.none⟩ = some (.int .i64 l[j])) := by
  obtain ⟨a, cap, rfl, h1, h2, h3⟩ := h
  refine ⟨a, cap, rfl, h1, h2, fun h0 => ?_⟩
  obtain ⟨g, o, rfl, hg, hc⟩ := h3 h0
  exact ⟨g, o, rfl, hg, fun j hj => hc j _ (cellsN_at l j hj)⟩
abbrev OwnsN := OwnsE intE 2
abbrev HasN := HasE intE 2
theorem ownsN_at {w : World} {B g n cap : Nat} {l : List Int} (h : OwnsN w B (.slice (some ⟨g, 0, Option.none⟩) n cap) l) (j : Nat) (hj : j < l.length) : w.cell? ⟨g, j, Option.none⟩ = some (.int .i64 l[j]) := by
  have := h.at (i := 0) hj (u := .int .i64 l[j]) rfl
  rw [show j * intE.k + 0 = j from by show j * 1 + 0 = j; omega] at this
  exact this
theorem hasN_at {w : World} {B g n cap : Nat} {l : List Int} (h : HasN w B (.slice (some ⟨g, 0, Option.none⟩) n cap) l) (j : Nat) (hj : j < l.length) : w.cell? ⟨g, j, Option.none⟩ = some (.int .i64 l[j]) := by
  have := h.at (i := 0) hj (u := .int .i64 l[j]) rfl
  rw [show j * intE.k + 0 = j from by show j * 1 + 0 = j; omega] at this
  exact this
theorem hasN_put {w : World} {B g n cap : Nat} {l : List Int} (h : HasN w B (.slice (some ⟨g, 0, Option.none⟩) n cap) l) {j : Nat} (hj : j < l.length) (x : Int) : HasN (w.setCell ⟨g, j, Option.none⟩ (.int .i64 x)) B (.slice (some ⟨g, 0, Option.none⟩) n cap) (l.set j x) := by
  have := h.put hj (i := 0) (by decide) (.int .i64 x) x rfl
  rw [show j * intE.k + 0 = j from by show j * 1 + 0 = j; omega] at this
  exact this

/-! ### The laws' helpers -/
theorem madeN (n : Nat) : (madeCells (Value.cells (.int .i64 0)) (n * 1)).toList = cellsE intE (List.replicate n 0) := by
  rw [Nat.mul_one]
  apply List.ext_getElem?
  intro j
  by_cases hj : j < n
  · have e : (madeCells (Value.cells (.int .i64 0)) n).toList[j]? = some (.int .i64 0) := by simp [madeCells, hj, Value.cells, Nat.mod_one]
    rw [e, cellsN_at (List.replicate n 0) j (by simpa using hj)]
    simp
  · rw [List.getElem?_eq_none (by simp [madeCells]; omega), List.getElem?_eq_none (by rw [cellsE_length]; simp; show n * 1 ≤ j; omega)]
set_option maxHeartbeats 400000 in
theorem eqNum (va vb : Value) (l : List Int) (w : World) (ha : Sls intE w va l) (hb : Sls intE w vb l) (hl : l.length ≤ 1048576) :
    Calls Try.prog 39 #[va, vb] w fun e w' => e = .returned (.bool true) ∧ Grew w w' := by
  obtain ⟨a, ca, rfl, a1, a2, a3⟩ := ha.one
  obtain ⟨b, cb, rfl, b1, b2, b3⟩ := hb.one
  clear ha hb
  have hmx := mixed
  go_enter Try.func39, Try.ntmps39
  go_wp2
  go_loopw [5] (fun i wr => ∃ (k : Nat), k ≤ l.length ∧ i = .int .i64 k ∧ Grew w wr) (fun i _ => l.length - (intOf i).toNat)
  case atStart => exact ⟨0, Nat.zero_le _, rfl, Grew.refl _⟩
  case round =>
    obtain ⟨k, hk, rfl, hg⟩ := hrel
    by_cases hlt : k < l.length
    · obtain ⟨ga, oa, rfl, hga, hca⟩ := a3 (by omega)
      obtain ⟨gb, ob, rfl, hgb, hcb⟩ := b3 (by omega)
      have c1 := hg.cell (hca k hlt) hga
      have c3 := hg.cell (hcb k hlt) hgb
      generalize l[k] = f at c1 c3
      clear a3 b3 hca hcb
      go_wp2
      go_quiet (fail)
      have hg2 : Grew w (wr.drewN nq) := hg.drewN _
      generalize wr.drewN nq = w1 at hg2 ⊢
      go_wp2
      go_roundw
      case rel => exact ⟨k + 1, by omega, by go_num, hg2⟩
      case measure => simp [intOf]; omega
    · go_wp2
      go_ret
      exact ⟨rfl, hg⟩
end Go.Proofs.Ytdahfhkeeemdiaa
namespace Go.Proofs.Ytdahfhkeeemdiaa
open Go.RowKit
set_option linter.unusedVariables false

/-- Texts, numbers, flags. -/
def txtE : Enc ByteArray where
  k := 1
  pos := by decide
  c := fun x => [.string x]
  len := fun _ => rfl
  one := fun x u hu => by simp at hu; subst hu; rfl
end Go.Proofs.Ytdahfhkeeemdiaa

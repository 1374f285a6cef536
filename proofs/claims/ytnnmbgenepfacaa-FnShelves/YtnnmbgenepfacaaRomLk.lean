/-
  The laws' helpers on Shelves and texts: alike.
-/
import Derived.Test.YtnnmbgenepfacaaRomV
import Derived.Test.YtnnmbgenepfacaaRpO
namespace Go.Proofs.Ytnnmbgenepfacaa
open Go.RowKit Go.Sort Rom
set_option linter.unusedVariables false
set_option linter.unusedSimpArgs false

theorem cellsL_at (l : List ByteArray) (j : Nat) (hj : j < l.length) : (cellsE txtE l)[j]? = some (.string l[j]) := by
  have := cellsE_at txtE l j hj 0 (by decide)
  rw [show j * txtE.k + 0 = j from by show j * 1 + 0 = j; omega] at this
  exact this
theorem Sls.txtL {w : World} {v : Value} {l : List ByteArray} (h : Sls txtE w v l) : ∃ a cap, v = .slice a l.length cap ∧ l.length ≤ cap ∧ cap ≤ maxLen ∧ (0 < l.length → ∃ g o, a = some ⟨g, o, Option.none⟩ ∧ g < w.heap.size ∧
    ∀ j (hj : j < l.length), w.cell? ⟨g, o + j, Option.none⟩ = some (.string l[j])) := by
  obtain ⟨a, cap, rfl, h1, h2, h3⟩ := h
  refine ⟨a, cap, rfl, h1, h2, fun h0 => ?_⟩
  obtain ⟨g, o, rfl, hg, hc⟩ := h3 h0
  exact ⟨g, o, rfl, hg, fun j hj => hc j _ (cellsL_at l j hj)⟩
set_option maxHeartbeats 400000 in
theorem likeTx (va vb : Value) (l : List ByteArray) (w : World) (ha : Sls txtE w va l) (hb : Sls txtE w vb l) (hl : l.length ≤ 1048576) :
    Calls Try.prog 34 #[va, vb] w fun e w' => e = .returned (.bool true) ∧ Grew w w' := by
  obtain ⟨a, ca, rfl, a1, a2, a3⟩ := ha.txtL
  obtain ⟨b, cb, rfl, b1, b2, b3⟩ := hb.txtL
  clear ha hb
  have hmx := mixed
  go_enter Try.func34, Try.ntmps34
  go_wp2
  go_loopw [5] (fun i wr => ∃ (k : Nat), k ≤ l.length ∧ i = .int .i64 k ∧ Grew w wr) (fun i _ => l.length - (intOf i).toNat)
  case atStart => exact ⟨0, Nat.zero_le _, rfl, Grew.refl _⟩
  case round =>
    obtain ⟨k, hk, rfl, hg⟩ := hrel
    by_cases hlt : k < l.length
    · obtain ⟨ga, oa, rfl, hga, hca⟩ := a3 (by omega)
      obtain ⟨gb, ob, rfl, hgb, hcb⟩ := b3 (by omega)
      have c1 := hg.cell (hca k hlt) hga
      have c3 := hg.cell (hcb k hlt) hgb
      generalize l[k] = f at c1 c3
      clear a3 b3 hca hcb
      go_wp2
      go_quiet (fail)
      have hg2 : Grew w (wr.drewN nq) := hg.drewN _
      generalize wr.drewN nq = w1 at hg2 ⊢
      go_wp2
      go_roundw
      case rel => exact ⟨k + 1, by omega, by go_num, hg2⟩
      case measure => simp [intOf]; omega
    · go_wp2
      go_ret
      exact ⟨rfl, hg⟩
set_option maxHeartbeats 1000000 in
theorem likeSh (q : Int) (va vb : Value) (l : List It) (w : World) (ha : Sls itE w va l) (hb : Sls itE w vb l) (hl : l.length ≤ 1048576) :
    Calls Try.prog 33 #[shV q va, shV q vb] w fun e w' => e = .returned (.bool true) ∧ Below w.heap.size w w' := by
  obtain ⟨a, ca, rfl, a1, a2, a3⟩ := ha.itm
  obtain ⟨b, cb, rfl, b1, b2, b3⟩ := hb.itm
  unfold shV
  clear ha hb
  have hmx := mixed
  have dq : (q != q) = false := by simp
  have B2 : Below w.heap.size w ((w.alloc (.cells #[.int .i64 q, .slice a l.length ca] 34)).alloc (.cells #[.int .i64 q, .slice b l.length cb] 34)) := ((Below.refl _ w).alloc (Nat.le_refl _) _).alloc (by simp) _
  have z1 : ((w.alloc (.cells #[.int .i64 q, .slice a l.length ca] 34)).alloc (.cells #[.int .i64 q, .slice b l.length cb] 34)).cell? ⟨w.heap.size, 1, none⟩ = some (.slice a l.length ca) := by simp [go_sem]
  have z2 : ((w.alloc (.cells #[.int .i64 q, .slice a l.length ca] 34)).alloc (.cells #[.int .i64 q, .slice b l.length cb] 34)).cell? ⟨w.heap.size + 1, 1, none⟩ = some (.slice b l.length cb) := by simp [go_sem]
  have hz : ((w.alloc (.cells #[.int .i64 q, .slice a l.length ca] 34)).alloc (.cells #[.int .i64 q, .slice b l.length cb] 34)).heap.size = w.heap.size + 2 := by simp
  go_enter Try.func33, Try.ntmps33
  go_wp2
  generalize hW : (w.alloc (.cells #[.int .i64 q, .slice a l.length ca] 34)).alloc (.cells #[.int .i64 q, .slice b l.length cb] 34) = W at *
  have G0 : Grew W W := Grew.refl _
  have HB : Hid (Below w.heap.size w W) := B2
  clear B2 hW
  go_loopw [5] (fun i wr => ∃ (k : Nat), k ≤ l.length ∧ i = .int .i64 k ∧ Grew W wr) (fun i _ => l.length - (intOf i).toNat)
  case atStart => exact ⟨0, Nat.zero_le _, rfl, G0⟩
  case round =>
    obtain ⟨k, hk, rfl, hg⟩ := hrel
    have x1 := hg.cell z1 (by show w.heap.size < _; omega)
    have x2 := hg.cell z2 (by show w.heap.size + 1 < _; omega)
    by_cases hlt : k < l.length
    · obtain ⟨ga, oa, rfl, hga, hca⟩ := a3 (by omega)
      obtain ⟨gb, ob, rfl, hgb, hcb⟩ := b3 (by omega)
      have c1 := hg.cell ((HB.out.cell (p := ⟨ga, oa + k * 2, none⟩) hga).trans (hca k hlt).1) (by show ga < _; omega)
      have c2 := hg.cell ((HB.out.cell (p := ⟨ga, oa + k * 2 + 1, none⟩) hga).trans (hca k hlt).2) (by show ga < _; omega)
      have c3 := hg.cell ((HB.out.cell (p := ⟨gb, ob + k * 2, none⟩) hgb).trans (hcb k hlt).1) (by show gb < _; omega)
      have c4 := hg.cell ((HB.out.cell (p := ⟨gb, ob + k * 2 + 1, none⟩) hgb).trans (hcb k hlt).2) (by show gb < _; omega)
      generalize l[k] = f at c1 c2 c3 c4
      clear a3 b3 hca hcb z1 z2
      go_wp2
      go_quiet (fail)
      have hg2 : Grew W (wr.drewN nq) := hg.drewN _
      generalize wr.drewN nq = w1 at hg2 ⊢
      go_wp2
      go_roundw
      case rel => exact ⟨k + 1, by omega, by go_num, hg2⟩
      case measure => simp [intOf]; omega
    · go_wp2
      go_ret
      exact ⟨rfl, HB.out.trans (hg.low.mono HB.out.size)⟩
end Go.Proofs.Ytnnmbgenepfacaa

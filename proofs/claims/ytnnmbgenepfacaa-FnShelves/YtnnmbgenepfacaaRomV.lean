/-
  The laws' helpers on Shelves.
-/
import Derived.Test.YtnnmbgenepfacaaRomU
namespace Go.Proofs.Ytnnmbgenepfacaa
open Go.RowKit Go.Sort Rom
set_option linter.unusedVariables false
set_option linter.unusedSimpArgs false

theorem eqSh (q : Int) (va vb : Value) (l : List It) (w : World) (ha : Sls itE w va l) (hb : Sls itE w vb l) (hl : l.length ≤ 1048576) :
    Calls Try.prog 44 #[shV q va, shV q vb] w fun e w' => e = .returned (.bool true) ∧ Grew w w' := by
  obtain ⟨a, ca, rfl, _⟩ := ha.itm
  obtain ⟨b, cb, rfl, _⟩ := hb.itm
  unfold shV
  have B2 : Below w.heap.size w ((w.alloc (.cells #[.int .i64 q, .slice a l.length ca] 34)).alloc (.cells #[.int .i64 q, .slice b l.length cb] 34)) := ((Below.refl _ w).alloc (Nat.le_refl _) _).alloc (by simp) _
  have G2 : Hid (Grew w ((w.alloc (.cells #[.int .i64 q, .slice a l.length ca] 34)).alloc (.cells #[.int .i64 q, .slice b l.length cb] 34))) := ((Grew.refl w).alloc _).alloc _
  have hE := eqItS _ _ l _ (ha.kept B2) (hb.kept B2) hl
  have dq : (q != q) = false := by simp
  clear ha hb B2
  go_enter Try.func44, Try.ntmps44
  go_wp2_with fail
  refine hE.mono ?_
  rintro e w1 ⟨rfl, hg1⟩
  have G1 : Hid (Grew w w1) := G2.out.trans hg1
  clear hg1 hE G2
  go_wp2
  go_ret
  exact ⟨rfl, G1.out⟩
theorem toSh (q : Int) (v : Value) (l : List It) (w : World) (h : Sls itE w v l) (hl : l.length ≤ 1048576) :
    Calls Try.prog 43 #[shV q v] w fun e w' => ∃ u, e = .returned (shV q u) ∧ OwnsI8 w' w.heap.size u l ∧ Below w.heap.size w w' := by
  obtain ⟨a, cap, rfl, _⟩ := h.itm
  unfold shV
  have H : Hid (Sls itE w (.slice a l.length cap) l) := h
  clear h
  go_enter Try.func43, Try.ntmps43
  go_wp2_with fail
  refine (toItS _ l _ (H.out.kept (by repeat (first | exact Below.refl _ _ | refine Below.alloc ?_ (by simp <;> omega) _ | refine Below.setCell ?_ (by simp <;> omega) _))) hl).mono ?_
  rintro e w1 ⟨u, rfl, ho1, hb1⟩
  obtain ⟨au, cu, rfl, _⟩ := ho1.form
  have f0 := hb1.cell (p := ⟨w.heap.size + 1 + 1, 0, none⟩) (by simp)
  have f1 := hb1.cell (p := ⟨w.heap.size + 1 + 1, 1, none⟩) (by simp)
  have f2 := hb1.cell (p := ⟨w.heap.size + 1, 0, none⟩) (by simp <;> omega)
  have f3 := hb1.cell (p := ⟨w.heap.size + 1, 1, none⟩) (by simp <;> omega)
  have z0 := hb1.frozen (p := ⟨w.heap.size + 1 + 1, 0, none⟩) (by simp)
  have z1 := hb1.frozen (p := ⟨w.heap.size + 1 + 1, 1, none⟩) (by simp)
  have z2 := hb1.frozen (p := ⟨w.heap.size + 1, 0, none⟩) (by simp <;> omega)
  have z3 := hb1.frozen (p := ⟨w.heap.size + 1, 1, none⟩) (by simp <;> omega)
  simp [go_sem] at f0
  simp [go_sem] at f1
  simp [go_sem] at f2
  simp [go_sem] at f3
  simp [go_sem] at z0
  simp [go_sem] at z1
  simp [go_sem] at z2
  simp [go_sem] at z3
  have hk : ∀ k, (Value.slice au l.length cu).ownBlock = some k → w.heap.size + 3 ≤ k := fun k hk => by
    have := ho1.from k hk
    simp at this
    omega
  have O1 : Hid (OwnsI8 w1 w.heap.size (.slice au l.length cu) l) := ho1.low (by simp; omega)
  have B1 : Hid (Below w.heap.size w w1) := (by repeat (first | exact Below.refl _ _ | refine Below.alloc ?_ (by simp <;> omega) _) : Below w.heap.size w _).trans (hb1.mono (by simp; omega))
  have KK : Hid (∀ k, (Value.slice au l.length cu).ownBlock = some k → w.heap.size + 3 ≤ k) := hk
  clear hk ho1 hb1
  go_wp2
  refine bodyPost_ret (v := .agg #[.int .i64 q, .slice au l.length cu]) (by simp [results, Try.results43, go_sem, f0, f1, f2, f3]) rfl ⟨_, rfl, ?_, ?_⟩
  · repeat (first | exact O1.out | refine OwnsE.other ?_ _ _ (fun k hk => by have := KK.out k hk; simp; omega))
  · repeat (first | exact B1.out | refine Below.setCell ?_ (by simp <;> omega) _)
end Go.Proofs.Ytnnmbgenepfacaa

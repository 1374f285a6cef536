/-
  The laws' helpers on Sketches.
-/
import Derived.Test.YtdoolnaekmffbaaMkS
import Derived.Test.YtdoolnaekmffbaaSkA
namespace Go.Proofs.Ytdoolnaekmffbaa
open Go.RowKit Go.Sort Ow Sk
set_option linter.unusedVariables false
set_option linter.unusedSimpArgs false

theorem eqSk (q : Int) (va vb : Value) (l : List Int) (w : World) (ha : Sls intE w va l) (hb : Sls intE w vb l) (hl : l.length ≤ 1048576) :
    Calls Try.prog 32 #[skV q va, skV q vb] w fun e w' => e = .returned (.bool true) ∧ Grew w w' := by
  obtain ⟨a, ca, rfl, _⟩ := ha.one
  obtain ⟨b, cb, rfl, _⟩ := hb.one
  unfold skV
  have B2 : Below w.heap.size w ((w.alloc (.cells #[.int .i64 q, .slice a l.length ca] 26)).alloc (.cells #[.int .i64 q, .slice b l.length cb] 26)) := ((Below.refl _ w).alloc (Nat.le_refl _) _).alloc (by simp) _
  have G2 : Hid (Grew w ((w.alloc (.cells #[.int .i64 q, .slice a l.length ca] 26)).alloc (.cells #[.int .i64 q, .slice b l.length cb] 26))) := ((Grew.refl w).alloc _).alloc _
  have hE := eqNum _ _ l _ (ha.kept B2) (hb.kept B2) hl
  have dq : (q != q) = false := by simp
  clear ha hb B2
  go_enter Try.func32, Try.ntmps32
  go_wp2_with fail
  refine hE.mono ?_
  rintro e w1 ⟨rfl, hg1⟩
  have G1 : Hid (Grew w w1) := G2.out.trans hg1
  clear hg1 hE G2
  go_wp2
  go_ret
  exact ⟨rfl, G1.out⟩
theorem toSk (q : Int) (v : Value) (l : List Int) (w : World) (h : Sls intE w v l) (hl : l.length ≤ 1048576) :
    Calls Try.prog 31 #[skV q v] w fun e w' => ∃ u, e = .returned (skV q u) ∧ OwnsN w' w.heap.size u l ∧ Below w.heap.size w w' := by
  obtain ⟨a, cap, rfl, _⟩ := h.one
  unfold skV
  have H : Hid (Sls intE w (.slice a l.length cap) l) := h
  clear h
  go_enter Try.func31, Try.ntmps31
  go_wp2_with fail
  refine (toNum _ l _ (H.out.kept (by repeat (first | exact Below.refl _ _ | refine Below.alloc ?_ (by simp <;> omega) _ | refine Below.setCell ?_ (by simp <;> omega) _))) hl).mono ?_
  rintro e w1 ⟨u, rfl, ho1, hb1⟩
  obtain ⟨au, cu, rfl, _⟩ := ho1.form
  have f0 := hb1.cell (p := ⟨w.heap.size + 1 + 1, 0, none⟩) (by simp)
  have f1 := hb1.cell (p := ⟨w.heap.size + 1 + 1, 1, none⟩) (by simp)
  have f2 := hb1.cell (p := ⟨w.heap.size + 1, 0, none⟩) (by simp <;> omega)
  have f3 := hb1.cell (p := ⟨w.heap.size + 1, 1, none⟩) (by simp <;> omega)
  have z0 := hb1.frozen (p := ⟨w.heap.size + 1 + 1, 0, none⟩) (by simp)
  have z1 := hb1.frozen (p := ⟨w.heap.size + 1 + 1, 1, none⟩) (by simp)
  have z2 := hb1.frozen (p := ⟨w.heap.size + 1, 0, none⟩) (by simp <;> omega)
  have z3 := hb1.frozen (p := ⟨w.heap.size + 1, 1, none⟩) (by simp <;> omega)
  simp [go_sem] at f0
  simp [go_sem] at f1
  simp [go_sem] at f2
  simp [go_sem] at f3
  simp [go_sem] at z0
  simp [go_sem] at z1
  simp [go_sem] at z2
  simp [go_sem] at z3
  have hk : ∀ k, (Value.slice au l.length cu).ownBlock = some k → w.heap.size + 3 ≤ k := fun k hk => by
    have := ho1.from k hk
    simp at this
    omega
  have O1 : Hid (OwnsN w1 w.heap.size (.slice au l.length cu) l) := ho1.low (by simp; omega)
  have B1 : Hid (Below w.heap.size w w1) := (by repeat (first | exact Below.refl _ _ | refine Below.alloc ?_ (by simp <;> omega) _) : Below w.heap.size w _).trans (hb1.mono (by simp; omega))
  have KK : Hid (∀ k, (Value.slice au l.length cu).ownBlock = some k → w.heap.size + 3 ≤ k) := hk
  clear hk ho1 hb1
  go_wp2
  refine bodyPost_ret (v := .agg #[.int .i64 q, .slice au l.length cu]) (by simp [results, Try.results31, go_sem, f0, f1, f2, f3]) rfl ⟨_, rfl, ?_, ?_⟩
  · repeat (first | exact O1.out | refine OwnsE.other ?_ _ _ (fun k hk => by have := KK.out k hk; simp; omega))
  · repeat (first | exact B1.out | refine Below.setCell ?_ (by simp <;> omega) _)
theorem markSk (s : Nat) (hs2 : s ≤ 5000000) (q : Int) (v : Value) (l : List Int) (B : Nat) (w : World) (h : HasN w B v l) (hl : l.length ≤ 1048576) :
    Calls Try.prog 33 #[skV q v, .int .i64 (s : Int)] w fun e w' => e = .returned (.int .i64 ((s : Int) + (l.length : Int))) ∧ HasN w' B v (marksU s l.length) ∧ w.grownBy w' v.ownBlock := by
  have hM := markNu s hs2 v l B _ (h.kept ((Below.refl _ w).alloc (Nat.le_refl _) (.cells #[.int .i64 q, v] 26))) hl
  obtain ⟨a, cap, rfl, _⟩ := h.form
  unfold skV
  clear h
  go_enter Try.func33, Try.ntmps33
  go_wp2_with fail
  refine hM.mono ?_
  rintro e w1 ⟨rfl, ho1, hg1⟩
  have HO : Hid _ := ho1
  have HG : Hid (w.grownBy w1 (Value.slice a l.length cap).ownBlock) := (show Hid _ from ⟨hg1.os, hg1.tape, hg1.output, by have := hg1.size; simp at this; omega, fun k hk hne => (hg1.block k (by simp; omega) hne).trans (Below.heap_alloc _ _ _ hk)⟩)
  clear ho1 hg1 hM
  go_wp2
  go_ret
  exact ⟨rfl, HO.out, HG.out⟩
theorem heldSk (s : Nat) (hs2 : s ≤ 5000000) (q : Int) (v : Value) (n : Nat) (w : World) (h : Sls intE w v (marksU s n)) (hl : n ≤ 1048576) :
    Calls Try.prog 34 #[skV q v, .int .i64 (s : Int)] w fun e w' => e = .returned (.int .i64 ((s : Int) + (n : Int))) ∧ Below w.heap.size w w' := by
  have B0 : Below w.heap.size w (w.alloc (.cells #[.int .i64 q, v] 26)) := (Below.refl _ w).alloc (Nat.le_refl _) _
  have hM := heldNu s hs2 v n _ (h.kept B0) hl
  have HB0 : Hid _ := B0
  obtain ⟨a, cap, rfl, _⟩ := h.one
  unfold skV
  clear h B0
  go_enter Try.func34, Try.ntmps34
  go_wp2_with fail
  refine hM.mono ?_
  rintro e w1 ⟨rfl, rfl⟩
  have HB := HB0
  clear hM
  go_wp2
  go_ret
  exact ⟨rfl, HB.out⟩
theorem likeSk (q : Int) (va vb : Value) (l : List Int) (w : World) (ha : Sls intE w va l) (hb : Sls intE w vb l) (hl : l.length ≤ 1048576) :
    Calls Try.prog 20 #[skV q va, skV q vb] w fun e w' => e = .returned (.bool true) ∧ Grew w w' := by
  obtain ⟨a, ca, rfl, _⟩ := ha.one
  obtain ⟨b, cb, rfl, _⟩ := hb.one
  unfold skV
  have B2 : Below w.heap.size w ((w.alloc (.cells #[.int .i64 q, .slice a l.length ca] 26)).alloc (.cells #[.int .i64 q, .slice b l.length cb] 26)) := ((Below.refl _ w).alloc (Nat.le_refl _) _).alloc (by simp) _
  have G2 : Hid (Grew w ((w.alloc (.cells #[.int .i64 q, .slice a l.length ca] 26)).alloc (.cells #[.int .i64 q, .slice b l.length cb] 26))) := ((Grew.refl w).alloc _).alloc _
  have hE := likeNum _ _ l _ (ha.kept B2) (hb.kept B2) hl
  have dq : (q == q) = true := by simp
  clear ha hb B2
  go_enter Try.func20, Try.ntmps20
  go_wp2_with fail
  refine hE.mono ?_
  rintro e w1 ⟨rfl, hg1⟩
  have G1 : Hid (Grew w w1) := G2.out.trans hg1
  clear hg1 hE G2
  go_wp2
  go_ret
  exact ⟨rfl, G1.out⟩
theorem szSk (q : Int) (v : Value) (l : List Int) (left : Int) (h0 : 0 ≤ left) (h1 : left ≤ 1048576) (w : World) (h : Sls intE w v l) :
    Calls Try.prog 30 #[skV q v, .int .i64 left] w fun e w' => e = .returned (.int .i64 (szU left l)) ∧ Below w.heap.size w w' := by
  obtain ⟨a, cap, rfl, _⟩ := h.one
  unfold skV
  have B0 : Below w.heap.size w (w.alloc (.cells #[.int .i64 q, .slice a l.length cap] 44)) := (Below.refl _ w).alloc (Nat.le_refl _) _
  have hS := szNu _ l left h0 h1 _ (h.kept B0)
  have hb : -1 ≤ szU left l ∧ (szU left l < 0 → szU left l = -1) := by unfold szU; split <;> omega
  obtain ⟨V, hV⟩ : ∃ V, V = szU left l := ⟨_, rfl⟩
  rw [← hV] at hS hb ⊢
  have B0H : Hid (Below w.heap.size w (w.alloc (.cells #[.int .i64 q, .slice a l.length cap] 44))) := B0
  clear h hV B0
  by_cases h0 : V < 0
  · have e := hb.2 h0
    subst e
    go_enter Try.func30, Try.ntmps30
    go_wp2_with fail
    refine hS.mono ?_
    rintro e w1 ⟨rfl, rfl⟩
    clear hS
    go_wp2
    go_ret
    exact ⟨rfl, B0H.out⟩
  · go_enter Try.func30, Try.ntmps30
    go_wp2_with fail
    refine hS.mono ?_
    rintro e w1 ⟨rfl, rfl⟩
    clear hS
    go_wp2
    go_ret
    exact ⟨rfl, B0H.out⟩
end Go.Proofs.Ytdoolnaekmffbaa

/-
  NewReplica, a branch.
  NewReplica, a branch.
  Both sides' NewReplica, by contract.
-/
import Derived.Test.YtdkhdjickkcaiaaRN17
import Derived.Test.YtdkhdjickkcaiaaRN18
import Derived.Test.YtdkhdjickkcaiaaRN19
namespace Go.Proofs.Ytdkhdjickkcaiaa.Rl
open Go.RowKit Go.Sort Go.Shelf
set_option linter.unusedVariables false
set_option linter.unusedSimpArgs false

set_option maxRecDepth 100000 in
set_option maxHeartbeats 8000000 in
theorem specNewC (p : Int) (w : World) (h1 : decide (pOk p) = true) (h2 : ipB 0 p = true) : Calls Try.prog 32 #[.int .i64 0, .int .i64 p] w fun e w' => NewAns 0 p w e w' := by
  have j1 := fun W => specPrs p W
  have j2 := fun W => inRm 0 0 (p - 1) W
  obtain ⟨i0, hi, hz0, hz1, hz2⟩ := info_parts Try.infoN2
  obtain ⟨w1, hw1⟩ : ∃ w1, w1 = w.alloc (.cells #[.int .i64 0, .int .i64 0, .int .i64 0, .bool false, .int .i64 0, .slice none 0 0, .int .i64 0, .slice none 0 0, .slice none 0 0, .slice none 0 0] 53) := ⟨_, rfl⟩
  have HZ : Hid (Bx w1 w.heap.size 53 #[.int .i64 0, .int .i64 0, .int .i64 0, .bool false, .int .i64 0, .slice none 0 0, .int .i64 0, .slice none 0 0, .slice none 0 0, .slice none 0 0]) := (show Hid _ from by rw [hw1]; exact Bx.new _ _ _)
  have B1 : Hid (Below w.heap.size w w1) := (show Hid _ from by rw [hw1]; exact (Below.refl _ w).alloc (Nat.le_refl _) _)
  have SZ : Hid (w1.heap.size = w.heap.size + 1) := (show _ = _ by rw [hw1]; simp)
  have PP0 : Bx (w1.setCell ⟨w.heap.size, 0, none⟩ (.int .i64 0)) w.heap.size 53 #[.int .i64 0, .int .i64 0, .int .i64 0, .bool false, .int .i64 0, .slice none 0 0, .int .i64 0, .slice none 0 0, .slice none 0 0, .slice none 0 0] := Bx.put HZ.out 0 _
  have PP1 : Bx ((w1.setCell ⟨w.heap.size, 0, none⟩ (.int .i64 0)).setCell ⟨w.heap.size, 1, none⟩ (.int .i64 0)) w.heap.size 53 #[.int .i64 0, .int .i64 0, .int .i64 0, .bool false, .int .i64 0, .slice none 0 0, .int .i64 0, .slice none 0 0, .slice none 0 0, .slice none 0 0] := Bx.put PP0 1 _
  have PP2 : Bx (((w1.setCell ⟨w.heap.size, 0, none⟩ (.int .i64 0)).setCell ⟨w.heap.size, 1, none⟩ (.int .i64 0)).setCell ⟨w.heap.size, 2, none⟩ (.int .i64 0)) w.heap.size 53 #[.int .i64 0, .int .i64 0, .int .i64 0, .bool false, .int .i64 0, .slice none 0 0, .int .i64 0, .slice none 0 0, .slice none 0 0, .slice none 0 0] := Bx.put PP1 2 _
  have PP3 : Bx ((((w1.setCell ⟨w.heap.size, 0, none⟩ (.int .i64 0)).setCell ⟨w.heap.size, 1, none⟩ (.int .i64 0)).setCell ⟨w.heap.size, 2, none⟩ (.int .i64 0)).setCell ⟨w.heap.size, 3, none⟩ (.bool false)) w.heap.size 53 #[.int .i64 0, .int .i64 0, .int .i64 0, .bool false, .int .i64 0, .slice none 0 0, .int .i64 0, .slice none 0 0, .slice none 0 0, .slice none 0 0] := Bx.put PP2 3 _
  have PP4 : Bx (((((w1.setCell ⟨w.heap.size, 0, none⟩ (.int .i64 0)).setCell ⟨w.heap.size, 1, none⟩ (.int .i64 0)).setCell ⟨w.heap.size, 2, none⟩ (.int .i64 0)).setCell ⟨w.heap.size, 3, none⟩ (.bool false)).setCell ⟨w.heap.size, 4, none⟩ (.int .i64 0)) w.heap.size 53 #[.int .i64 0, .int .i64 0, .int .i64 0, .bool false, .int .i64 0, .slice none 0 0, .int .i64 0, .slice none 0 0, .slice none 0 0, .slice none 0 0] := Bx.put PP3 4 _
  have PP5 : Bx ((((((w1.setCell ⟨w.heap.size, 0, none⟩ (.int .i64 0)).setCell ⟨w.heap.size, 1, none⟩ (.int .i64 0)).setCell ⟨w.heap.size, 2, none⟩ (.int .i64 0)).setCell ⟨w.heap.size, 3, none⟩ (.bool false)).setCell ⟨w.heap.size, 4, none⟩ (.int .i64 0)).setCell ⟨w.heap.size, 5, none⟩ (.slice none 0 0)) w.heap.size 53 #[.int .i64 0, .int .i64 0, .int .i64 0, .bool false, .int .i64 0, .slice none 0 0, .int .i64 0, .slice none 0 0, .slice none 0 0, .slice none 0 0] := Bx.put PP4 5 _
  have PP6 : Bx (((((((w1.setCell ⟨w.heap.size, 0, none⟩ (.int .i64 0)).setCell ⟨w.heap.size, 1, none⟩ (.int .i64 0)).setCell ⟨w.heap.size, 2, none⟩ (.int .i64 0)).setCell ⟨w.heap.size, 3, none⟩ (.bool false)).setCell ⟨w.heap.size, 4, none⟩ (.int .i64 0)).setCell ⟨w.heap.size, 5, none⟩ (.slice none 0 0)).setCell ⟨w.heap.size, 6, none⟩ (.int .i64 0)) w.heap.size 53 #[.int .i64 0, .int .i64 0, .int .i64 0, .bool false, .int .i64 0, .slice none 0 0, .int .i64 0, .slice none 0 0, .slice none 0 0, .slice none 0 0] := Bx.put PP5 6 _
  have PP7 : Bx ((((((((w1.setCell ⟨w.heap.size, 0, none⟩ (.int .i64 0)).setCell ⟨w.heap.size, 1, none⟩ (.int .i64 0)).setCell ⟨w.heap.size, 2, none⟩ (.int .i64 0)).setCell ⟨w.heap.size, 3, none⟩ (.bool false)).setCell ⟨w.heap.size, 4, none⟩ (.int .i64 0)).setCell ⟨w.heap.size, 5, none⟩ (.slice none 0 0)).setCell ⟨w.heap.size, 6, none⟩ (.int .i64 0)).setCell ⟨w.heap.size, 7, none⟩ (.slice none 0 0)) w.heap.size 53 #[.int .i64 0, .int .i64 0, .int .i64 0, .bool false, .int .i64 0, .slice none 0 0, .int .i64 0, .slice none 0 0, .slice none 0 0, .slice none 0 0] := Bx.put PP6 7 _
  have PP8 : Bx (((((((((w1.setCell ⟨w.heap.size, 0, none⟩ (.int .i64 0)).setCell ⟨w.heap.size, 1, none⟩ (.int .i64 0)).setCell ⟨w.heap.size, 2, none⟩ (.int .i64 0)).setCell ⟨w.heap.size, 3, none⟩ (.bool false)).setCell ⟨w.heap.size, 4, none⟩ (.int .i64 0)).setCell ⟨w.heap.size, 5, none⟩ (.slice none 0 0)).setCell ⟨w.heap.size, 6, none⟩ (.int .i64 0)).setCell ⟨w.heap.size, 7, none⟩ (.slice none 0 0)).setCell ⟨w.heap.size, 8, none⟩ (.slice none 0 0)) w.heap.size 53 #[.int .i64 0, .int .i64 0, .int .i64 0, .bool false, .int .i64 0, .slice none 0 0, .int .i64 0, .slice none 0 0, .slice none 0 0, .slice none 0 0] := Bx.put PP7 8 _
  have PP9 : Bx ((((((((((w1.setCell ⟨w.heap.size, 0, none⟩ (.int .i64 0)).setCell ⟨w.heap.size, 1, none⟩ (.int .i64 0)).setCell ⟨w.heap.size, 2, none⟩ (.int .i64 0)).setCell ⟨w.heap.size, 3, none⟩ (.bool false)).setCell ⟨w.heap.size, 4, none⟩ (.int .i64 0)).setCell ⟨w.heap.size, 5, none⟩ (.slice none 0 0)).setCell ⟨w.heap.size, 6, none⟩ (.int .i64 0)).setCell ⟨w.heap.size, 7, none⟩ (.slice none 0 0)).setCell ⟨w.heap.size, 8, none⟩ (.slice none 0 0)).setCell ⟨w.heap.size, 9, none⟩ (.slice none 0 0)) w.heap.size 53 #[.int .i64 0, .int .i64 0, .int .i64 0, .bool false, .int .i64 0, .slice none 0 0, .int .i64 0, .slice none 0 0, .slice none 0 0, .slice none 0 0] := Bx.put PP8 9 _
  clear PP0 PP1 PP2 PP3 PP4 PP5 PP6 PP7 PP8 PP9
  go_enter Try.func32, Try.ntmps32
  go_upto_region 1 with fail
  rw [← hw1]
  clear hw1
  have HP : Hid (pOk p) := (show pOk p from of_decide_eq_true h1)
  have hpb : p = 1 ∨ p = 3 ∨ p = 5 := HP.out
  have ew : wrap64 (p - 1) = p - 1 := by unfold wrap64; rcases hpb with h | h | h <;> rw [h] <;> decide
  rw [h1] at j1
  have e2 : inM 0 0 (p - 1) = ipB 0 p := (show _ = _ by unfold ipB inM; apply decide_eq_decide.2; omega)
  clear h1 hpb
  have HY : Hid (newB 0 p = true) := (show _ = _ from newB_yes HP.out h2)
  rw [e2, h2] at j2
  clear h2 e2
  go_wp2_with fail
  refine (j1 _).mono ?_
  rintro e w2 ⟨rfl, rfl⟩
  go_wp2_with fail
  refine (j2 _).mono ?_
  rintro e w2 ⟨rfl, rfl⟩
  clear j1 j2 ew
  obtain ⟨W, hW⟩ : ∃ W, W = w1.alloc (.cells #[.int .i64 0, .int .i64 p, .int .i64 0, .bool true, .int .i64 0, .slice none 0 0, .int .i64 0, .slice none 0 0, .slice none 0 0, .slice none 0 0] 53) := ⟨_, rfl⟩
  have HR : Hid (Bx W w1.heap.size 53 #[.int .i64 0, .int .i64 p, .int .i64 0, .bool true, .int .i64 0, .slice none 0 0, .int .i64 0, .slice none 0 0, .slice none 0 0, .slice none 0 0]) := (show Hid _ from by rw [hW]; exact Bx.new _ _ _)
  have HZ2 : Hid (Bx W w.heap.size 53 #[.int .i64 0, .int .i64 0, .int .i64 0, .bool false, .int .i64 0, .slice none 0 0, .int .i64 0, .slice none 0 0, .slice none 0 0, .slice none 0 0]) := (show Hid _ from by rw [hW]; exact Bx.alloc HZ.out _)
  have B2 : Hid (Below w.heap.size w W) := (show Hid _ from by rw [hW]; exact B1.out.alloc B1.out.size _)
  have SW : Hid (W.heap.size = w1.heap.size + 1) := (show _ = _ by rw [hW]; simp)
  go_upto_region 4 with fail
  rw [← hW]
  clear hW HZ B1
  have HWL : Hid (w.heap.size ≤ W.heap.size) := (show _ ≤ _ from B2.out.size)
  obtain ⟨n, hn⟩ : ∃ n : Nat, (n : Int) = p := ⟨p.toNat, by rcases HP.out with h | h | h <;> omega⟩
  have hn5 : n ≤ 5 := by rcases HP.out with h | h | h <;> omega
  obtain ⟨w3, hrun, hown, hgr⟩ := run_make_full (P := Try.prog) W W.heap.size 41 2 i0 (.int .i64 0) 1 Try.underlying41 hi hz0 hz1 .i64 .i64 n (by rw [hz2]; omega) (by unfold maxLen; omega) (Nat.le_refl _)
  rw [madeN] at hown
  have hb3 : Below W.heap.size W w3 := (Below.refl _ W).grown hgr (Nat.le_refl _) (fun j hj => by cases hj)
  have hnz : newZ 0 p = List.replicate n 0 := newZ_yes rfl (by omega)
  have hnl : (newZ 0 p).length = n := by rw [hnz, List.length_replicate]
  have O3 : Hid (OwnsN w3 W.heap.size (.slice (some ⟨W.heap.size, 0, none⟩) n n) (List.replicate n 0)) := (show w3.ownsRow _ _ 1 _ _ _ from by rw [List.length_replicate]; exact hown)
  have HR3a : Hid (Bx (w3.setCell ⟨w1.heap.size, 7, none⟩ (.slice (some ⟨W.heap.size, 0, none⟩) n n)) w1.heap.size 53 #[.int .i64 0, .int .i64 p, .int .i64 0, .bool true, .int .i64 0, .slice none 0 0, .int .i64 0, .slice (some ⟨W.heap.size, 0, none⟩) n n, .slice none 0 0, .slice none 0 0]) := (show Hid _ from Bx.put (Bx.kept HR.out hb3) 7 _)
  have HO3a : Hid (HasN (w3.setCell ⟨w1.heap.size, 7, none⟩ (.slice (some ⟨W.heap.size, 0, none⟩) n n)) W.heap.size (.slice (some ⟨W.heap.size, 0, none⟩) n n) (newZ 0 p)) := (show Hid _ from by
    rw [hnz]
    exact HasE.oth O3.out.has _ _ (fun k hk => by have := O3.out.from k hk; have := SW.out; show k ≠ w1.heap.size; omega))
  have HZ3a : Hid (Bx (w3.setCell ⟨w1.heap.size, 7, none⟩ (.slice (some ⟨W.heap.size, 0, none⟩) n n)) w.heap.size 53 #[.int .i64 0, .int .i64 0, .int .i64 0, .bool false, .int .i64 0, .slice none 0 0, .int .i64 0, .slice none 0 0, .slice none 0 0, .slice none 0 0]) := (show Hid _ from Bx.other (Bx.kept HZ2.out hb3) _ _ (by have := SZ.out; omega))
  have B3a : Hid (Below w.heap.size w (w3.setCell ⟨w1.heap.size, 7, none⟩ (.slice (some ⟨W.heap.size, 0, none⟩) n n))) := (show Hid _ from (B2.out.trans (hb3.mono B2.out.size)).setCell (p := ⟨w1.heap.size, 7, none⟩) (by have := SZ.out; show w.heap.size ≤ w1.heap.size; omega) _)
  have q7 := Bx.cell (Bx.kept HR.out hb3) 7
  have qf := Bx.free (Bx.kept HR.out hb3) 7
  rw [hn] at hrun
  clear hi hz0 hz1 hz2 hown hgr hb3 O3 HR HZ2 B2 hnz hn hn5
  go_upto_region 6 with fail
  clear q7 qf hrun
  generalize w3.setCell ⟨w1.heap.size, 7, none⟩ (.slice (some ⟨W.heap.size, 0, none⟩) n n) = w3 at HR3a HO3a HZ3a B3a ⊢
  obtain ⟨a, ha⟩ : ∃ a : Option Addr, a = some ⟨W.heap.size, 0, none⟩ := ⟨_, rfl⟩
  obtain ⟨c, hc⟩ : ∃ c : Nat, c = n := ⟨_, rfl⟩
  have HR3 : Hid (Bx w3 w1.heap.size 53 #[.int .i64 0, .int .i64 p, .int .i64 0, .bool true, .int .i64 0, .slice none 0 0, .int .i64 0, .slice a (newZ 0 p).length c, .slice none 0 0, .slice none 0 0]) := (show Hid _ from by rw [hnl, ha, hc]; exact HR3a.out)
  have HO3 : Hid (HasN w3 W.heap.size (.slice a (newZ 0 p).length c) (newZ 0 p)) := (show Hid _ from by rw [hnl, ha, hc]; exact HO3a.out)
  have HZ3 := HZ3a
  have B3 := B3a
  clear HR3a HO3a HZ3a B3a hnl ha hc
  have PP0 : Bx (w3.setCell ⟨w.heap.size, 0, none⟩ (.int .i64 0)) w.heap.size 53 #[.int .i64 0, .int .i64 0, .int .i64 0, .bool false, .int .i64 0, .slice none 0 0, .int .i64 0, .slice none 0 0, .slice none 0 0, .slice none 0 0] := Bx.put HZ3.out 0 _
  have PP1 : Bx ((w3.setCell ⟨w.heap.size, 0, none⟩ (.int .i64 0)).setCell ⟨w.heap.size, 1, none⟩ (.int .i64 p)) w.heap.size 53 #[.int .i64 0, .int .i64 p, .int .i64 0, .bool false, .int .i64 0, .slice none 0 0, .int .i64 0, .slice none 0 0, .slice none 0 0, .slice none 0 0] := Bx.put PP0 1 _
  have PP2 : Bx (((w3.setCell ⟨w.heap.size, 0, none⟩ (.int .i64 0)).setCell ⟨w.heap.size, 1, none⟩ (.int .i64 p)).setCell ⟨w.heap.size, 2, none⟩ (.int .i64 0)) w.heap.size 53 #[.int .i64 0, .int .i64 p, .int .i64 0, .bool false, .int .i64 0, .slice none 0 0, .int .i64 0, .slice none 0 0, .slice none 0 0, .slice none 0 0] := Bx.put PP1 2 _
  have PP3 : Bx ((((w3.setCell ⟨w.heap.size, 0, none⟩ (.int .i64 0)).setCell ⟨w.heap.size, 1, none⟩ (.int .i64 p)).setCell ⟨w.heap.size, 2, none⟩ (.int .i64 0)).setCell ⟨w.heap.size, 3, none⟩ (.bool true)) w.heap.size 53 #[.int .i64 0, .int .i64 p, .int .i64 0, .bool true, .int .i64 0, .slice none 0 0, .int .i64 0, .slice none 0 0, .slice none 0 0, .slice none 0 0] := Bx.put PP2 3 _
  have PP4 : Bx (((((w3.setCell ⟨w.heap.size, 0, none⟩ (.int .i64 0)).setCell ⟨w.heap.size, 1, none⟩ (.int .i64 p)).setCell ⟨w.heap.size, 2, none⟩ (.int .i64 0)).setCell ⟨w.heap.size, 3, none⟩ (.bool true)).setCell ⟨w.heap.size, 4, none⟩ (.int .i64 0)) w.heap.size 53 #[.int .i64 0, .int .i64 p, .int .i64 0, .bool true, .int .i64 0, .slice none 0 0, .int .i64 0, .slice none 0 0, .slice none 0 0, .slice none 0 0] := Bx.put PP3 4 _
  have PP5 : Bx ((((((w3.setCell ⟨w.heap.size, 0, none⟩ (.int .i64 0)).setCell ⟨w.heap.size, 1, none⟩ (.int .i64 p)).setCell ⟨w.heap.size, 2, none⟩ (.int .i64 0)).setCell ⟨w.heap.size, 3, none⟩ (.bool true)).setCell ⟨w.heap.size, 4, none⟩ (.int .i64 0)).setCell ⟨w.heap.size, 5, none⟩ (.slice none 0 0)) w.heap.size 53 #[.int .i64 0, .int .i64 p, .int .i64 0, .bool true, .int .i64 0, .slice none 0 0, .int .i64 0, .slice none 0 0, .slice none 0 0, .slice none 0 0] := Bx.put PP4 5 _
  have PP6 : Bx (((((((w3.setCell ⟨w.heap.size, 0, none⟩ (.int .i64 0)).setCell ⟨w.heap.size, 1, none⟩ (.int .i64 p)).setCell ⟨w.heap.size, 2, none⟩ (.int .i64 0)).setCell ⟨w.heap.size, 3, none⟩ (.bool true)).setCell ⟨w.heap.size, 4, none⟩ (.int .i64 0)).setCell ⟨w.heap.size, 5, none⟩ (.slice none 0 0)).setCell ⟨w.heap.size, 6, none⟩ (.int .i64 0)) w.heap.size 53 #[.int .i64 0, .int .i64 p, .int .i64 0, .bool true, .int .i64 0, .slice none 0 0, .int .i64 0, .slice none 0 0, .slice none 0 0, .slice none 0 0] := Bx.put PP5 6 _
  have PP7 : Bx ((((((((w3.setCell ⟨w.heap.size, 0, none⟩ (.int .i64 0)).setCell ⟨w.heap.size, 1, none⟩ (.int .i64 p)).setCell ⟨w.heap.size, 2, none⟩ (.int .i64 0)).setCell ⟨w.heap.size, 3, none⟩ (.bool true)).setCell ⟨w.heap.size, 4, none⟩ (.int .i64 0)).setCell ⟨w.heap.size, 5, none⟩ (.slice none 0 0)).setCell ⟨w.heap.size, 6, none⟩ (.int .i64 0)).setCell ⟨w.heap.size, 7, none⟩ (.slice a (newZ 0 p).length c)) w.heap.size 53 #[.int .i64 0, .int .i64 p, .int .i64 0, .bool true, .int .i64 0, .slice none 0 0, .int .i64 0, .slice a (newZ 0 p).length c, .slice none 0 0, .slice none 0 0] := Bx.put PP6 7 _
  have PP8 : Bx (((((((((w3.setCell ⟨w.heap.size, 0, none⟩ (.int .i64 0)).setCell ⟨w.heap.size, 1, none⟩ (.int .i64 p)).setCell ⟨w.heap.size, 2, none⟩ (.int .i64 0)).setCell ⟨w.heap.size, 3, none⟩ (.bool true)).setCell ⟨w.heap.size, 4, none⟩ (.int .i64 0)).setCell ⟨w.heap.size, 5, none⟩ (.slice none 0 0)).setCell ⟨w.heap.size, 6, none⟩ (.int .i64 0)).setCell ⟨w.heap.size, 7, none⟩ (.slice a (newZ 0 p).length c)).setCell ⟨w.heap.size, 8, none⟩ (.slice none 0 0)) w.heap.size 53 #[.int .i64 0, .int .i64 p, .int .i64 0, .bool true, .int .i64 0, .slice none 0 0, .int .i64 0, .slice a (newZ 0 p).length c, .slice none 0 0, .slice none 0 0] := Bx.put PP7 8 _
  have PP9 : Bx ((((((((((w3.setCell ⟨w.heap.size, 0, none⟩ (.int .i64 0)).setCell ⟨w.heap.size, 1, none⟩ (.int .i64 p)).setCell ⟨w.heap.size, 2, none⟩ (.int .i64 0)).setCell ⟨w.heap.size, 3, none⟩ (.bool true)).setCell ⟨w.heap.size, 4, none⟩ (.int .i64 0)).setCell ⟨w.heap.size, 5, none⟩ (.slice none 0 0)).setCell ⟨w.heap.size, 6, none⟩ (.int .i64 0)).setCell ⟨w.heap.size, 7, none⟩ (.slice a (newZ 0 p).length c)).setCell ⟨w.heap.size, 8, none⟩ (.slice none 0 0)).setCell ⟨w.heap.size, 9, none⟩ (.slice none 0 0)) w.heap.size 53 #[.int .i64 0, .int .i64 p, .int .i64 0, .bool true, .int .i64 0, .slice none 0 0, .int .i64 0, .slice a (newZ 0 p).length c, .slice none 0 0, .slice none 0 0] := Bx.put PP8 9 _
  have HFY : Hid (Bx ((((((((((w3.setCell ⟨w.heap.size, 0, none⟩ (.int .i64 0)).setCell ⟨w.heap.size, 1, none⟩ (.int .i64 p)).setCell ⟨w.heap.size, 2, none⟩ (.int .i64 0)).setCell ⟨w.heap.size, 3, none⟩ (.bool true)).setCell ⟨w.heap.size, 4, none⟩ (.int .i64 0)).setCell ⟨w.heap.size, 5, none⟩ (.slice none 0 0)).setCell ⟨w.heap.size, 6, none⟩ (.int .i64 0)).setCell ⟨w.heap.size, 7, none⟩ (.slice a (newZ 0 p).length c)).setCell ⟨w.heap.size, 8, none⟩ (.slice none 0 0)).setCell ⟨w.heap.size, 9, none⟩ (.slice none 0 0)) w.heap.size 53 #[.int .i64 0, .int .i64 p, .int .i64 0, .bool true, .int .i64 0, .slice none 0 0, .int .i64 0, .slice a (newZ 0 p).length c, .slice none 0 0, .slice none 0 0]) := PP9
  clear PP0 PP1 PP2 PP3 PP4 PP5 PP6 PP7 PP8 PP9
  have BFY : Hid (Below w.heap.size w ((((((((((w3.setCell ⟨w.heap.size, 0, none⟩ (.int .i64 0)).setCell ⟨w.heap.size, 1, none⟩ (.int .i64 p)).setCell ⟨w.heap.size, 2, none⟩ (.int .i64 0)).setCell ⟨w.heap.size, 3, none⟩ (.bool true)).setCell ⟨w.heap.size, 4, none⟩ (.int .i64 0)).setCell ⟨w.heap.size, 5, none⟩ (.slice none 0 0)).setCell ⟨w.heap.size, 6, none⟩ (.int .i64 0)).setCell ⟨w.heap.size, 7, none⟩ (.slice a (newZ 0 p).length c)).setCell ⟨w.heap.size, 8, none⟩ (.slice none 0 0)).setCell ⟨w.heap.size, 9, none⟩ (.slice none 0 0))) := (show Hid _ from ((((((((((B3.out.setCell (p := ⟨w.heap.size, 0, none⟩) (Nat.le_refl _) _).setCell (p := ⟨w.heap.size, 1, none⟩) (Nat.le_refl _) _).setCell (p := ⟨w.heap.size, 2, none⟩) (Nat.le_refl _) _).setCell (p := ⟨w.heap.size, 3, none⟩) (Nat.le_refl _) _).setCell (p := ⟨w.heap.size, 4, none⟩) (Nat.le_refl _) _).setCell (p := ⟨w.heap.size, 5, none⟩) (Nat.le_refl _) _).setCell (p := ⟨w.heap.size, 6, none⟩) (Nat.le_refl _) _).setCell (p := ⟨w.heap.size, 7, none⟩) (Nat.le_refl _) _).setCell (p := ⟨w.heap.size, 8, none⟩) (Nat.le_refl _) _).setCell (p := ⟨w.heap.size, 9, none⟩) (Nat.le_refl _) _))
  have OFY : Hid (HasN ((((((((((w3.setCell ⟨w.heap.size, 0, none⟩ (.int .i64 0)).setCell ⟨w.heap.size, 1, none⟩ (.int .i64 p)).setCell ⟨w.heap.size, 2, none⟩ (.int .i64 0)).setCell ⟨w.heap.size, 3, none⟩ (.bool true)).setCell ⟨w.heap.size, 4, none⟩ (.int .i64 0)).setCell ⟨w.heap.size, 5, none⟩ (.slice none 0 0)).setCell ⟨w.heap.size, 6, none⟩ (.int .i64 0)).setCell ⟨w.heap.size, 7, none⟩ (.slice a (newZ 0 p).length c)).setCell ⟨w.heap.size, 8, none⟩ (.slice none 0 0)).setCell ⟨w.heap.size, 9, none⟩ (.slice none 0 0)) w.heap.size (.slice a (newZ 0 p).length c) (newZ 0 p)) := (show Hid _ from by
    have hfr := HasE.from HO3.out
    repeat (refine HasE.oth ?_ _ _ (fun k hk => by have := hfr k hk; have := HWL.out; have := SW.out; have := SZ.out; show k ≠ w.heap.size; omega))
    exact HasE.low HO3.out HWL.out)
  have r0 := HR3.out.cell 0
  have r1 := HR3.out.cell 1
  have r2 := HR3.out.cell 2
  have r3 := HR3.out.cell 3
  have r4 := HR3.out.cell 4
  have r5 := HR3.out.cell 5
  have r6 := HR3.out.cell 6
  have r7 := HR3.out.cell 7
  have r8 := HR3.out.cell 8
  have r9 := HR3.out.cell 9
  have z0 := HZ3.out.cell 0
  have z1 := HZ3.out.cell 1
  have z2 := HZ3.out.cell 2
  have z3 := HZ3.out.cell 3
  have z4 := HZ3.out.cell 4
  have z5 := HZ3.out.cell 5
  have z6 := HZ3.out.cell 6
  have z7 := HZ3.out.cell 7
  have z8 := HZ3.out.cell 8
  have z9 := HZ3.out.cell 9
  have zf0 := HZ3.out.free 0
  have zf1 := HZ3.out.free 1
  have zf2 := HZ3.out.free 2
  have zf3 := HZ3.out.free 3
  have zf4 := HZ3.out.free 4
  have zf5 := HZ3.out.free 5
  have zf6 := HZ3.out.free 6
  have zf7 := HZ3.out.free 7
  have zf8 := HZ3.out.free 8
  have zf9 := HZ3.out.free 9
  go_wp2
  clear z0 z1 z2 z3 z4 z5 z6 z7 z8 z9 zf0 zf1 zf2 zf3 zf4 zf5 zf6 zf7 zf8 zf9 r0 r1 r2 r3 r4 r5 r6 r7 r8 r9
  generalize ((((((((((w3.setCell ⟨w.heap.size, 0, none⟩ (.int .i64 0)).setCell ⟨w.heap.size, 1, none⟩ (.int .i64 p)).setCell ⟨w.heap.size, 2, none⟩ (.int .i64 0)).setCell ⟨w.heap.size, 3, none⟩ (.bool true)).setCell ⟨w.heap.size, 4, none⟩ (.int .i64 0)).setCell ⟨w.heap.size, 5, none⟩ (.slice none 0 0)).setCell ⟨w.heap.size, 6, none⟩ (.int .i64 0)).setCell ⟨w.heap.size, 7, none⟩ (.slice a (newZ 0 p).length c)).setCell ⟨w.heap.size, 8, none⟩ (.slice none 0 0)).setCell ⟨w.heap.size, 9, none⟩ (.slice none 0 0)) = w5 at HFY BFY OFY ⊢
  have y0 := HFY.out.cell 0
  have y1 := HFY.out.cell 1
  have y2 := HFY.out.cell 2
  have y3 := HFY.out.cell 3
  have y4 := HFY.out.cell 4
  have y5 := HFY.out.cell 5
  have y6 := HFY.out.cell 6
  have y7 := HFY.out.cell 7
  have y8 := HFY.out.cell 8
  have y9 := HFY.out.cell 9
  refine bodyPost_ret (v := .tuple #[.agg #[.int .i64 0, .int .i64 p, .int .i64 0, .bool true, .int .i64 0, .slice none 0 0, .int .i64 0, .slice a (newZ 0 p).length c, .slice none 0 0, .slice none 0 0], .bool true]) (by simp [results, Try.results32, go_sem, y0, y1, y2, y3, y4, y5, y6, y7, y8, y9]) rfl ?_
  exact NewAns.yes HY.out rfl rfl OFY.out BFY.out

end Go.Proofs.Ytdkhdjickkcaiaa.Rl
namespace Go.Proofs.Ytdkhdjickkcaiaa.Rl
open Go.RowKit Go.Sort Go.Shelf
set_option linter.unusedVariables false
set_option linter.unusedSimpArgs false

set_option maxRecDepth 100000 in
set_option maxHeartbeats 8000000 in
theorem specNewD (id p : Int) (w : World) (h1 : decide (pOk p) = true) (h2 : ipB id p = true) (h0 : ¬ id = 0) : Calls Try.prog 32 #[.int .i64 id, .int .i64 p] w fun e w' => NewAns id p w e w' := by
  have j1 := fun W => specPrs p W
  have j2 := fun W => inRm id 0 (p - 1) W
  obtain ⟨i0, hi, hz0, hz1, hz2⟩ := info_parts Try.infoN2
  obtain ⟨w1, hw1⟩ : ∃ w1, w1 = w.alloc (.cells #[.int .i64 0, .int .i64 0, .int .i64 0, .bool false, .int .i64 0, .slice none 0 0, .int .i64 0, .slice none 0 0, .slice none 0 0, .slice none 0 0] 53) := ⟨_, rfl⟩
  have HZ : Hid (Bx w1 w.heap.size 53 #[.int .i64 0, .int .i64 0, .int .i64 0, .bool false, .int .i64 0, .slice none 0 0, .int .i64 0, .slice none 0 0, .slice none 0 0, .slice none 0 0]) := (show Hid _ from by rw [hw1]; exact Bx.new _ _ _)
  have B1 : Hid (Below w.heap.size w w1) := (show Hid _ from by rw [hw1]; exact (Below.refl _ w).alloc (Nat.le_refl _) _)
  have SZ : Hid (w1.heap.size = w.heap.size + 1) := (show _ = _ by rw [hw1]; simp)
  have PP0 : Bx (w1.setCell ⟨w.heap.size, 0, none⟩ (.int .i64 0)) w.heap.size 53 #[.int .i64 0, .int .i64 0, .int .i64 0, .bool false, .int .i64 0, .slice none 0 0, .int .i64 0, .slice none 0 0, .slice none 0 0, .slice none 0 0] := Bx.put HZ.out 0 _
  have PP1 : Bx ((w1.setCell ⟨w.heap.size, 0, none⟩ (.int .i64 0)).setCell ⟨w.heap.size, 1, none⟩ (.int .i64 0)) w.heap.size 53 #[.int .i64 0, .int .i64 0, .int .i64 0, .bool false, .int .i64 0, .slice none 0 0, .int .i64 0, .slice none 0 0, .slice none 0 0, .slice none 0 0] := Bx.put PP0 1 _
  have PP2 : Bx (((w1.setCell ⟨w.heap.size, 0, none⟩ (.int .i64 0)).setCell ⟨w.heap.size, 1, none⟩ (.int .i64 0)).setCell ⟨w.heap.size, 2, none⟩ (.int .i64 0)) w.heap.size 53 #[.int .i64 0, .int .i64 0, .int .i64 0, .bool false, .int .i64 0, .slice none 0 0, .int .i64 0, .slice none 0 0, .slice none 0 0, .slice none 0 0] := Bx.put PP1 2 _
  have PP3 : Bx ((((w1.setCell ⟨w.heap.size, 0, none⟩ (.int .i64 0)).setCell ⟨w.heap.size, 1, none⟩ (.int .i64 0)).setCell ⟨w.heap.size, 2, none⟩ (.int .i64 0)).setCell ⟨w.heap.size, 3, none⟩ (.bool false)) w.heap.size 53 #[.int .i64 0, .int .i64 0, .int .i64 0, .bool false, .int .i64 0, .slice none 0 0, .int .i64 0, .slice none 0 0, .slice none 0 0, .slice none 0 0] := Bx.put PP2 3 _
  have PP4 : Bx (((((w1.setCell ⟨w.heap.size, 0, none⟩ (.int .i64 0)).setCell ⟨w.heap.size, 1, none⟩ (.int .i64 0)).setCell ⟨w.heap.size, 2, none⟩ (.int .i64 0)).setCell ⟨w.heap.size, 3, none⟩ (.bool false)).setCell ⟨w.heap.size, 4, none⟩ (.int .i64 0)) w.heap.size 53 #[.int .i64 0, .int .i64 0, .int .i64 0, .bool false, .int .i64 0, .slice none 0 0, .int .i64 0, .slice none 0 0, .slice none 0 0, .slice none 0 0] := Bx.put PP3 4 _
  have PP5 : Bx ((((((w1.setCell ⟨w.heap.size, 0, none⟩ (.int .i64 0)).setCell ⟨w.heap.size, 1, none⟩ (.int .i64 0)).setCell ⟨w.heap.size, 2, none⟩ (.int .i64 0)).setCell ⟨w.heap.size, 3, none⟩ (.bool false)).setCell ⟨w.heap.size, 4, none⟩ (.int .i64 0)).setCell ⟨w.heap.size, 5, none⟩ (.slice none 0 0)) w.heap.size 53 #[.int .i64 0, .int .i64 0, .int .i64 0, .bool false, .int .i64 0, .slice none 0 0, .int .i64 0, .slice none 0 0, .slice none 0 0, .slice none 0 0] := Bx.put PP4 5 _
  have PP6 : Bx (((((((w1.setCell ⟨w.heap.size, 0, none⟩ (.int .i64 0)).setCell ⟨w.heap.size, 1, none⟩ (.int .i64 0)).setCell ⟨w.heap.size, 2, none⟩ (.int .i64 0)).setCell ⟨w.heap.size, 3, none⟩ (.bool false)).setCell ⟨w.heap.size, 4, none⟩ (.int .i64 0)).setCell ⟨w.heap.size, 5, none⟩ (.slice none 0 0)).setCell ⟨w.heap.size, 6, none⟩ (.int .i64 0)) w.heap.size 53 #[.int .i64 0, .int .i64 0, .int .i64 0, .bool false, .int .i64 0, .slice none 0 0, .int .i64 0, .slice none 0 0, .slice none 0 0, .slice none 0 0] := Bx.put PP5 6 _
  have PP7 : Bx ((((((((w1.setCell ⟨w.heap.size, 0, none⟩ (.int .i64 0)).setCell ⟨w.heap.size, 1, none⟩ (.int .i64 0)).setCell ⟨w.heap.size, 2, none⟩ (.int .i64 0)).setCell ⟨w.heap.size, 3, none⟩ (.bool false)).setCell ⟨w.heap.size, 4, none⟩ (.int .i64 0)).setCell ⟨w.heap.size, 5, none⟩ (.slice none 0 0)).setCell ⟨w.heap.size, 6, none⟩ (.int .i64 0)).setCell ⟨w.heap.size, 7, none⟩ (.slice none 0 0)) w.heap.size 53 #[.int .i64 0, .int .i64 0, .int .i64 0, .bool false, .int .i64 0, .slice none 0 0, .int .i64 0, .slice none 0 0, .slice none 0 0, .slice none 0 0] := Bx.put PP6 7 _
  have PP8 : Bx (((((((((w1.setCell ⟨w.heap.size, 0, none⟩ (.int .i64 0)).setCell ⟨w.heap.size, 1, none⟩ (.int .i64 0)).setCell ⟨w.heap.size, 2, none⟩ (.int .i64 0)).setCell ⟨w.heap.size, 3, none⟩ (.bool false)).setCell ⟨w.heap.size, 4, none⟩ (.int .i64 0)).setCell ⟨w.heap.size, 5, none⟩ (.slice none 0 0)).setCell ⟨w.heap.size, 6, none⟩ (.int .i64 0)).setCell ⟨w.heap.size, 7, none⟩ (.slice none 0 0)).setCell ⟨w.heap.size, 8, none⟩ (.slice none 0 0)) w.heap.size 53 #[.int .i64 0, .int .i64 0, .int .i64 0, .bool false, .int .i64 0, .slice none 0 0, .int .i64 0, .slice none 0 0, .slice none 0 0, .slice none 0 0] := Bx.put PP7 8 _
  have PP9 : Bx ((((((((((w1.setCell ⟨w.heap.size, 0, none⟩ (.int .i64 0)).setCell ⟨w.heap.size, 1, none⟩ (.int .i64 0)).setCell ⟨w.heap.size, 2, none⟩ (.int .i64 0)).setCell ⟨w.heap.size, 3, none⟩ (.bool false)).setCell ⟨w.heap.size, 4, none⟩ (.int .i64 0)).setCell ⟨w.heap.size, 5, none⟩ (.slice none 0 0)).setCell ⟨w.heap.size, 6, none⟩ (.int .i64 0)).setCell ⟨w.heap.size, 7, none⟩ (.slice none 0 0)).setCell ⟨w.heap.size, 8, none⟩ (.slice none 0 0)).setCell ⟨w.heap.size, 9, none⟩ (.slice none 0 0)) w.heap.size 53 #[.int .i64 0, .int .i64 0, .int .i64 0, .bool false, .int .i64 0, .slice none 0 0, .int .i64 0, .slice none 0 0, .slice none 0 0, .slice none 0 0] := Bx.put PP8 9 _
  clear PP0 PP1 PP2 PP3 PP4 PP5 PP6 PP7 PP8 PP9
  go_enter Try.func32, Try.ntmps32
  go_upto_region 1 with fail
  rw [← hw1]
  clear hw1
  have HP : Hid (pOk p) := (show pOk p from of_decide_eq_true h1)
  have hpb : p = 1 ∨ p = 3 ∨ p = 5 := HP.out
  have ew : wrap64 (p - 1) = p - 1 := by unfold wrap64; rcases hpb with h | h | h <;> rw [h] <;> decide
  rw [h1] at j1
  have e2 : inM id 0 (p - 1) = ipB id p := (show _ = _ by unfold ipB inM; apply decide_eq_decide.2; omega)
  clear h1 hpb
  have HY : Hid (newB id p = true) := (show _ = _ from newB_yes HP.out h2)
  rw [e2, h2] at j2
  clear h2 e2
  go_wp2_with fail
  refine (j1 _).mono ?_
  rintro e w2 ⟨rfl, rfl⟩
  go_wp2_with fail
  refine (j2 _).mono ?_
  rintro e w2 ⟨rfl, rfl⟩
  clear j1 j2 ew
  obtain ⟨W, hW⟩ : ∃ W, W = w1.alloc (.cells #[.int .i64 id, .int .i64 p, .int .i64 0, .bool true, .int .i64 0, .slice none 0 0, .int .i64 0, .slice none 0 0, .slice none 0 0, .slice none 0 0] 53) := ⟨_, rfl⟩
  have HR : Hid (Bx W w1.heap.size 53 #[.int .i64 id, .int .i64 p, .int .i64 0, .bool true, .int .i64 0, .slice none 0 0, .int .i64 0, .slice none 0 0, .slice none 0 0, .slice none 0 0]) := (show Hid _ from by rw [hW]; exact Bx.new _ _ _)
  have HZ2 : Hid (Bx W w.heap.size 53 #[.int .i64 0, .int .i64 0, .int .i64 0, .bool false, .int .i64 0, .slice none 0 0, .int .i64 0, .slice none 0 0, .slice none 0 0, .slice none 0 0]) := (show Hid _ from by rw [hW]; exact Bx.alloc HZ.out _)
  have B2 : Hid (Below w.heap.size w W) := (show Hid _ from by rw [hW]; exact B1.out.alloc B1.out.size _)
  have SW : Hid (W.heap.size = w1.heap.size + 1) := (show _ = _ by rw [hW]; simp)
  go_upto_region 4 with fail
  rw [← hW]
  clear hW HZ B1
  have HWL : Hid (w.heap.size ≤ W.heap.size) := (show _ ≤ _ from B2.out.size)
  have hid : (id == 0) = false := by simpa using h0
  have HNZ : Hid (newZ id p = []) := (show _ = _ from newZ_no h0)
  have HR3 : Hid (Bx W w1.heap.size 53 #[.int .i64 id, .int .i64 p, .int .i64 0, .bool true, .int .i64 0, .slice none 0 0, .int .i64 0, .slice none 0 0, .slice none 0 0, .slice none 0 0]) := HR
  have HO3 : Hid (HasN W W.heap.size (.slice none (newZ id p).length 0) (newZ id p)) := (show Hid _ from by rw [HNZ.out]; exact .inl ⟨rfl, rfl⟩)
  have e9 : (newZ id p).length = 0 := by rw [HNZ.out]; rfl
  have HZ3 := HZ2
  have B3 := B2
  clear hi hz0 hz1 hz2 h0 HR HZ2 B2
  go_upto_region 6 with fail
  clear hid
  rw [e9] at HO3
  have PP0 : Bx (W.setCell ⟨w.heap.size, 0, none⟩ (.int .i64 id)) w.heap.size 53 #[.int .i64 id, .int .i64 0, .int .i64 0, .bool false, .int .i64 0, .slice none 0 0, .int .i64 0, .slice none 0 0, .slice none 0 0, .slice none 0 0] := Bx.put HZ3.out 0 _
  have PP1 : Bx ((W.setCell ⟨w.heap.size, 0, none⟩ (.int .i64 id)).setCell ⟨w.heap.size, 1, none⟩ (.int .i64 p)) w.heap.size 53 #[.int .i64 id, .int .i64 p, .int .i64 0, .bool false, .int .i64 0, .slice none 0 0, .int .i64 0, .slice none 0 0, .slice none 0 0, .slice none 0 0] := Bx.put PP0 1 _
  have PP2 : Bx (((W.setCell ⟨w.heap.size, 0, none⟩ (.int .i64 id)).setCell ⟨w.heap.size, 1, none⟩ (.int .i64 p)).setCell ⟨w.heap.size, 2, none⟩ (.int .i64 0)) w.heap.size 53 #[.int .i64 id, .int .i64 p, .int .i64 0, .bool false, .int .i64 0, .slice none 0 0, .int .i64 0, .slice none 0 0, .slice none 0 0, .slice none 0 0] := Bx.put PP1 2 _
  have PP3 : Bx ((((W.setCell ⟨w.heap.size, 0, none⟩ (.int .i64 id)).setCell ⟨w.heap.size, 1, none⟩ (.int .i64 p)).setCell ⟨w.heap.size, 2, none⟩ (.int .i64 0)).setCell ⟨w.heap.size, 3, none⟩ (.bool true)) w.heap.size 53 #[.int .i64 id, .int .i64 p, .int .i64 0, .bool true, .int .i64 0, .slice none 0 0, .int .i64 0, .slice none 0 0, .slice none 0 0, .slice none 0 0] := Bx.put PP2 3 _
  have PP4 : Bx (((((W.setCell ⟨w.heap.size, 0, none⟩ (.int .i64 id)).setCell ⟨w.heap.size, 1, none⟩ (.int .i64 p)).setCell ⟨w.heap.size, 2, none⟩ (.int .i64 0)).setCell ⟨w.heap.size, 3, none⟩ (.bool true)).setCell ⟨w.heap.size, 4, none⟩ (.int .i64 0)) w.heap.size 53 #[.int .i64 id, .int .i64 p, .int .i64 0, .bool true, .int .i64 0, .slice none 0 0, .int .i64 0, .slice none 0 0, .slice none 0 0, .slice none 0 0] := Bx.put PP3 4 _
  have PP5 : Bx ((((((W.setCell ⟨w.heap.size, 0, none⟩ (.int .i64 id)).setCell ⟨w.heap.size, 1, none⟩ (.int .i64 p)).setCell ⟨w.heap.size, 2, none⟩ (.int .i64 0)).setCell ⟨w.heap.size, 3, none⟩ (.bool true)).setCell ⟨w.heap.size, 4, none⟩ (.int .i64 0)).setCell ⟨w.heap.size, 5, none⟩ (.slice none 0 0)) w.heap.size 53 #[.int .i64 id, .int .i64 p, .int .i64 0, .bool true, .int .i64 0, .slice none 0 0, .int .i64 0, .slice none 0 0, .slice none 0 0, .slice none 0 0] := Bx.put PP4 5 _
  have PP6 : Bx (((((((W.setCell ⟨w.heap.size, 0, none⟩ (.int .i64 id)).setCell ⟨w.heap.size, 1, none⟩ (.int .i64 p)).setCell ⟨w.heap.size, 2, none⟩ (.int .i64 0)).setCell ⟨w.heap.size, 3, none⟩ (.bool true)).setCell ⟨w.heap.size, 4, none⟩ (.int .i64 0)).setCell ⟨w.heap.size, 5, none⟩ (.slice none 0 0)).setCell ⟨w.heap.size, 6, none⟩ (.int .i64 0)) w.heap.size 53 #[.int .i64 id, .int .i64 p, .int .i64 0, .bool true, .int .i64 0, .slice none 0 0, .int .i64 0, .slice none 0 0, .slice none 0 0, .slice none 0 0] := Bx.put PP5 6 _
  have PP7 : Bx ((((((((W.setCell ⟨w.heap.size, 0, none⟩ (.int .i64 id)).setCell ⟨w.heap.size, 1, none⟩ (.int .i64 p)).setCell ⟨w.heap.size, 2, none⟩ (.int .i64 0)).setCell ⟨w.heap.size, 3, none⟩ (.bool true)).setCell ⟨w.heap.size, 4, none⟩ (.int .i64 0)).setCell ⟨w.heap.size, 5, none⟩ (.slice none 0 0)).setCell ⟨w.heap.size, 6, none⟩ (.int .i64 0)).setCell ⟨w.heap.size, 7, none⟩ (.slice none 0 0)) w.heap.size 53 #[.int .i64 id, .int .i64 p, .int .i64 0, .bool true, .int .i64 0, .slice none 0 0, .int .i64 0, .slice none 0 0, .slice none 0 0, .slice none 0 0] := Bx.put PP6 7 _
  have PP8 : Bx (((((((((W.setCell ⟨w.heap.size, 0, none⟩ (.int .i64 id)).setCell ⟨w.heap.size, 1, none⟩ (.int .i64 p)).setCell ⟨w.heap.size, 2, none⟩ (.int .i64 0)).setCell ⟨w.heap.size, 3, none⟩ (.bool true)).setCell ⟨w.heap.size, 4, none⟩ (.int .i64 0)).setCell ⟨w.heap.size, 5, none⟩ (.slice none 0 0)).setCell ⟨w.heap.size, 6, none⟩ (.int .i64 0)).setCell ⟨w.heap.size, 7, none⟩ (.slice none 0 0)).setCell ⟨w.heap.size, 8, none⟩ (.slice none 0 0)) w.heap.size 53 #[.int .i64 id, .int .i64 p, .int .i64 0, .bool true, .int .i64 0, .slice none 0 0, .int .i64 0, .slice none 0 0, .slice none 0 0, .slice none 0 0] := Bx.put PP7 8 _
  have PP9 : Bx ((((((((((W.setCell ⟨w.heap.size, 0, none⟩ (.int .i64 id)).setCell ⟨w.heap.size, 1, none⟩ (.int .i64 p)).setCell ⟨w.heap.size, 2, none⟩ (.int .i64 0)).setCell ⟨w.heap.size, 3, none⟩ (.bool true)).setCell ⟨w.heap.size, 4, none⟩ (.int .i64 0)).setCell ⟨w.heap.size, 5, none⟩ (.slice none 0 0)).setCell ⟨w.heap.size, 6, none⟩ (.int .i64 0)).setCell ⟨w.heap.size, 7, none⟩ (.slice none 0 0)).setCell ⟨w.heap.size, 8, none⟩ (.slice none 0 0)).setCell ⟨w.heap.size, 9, none⟩ (.slice none 0 0)) w.heap.size 53 #[.int .i64 id, .int .i64 p, .int .i64 0, .bool true, .int .i64 0, .slice none 0 0, .int .i64 0, .slice none 0 0, .slice none 0 0, .slice none 0 0] := Bx.put PP8 9 _
  have HFY : Hid (Bx ((((((((((W.setCell ⟨w.heap.size, 0, none⟩ (.int .i64 id)).setCell ⟨w.heap.size, 1, none⟩ (.int .i64 p)).setCell ⟨w.heap.size, 2, none⟩ (.int .i64 0)).setCell ⟨w.heap.size, 3, none⟩ (.bool true)).setCell ⟨w.heap.size, 4, none⟩ (.int .i64 0)).setCell ⟨w.heap.size, 5, none⟩ (.slice none 0 0)).setCell ⟨w.heap.size, 6, none⟩ (.int .i64 0)).setCell ⟨w.heap.size, 7, none⟩ (.slice none 0 0)).setCell ⟨w.heap.size, 8, none⟩ (.slice none 0 0)).setCell ⟨w.heap.size, 9, none⟩ (.slice none 0 0)) w.heap.size 53 #[.int .i64 id, .int .i64 p, .int .i64 0, .bool true, .int .i64 0, .slice none 0 0, .int .i64 0, .slice none 0 0, .slice none 0 0, .slice none 0 0]) := PP9
  clear PP0 PP1 PP2 PP3 PP4 PP5 PP6 PP7 PP8 PP9
  have BFY : Hid (Below w.heap.size w ((((((((((W.setCell ⟨w.heap.size, 0, none⟩ (.int .i64 id)).setCell ⟨w.heap.size, 1, none⟩ (.int .i64 p)).setCell ⟨w.heap.size, 2, none⟩ (.int .i64 0)).setCell ⟨w.heap.size, 3, none⟩ (.bool true)).setCell ⟨w.heap.size, 4, none⟩ (.int .i64 0)).setCell ⟨w.heap.size, 5, none⟩ (.slice none 0 0)).setCell ⟨w.heap.size, 6, none⟩ (.int .i64 0)).setCell ⟨w.heap.size, 7, none⟩ (.slice none 0 0)).setCell ⟨w.heap.size, 8, none⟩ (.slice none 0 0)).setCell ⟨w.heap.size, 9, none⟩ (.slice none 0 0))) := (show Hid _ from ((((((((((B3.out.setCell (p := ⟨w.heap.size, 0, none⟩) (Nat.le_refl _) _).setCell (p := ⟨w.heap.size, 1, none⟩) (Nat.le_refl _) _).setCell (p := ⟨w.heap.size, 2, none⟩) (Nat.le_refl _) _).setCell (p := ⟨w.heap.size, 3, none⟩) (Nat.le_refl _) _).setCell (p := ⟨w.heap.size, 4, none⟩) (Nat.le_refl _) _).setCell (p := ⟨w.heap.size, 5, none⟩) (Nat.le_refl _) _).setCell (p := ⟨w.heap.size, 6, none⟩) (Nat.le_refl _) _).setCell (p := ⟨w.heap.size, 7, none⟩) (Nat.le_refl _) _).setCell (p := ⟨w.heap.size, 8, none⟩) (Nat.le_refl _) _).setCell (p := ⟨w.heap.size, 9, none⟩) (Nat.le_refl _) _))
  have OFY : Hid (HasN ((((((((((W.setCell ⟨w.heap.size, 0, none⟩ (.int .i64 id)).setCell ⟨w.heap.size, 1, none⟩ (.int .i64 p)).setCell ⟨w.heap.size, 2, none⟩ (.int .i64 0)).setCell ⟨w.heap.size, 3, none⟩ (.bool true)).setCell ⟨w.heap.size, 4, none⟩ (.int .i64 0)).setCell ⟨w.heap.size, 5, none⟩ (.slice none 0 0)).setCell ⟨w.heap.size, 6, none⟩ (.int .i64 0)).setCell ⟨w.heap.size, 7, none⟩ (.slice none 0 0)).setCell ⟨w.heap.size, 8, none⟩ (.slice none 0 0)).setCell ⟨w.heap.size, 9, none⟩ (.slice none 0 0)) w.heap.size (.slice none 0 0) (newZ id p)) := (show Hid _ from by
    have hfr := HasE.from HO3.out
    repeat (refine HasE.oth ?_ _ _ (fun k hk => by have := hfr k hk; have := HWL.out; have := SW.out; have := SZ.out; show k ≠ w.heap.size; omega))
    exact HasE.low HO3.out HWL.out)
  have r0 := HR3.out.cell 0
  have r1 := HR3.out.cell 1
  have r2 := HR3.out.cell 2
  have r3 := HR3.out.cell 3
  have r4 := HR3.out.cell 4
  have r5 := HR3.out.cell 5
  have r6 := HR3.out.cell 6
  have r7 := HR3.out.cell 7
  have r8 := HR3.out.cell 8
  have r9 := HR3.out.cell 9
  have z0 := HZ3.out.cell 0
  have z1 := HZ3.out.cell 1
  have z2 := HZ3.out.cell 2
  have z3 := HZ3.out.cell 3
  have z4 := HZ3.out.cell 4
  have z5 := HZ3.out.cell 5
  have z6 := HZ3.out.cell 6
  have z7 := HZ3.out.cell 7
  have z8 := HZ3.out.cell 8
  have z9 := HZ3.out.cell 9
  have zf0 := HZ3.out.free 0
  have zf1 := HZ3.out.free 1
  have zf2 := HZ3.out.free 2
  have zf3 := HZ3.out.free 3
  have zf4 := HZ3.out.free 4
  have zf5 := HZ3.out.free 5
  have zf6 := HZ3.out.free 6
  have zf7 := HZ3.out.free 7
  have zf8 := HZ3.out.free 8
  have zf9 := HZ3.out.free 9
  go_wp2
  clear z0 z1 z2 z3 z4 z5 z6 z7 z8 z9 zf0 zf1 zf2 zf3 zf4 zf5 zf6 zf7 zf8 zf9 r0 r1 r2 r3 r4 r5 r6 r7 r8 r9
  generalize ((((((((((W.setCell ⟨w.heap.size, 0, none⟩ (.int .i64 id)).setCell ⟨w.heap.size, 1, none⟩ (.int .i64 p)).setCell ⟨w.heap.size, 2, none⟩ (.int .i64 0)).setCell ⟨w.heap.size, 3, none⟩ (.bool true)).setCell ⟨w.heap.size, 4, none⟩ (.int .i64 0)).setCell ⟨w.heap.size, 5, none⟩ (.slice none 0 0)).setCell ⟨w.heap.size, 6, none⟩ (.int .i64 0)).setCell ⟨w.heap.size, 7, none⟩ (.slice none 0 0)).setCell ⟨w.heap.size, 8, none⟩ (.slice none 0 0)).setCell ⟨w.heap.size, 9, none⟩ (.slice none 0 0)) = w5 at HFY BFY OFY ⊢
  have y0 := HFY.out.cell 0
  have y1 := HFY.out.cell 1
  have y2 := HFY.out.cell 2
  have y3 := HFY.out.cell 3
  have y4 := HFY.out.cell 4
  have y5 := HFY.out.cell 5
  have y6 := HFY.out.cell 6
  have y7 := HFY.out.cell 7
  have y8 := HFY.out.cell 8
  have y9 := HFY.out.cell 9
  refine bodyPost_ret (v := .tuple #[.agg #[.int .i64 id, .int .i64 p, .int .i64 0, .bool true, .int .i64 0, .slice none 0 0, .int .i64 0, .slice none 0 0, .slice none 0 0, .slice none 0 0], .bool true]) (by simp [results, Try.results32, go_sem, y0, y1, y2, y3, y4, y5, y6, y7, y8, y9]) rfl ?_
  exact NewAns.yes HY.out rfl (by rw [HNZ.out]; rfl) OFY.out BFY.out

end Go.Proofs.Ytdkhdjickkcaiaa.Rl
namespace Go.Proofs.Ytdkhdjickkcaiaa.Rl
open Go.RowKit Go.Sort Go.Shelf

theorem implNewR (id p : Int) (w : World) : Calls Try.prog 33 #[.int .i64 id, .int .i64 p] w fun e w' => NewAns id p w e w' := by
  cases h1 : decide (pOk p) with
  | false => exact implNewA id p w h1
  | true =>
    cases h2 : ipB id p with
    | false => exact implNewB id p w h1 h2
    | true => exact implNewC id p w h1 h2
theorem specNewR (id p : Int) (w : World) : Calls Try.prog 32 #[.int .i64 id, .int .i64 p] w fun e w' => NewAns id p w e w' := by
  cases h1 : decide (pOk p) with
  | false => exact specNewA id p w h1
  | true =>
    cases h2 : ipB id p with
    | false => exact specNewB id p w h1 h2
    | true =>
      by_cases h0 : id = 0
      · subst h0
        exact specNewC p w h1 h2
      · exact specNewD id p w h1 h2 h0
end Go.Proofs.Ytdkhdjickkcaiaa.Rl

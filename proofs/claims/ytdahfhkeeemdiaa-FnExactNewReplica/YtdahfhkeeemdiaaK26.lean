/-
  NewReplica, a branch.
  Both sides' NewReplica, by contract.
  The walk of FnExactNewReplica, given both sides' NewReplica.
-/
import Derived.Test.YtdahfhkeeemdiaaK23
import Derived.Test.YtdahfhkeeemdiaaK24
import Derived.Test.YtdahfhkeeemdiaaK25
import Derived.Test.YtdahfhkeeemdiaaK20
import Derived.Test.YtdahfhkeeemdiaaK22
namespace Go.Proofs.Ytdahfhkeeemdiaa.Rl
open Go.RowKit Go.Sort Go.Shelf
set_option linter.unusedVariables false
set_option linter.unusedSimpArgs false

set_option maxRecDepth 100000 in
set_option maxHeartbeats 8000000 in
theorem specNewD (id p : Int) (w : World) (h1 : decide (pOk p) = true) (h2 : ipB id p = true) (h0 : ¬ id = 0) : Calls Try.prog 11 #[.int .i64 id, .int .i64 p] w fun e w' => NewAns id p w e w' := by
  have j1 := fun W => specPrs p W
  have j2 := fun W => inRm id 0 (p - 1) W
  obtain ⟨i0, hi, hz0, hz1, hz2⟩ := info_parts Try.infoN2
  obtain ⟨w1, hw1⟩ : ∃ w1, w1 = w.alloc (.cells #[.int .i64 0, .int .i64 0, .int .i64 0, .bool false, .int .i64 0, .slice none 0 0, .int .i64 0, .slice none 0 0, .slice none 0 0, .slice none 0 0] 31) := ⟨_, rfl⟩
  have HZ : Hid (Bx w1 w.heap.size 31 #[.int .i64 0, .int .i64 0, .int .i64 0, .bool false, .int .i64 0, .slice none 0 0, .int .i64 0, .slice none 0 0, .slice none 0 0, .slice none 0 0]) := (show Hid _ from by rw [hw1]; exact Bx.new _ _ _)
  have B1 : Hid (Below w.heap.size w w1) := (show Hid _ from by rw [hw1]; exact (Below.refl _ w).alloc (Nat.le_refl _) _)
  have SZ : Hid (w1.heap.size = w.heap.size + 1) := (show _ = _ by rw [hw1]; simp)
  have PP0 : Bx (w1.setCell ⟨w.heap.size, 0, none⟩ (.int .i64 0)) w.heap.size 31 #[.int .i64 0, .int .i64 0, .int .i64 0, .bool false, .int .i64 0, .slice none 0 0, .int .i64 0, .slice none 0 0, .slice none 0 0, .slice none 0 0] := Bx.put HZ.out 0 _
  have PP1 : Bx ((w1.setCell ⟨w.heap.size, 0, none⟩ (.int .i64 0)).setCell ⟨w.heap.size, 1, none⟩ (.int .i64 0)) w.heap.size 31 #[.int .i64 0, .int .i64 0, .int .i64 0, .bool false, .int .i64 0, .slice none 0 0, .int .i64 0, .slice none 0 0, .slice none 0 0, .slice none 0 0] := Bx.put PP0 1 _
  have PP2 : Bx (((w1.setCell ⟨w.heap.size, 0, none⟩ (.int .i64 0)).setCell ⟨w.heap.size, 1, none⟩ (.int .i64 0)).setCell ⟨w.heap.size, 2, none⟩ (.int .i64 0)) w.heap.size 31 #[.int .i64 0, .int .i64 0, .int .i64 0, .bool false, .int .i64 0, .slice none 0 0, .int .i64 0, .slice none 0 0, .slice none 0 0, .slice none 0 0] := Bx.put PP1 2 _
  have PP3 : Bx ((((w1.setCell ⟨w.heap.size, 0, none⟩ (.int .i64 0)).setCell ⟨w.heap.size, 1, none⟩ (.int .i64 0)).setCell ⟨w.heap.size, 2, none⟩ (.int .i64 0)).setCell ⟨w.heap.size, 3, none⟩ (.bool false)) w.heap.size 31 #[.int .i64 0, .int .i64 0, .int .i64 0, .bool false, .int .i64 0, .slice none 0 0, .int .i64 0, .slice none 0 0, .slice none 0 0, .slice none 0 0] := Bx.put PP2 3 _
  have PP4 : Bx (((((w1.setCell ⟨w.heap.size, 0, none⟩ (.int .i64 0)).setCell ⟨w.heap.size, 1, none⟩ (.int .i64 0)).setCell ⟨w.heap.size, 2, none⟩ (.int .i64 0)).setCell ⟨w.heap.size, 3, none⟩ (.bool false)).setCell ⟨w.heap.size, 4, none⟩ (.int .i64 0)) w.heap.size 31 #[.int .i64 0, .int .i64 0, .int .i64 0, .bool false, .int .i64 0, .slice none 0 0, .int .i64 0, .slice none 0 0, .slice none 0 0, .slice none 0 0] := Bx.put PP3 4 _
  have PP5 : Bx ((((((w1.setCell ⟨w.heap.size, 0, none⟩ (.int .i64 0)).setCell ⟨w.heap.size, 1, none⟩ (.int .i64 0)).setCell ⟨w.heap.size, 2, none⟩ (.int .i64 0)).setCell ⟨w.heap.size, 3, none⟩ (.bool false)).setCell ⟨w.heap.size, 4, none⟩ (.int .i64 0)).setCell ⟨w.heap.size, 5, none⟩ (.slice none 0 0)) w.heap.size 31 #[.int .i64 0, .int .i64 0, .int .i64 0, .bool false, .int .i64 0, .slice none 0 0, .int .i64 0, .slice none 0 0, .slice none 0 0, .slice none 0 0] := Bx.put PP4 5 _
  have PP6 : Bx (((((((w1.setCell ⟨w.heap.size, 0, none⟩ (.int .i64 0)).setCell ⟨w.heap.size, 1, none⟩ (.int .i64 0)).setCell ⟨w.heap.size, 2, none⟩ (.int .i64 0)).setCell ⟨w.heap.size, 3, none⟩ (.bool false)).setCell ⟨w.heap.size, 4, none⟩ (.int .i64 0)).setCell ⟨w.heap.size, 5, none⟩ (.slice none 0 0)).setCell ⟨w.heap.size, 6, none⟩ (.int .i64 0)) w.heap.size 31 #[.int .i64 0, .int .i64 0, .int .i64 0, .bool false, .int .i64 0, .slice none 0 0, .int .i64 0, .slice none 0 0, .slice none 0 0, .slice none 0 0] := Bx.put PP5 6 _
  have PP7 : Bx ((((((((w1.setCell ⟨w.heap.size, 0, none⟩ (.int .i64 0)).setCell ⟨w.heap.size, 1, none⟩ (.int .i64 0)).setCell ⟨w.heap.size, 2, none⟩ (.int .i64 0)).setCell ⟨w.heap.size, 3, none⟩ (.bool false)).setCell ⟨w.heap.size, 4, none⟩ (.int .i64 0)).setCell ⟨w.heap.size, 5, none⟩ (.slice none 0 0)).setCell ⟨w.heap.size, 6, none⟩ (.int .i64 0)).setCell ⟨w.heap.size, 7, none⟩ (.slice none 0 0)) w.heap.size 31 #[.int .i64 0, .int .i64 0, .int .i64 0, .bool false, .int .i64 0, .slice none 0 0, .int .i64 0, .slice none 0 0, .slice none 0 0, .slice none 0 0] := Bx.put PP6 7 _
  have PP8 : Bx (((((((((w1.setCell ⟨w.heap.size, 0, none⟩ (.int .i64 0)).setCell ⟨w.heap.size, 1, none⟩ (.int .i64 0)).setCell ⟨w.heap.size, 2, none⟩ (.int .i64 0)).setCell ⟨w.heap.size, 3, none⟩ (.bool false)).setCell ⟨w.heap.size, 4, none⟩ (.int .i64 0)).setCell ⟨w.heap.size, 5, none⟩ (.slice none 0 0)).setCell ⟨w.heap.size, 6, none⟩ (.int .i64 0)).setCell ⟨w.heap.size, 7, none⟩ (.slice none 0 0)).setCell ⟨w.heap.size, 8, none⟩ (.slice none 0 0)) w.heap.size 31 #[.int .i64 0, .int .i64 0, .int .i64 0, .bool false, .int .i64 0, .slice none 0 0, .int .i64 0, .slice none 0 0, .slice none 0 0, .slice none 0 0] := Bx.put PP7 8 _
  have PP9 : Bx ((((((((((w1.setCell ⟨w.heap.size, 0, none⟩ (.int .i64 0)).setCell ⟨w.heap.size, 1, none⟩ (.int .i64 0)).setCell ⟨w.heap.size, 2, none⟩ (.int .i64 0)).setCell ⟨w.heap.size, 3, none⟩ (.bool false)).setCell ⟨w.heap.size, 4, none⟩ (.int .i64 0)).setCell ⟨w.heap.size, 5, none⟩ (.slice none 0 0)).setCell ⟨w.heap.size, 6, none⟩ (.int .i64 0)).setCell ⟨w.heap.size, 7, none⟩ (.slice none 0 0)).setCell ⟨w.heap.size, 8, none⟩ (.slice none 0 0)).setCell ⟨w.heap.size, 9, none⟩ (.slice none 0 0)) w.heap.size 31 #[.int .i64 0, .int .i64 0, .int .i64 0, .bool false, .int .i64 0, .slice none 0 0, .int .i64 0, .slice none 0 0, .slice none 0 0, .slice none 0 0] := Bx.put PP8 9 _
  clear PP0 PP1 PP2 PP3 PP4 PP5 PP6 PP7 PP8 PP9
  go_enter Try.func11, Try.ntmps11
  go_upto_region 1 with fail
  rw [← hw1]
  clear hw1
  have HP : Hid (pOk p) := (show pOk p from of_decide_eq_true h1)
  have hpb : p = 1 ∨ p = 3 ∨ p = 5 := HP.out
  have ew : wrap64 (p - 1) = p - 1 := by unfold wrap64; rcases hpb with h | h | h <;> rw [h] <;> decide
  rw [h1] at j1
  have e2 : inM id 0 (p - 1) = ipB id p := (show _ = _ by unfold ipB inM; apply decide_eq_decide.2; omega)
  clear h1 hpb
  have HY : Hid (newB id p = true) := (show _ = _ from newB_yes HP.out h2)
  rw [e2, h2] at j2
  clear h2 e2
  go_wp2_with fail
  refine (j1 _).mono ?_
  rintro e w2 ⟨rfl, rfl⟩
  go_wp2_with fail
  refine (j2 _).mono ?_
  rintro e w2 ⟨rfl, rfl⟩
  clear j1 j2 ew
  obtain ⟨W, hW⟩ : ∃ W, W = w1.alloc (.cells #[.int .i64 id, .int .i64 p, .int .i64 0, .bool true, .int .i64 0, .slice none 0 0, .int .i64 0, .slice none 0 0, .slice none 0 0, .slice none 0 0] 31) := ⟨_, rfl⟩
  have HR : Hid (Bx W w1.heap.size 31 #[.int .i64 id, .int .i64 p, .int .i64 0, .bool true, .int .i64 0, .slice none 0 0, .int .i64 0, .slice none 0 0, .slice none 0 0, .slice none 0 0]) := (show Hid _ from by rw [hW]; exact Bx.new _ _ _)
  have HZ2 : Hid (Bx W w.heap.size 31 #[.int .i64 0, .int .i64 0, .int .i64 0, .bool false, .int .i64 0, .slice none 0 0, .int .i64 0, .slice none 0 0, .slice none 0 0, .slice none 0 0]) := (show Hid _ from by rw [hW]; exact Bx.alloc HZ.out _)
  have B2 : Hid (Below w.heap.size w W) := (show Hid _ from by rw [hW]; exact B1.out.alloc B1.out.size _)
  have SW : Hid (W.heap.size = w1.heap.size + 1) := (show _ = _ by rw [hW]; simp)
  go_upto_region 4 with fail
  rw [← hW]
  clear hW HZ B1
  have HWL : Hid (w.heap.size ≤ W.heap.size) := (show _ ≤ _ from B2.out.size)
  have hid : (id == 0) = false := by simpa using h0
  have HNZ : Hid (newZ id p = []) := (show _ = _ from newZ_no h0)
  have HR3 : Hid (Bx W w1.heap.size 31 #[.int .i64 id, .int .i64 p, .int .i64 0, .bool true, .int .i64 0, .slice none 0 0, .int .i64 0, .slice none 0 0, .slice none 0 0, .slice none 0 0]) := HR
  have HO3 : Hid (HasN W W.heap.size (.slice none (newZ id p).length 0) (newZ id p)) := (show Hid _ from by rw [HNZ.out]; exact .inl ⟨rfl, rfl⟩)
  have e9 : (newZ id p).length = 0 := by rw [HNZ.out]; rfl
  have HZ3 := HZ2
  have B3 := B2
  clear hi hz0 hz1 hz2 h0 HR HZ2 B2
  go_upto_region 6 with fail
  clear hid
  rw [e9] at HO3
  have PP0 : Bx (W.setCell ⟨w.heap.size, 0, none⟩ (.int .i64 id)) w.heap.size 31 #[.int .i64 id, .int .i64 0, .int .i64 0, .bool false, .int .i64 0, .slice none 0 0, .int .i64 0, .slice none 0 0, .slice none 0 0, .slice none 0 0] := Bx.put HZ3.out 0 _
  have PP1 : Bx ((W.setCell ⟨w.heap.size, 0, none⟩ (.int .i64 id)).setCell ⟨w.heap.size, 1, none⟩ (.int .i64 p)) w.heap.size 31 #[.int .i64 id, .int .i64 p, .int .i64 0, .bool false, .int .i64 0, .slice none 0 0, .int .i64 0, .slice none 0 0, .slice none 0 0, .slice none 0 0] := Bx.put PP0 1 _
  have PP2 : Bx (((W.setCell ⟨w.heap.size, 0, none⟩ (.int .i64 id)).setCell ⟨w.heap.size, 1, none⟩ (.int .i64 p)).setCell ⟨w.heap.size, 2, none⟩ (.int .i64 0)) w.heap.size 31 #[.int .i64 id, .int .i64 p, .int .i64 0, .bool false, .int .i64 0, .slice none 0 0, .int .i64 0, .slice none 0 0, .slice none 0 0, .slice none 0 0] := Bx.put PP1 2 _
  have PP3 : Bx ((((W.setCell ⟨w.heap.size, 0, none⟩ (.int .i64 id)).setCell ⟨w.heap.size, 1, none⟩ (.int .i64 p)).setCell ⟨w.heap.size, 2, none⟩ (.int .i64 0)).setCell ⟨w.heap.size, 3, none⟩ (.bool true)) w.heap.size 31 #[.int .i64 id, .int .i64 p, .int .i64 0, .bool true, .int .i64 0, .slice none 0 0, .int .i64 0, .slice none 0 0, .slice none 0 0, .slice none 0 0] := Bx.put PP2 3 _
  have PP4 : Bx (((((W.setCell ⟨w.heap.size, 0, none⟩ (.int .i64 id)).setCell ⟨w.heap.size, 1, none⟩ (.int .i64 p)).setCell ⟨w.heap.size, 2, none⟩ (.int .i64 0)).setCell ⟨w.heap.size, 3, none⟩ (.bool true)).setCell ⟨w.heap.size, 4, none⟩ (.int .i64 0)) w.heap.size 31 #[.int .i64 id, .int .i64 p, .int .i64 0, .bool true, .int .i64 0, .slice none 0 0, .int .i64 0, .slice none 0 0, .slice none 0 0, .slice none 0 0] := Bx.put PP3 4 _
  have PP5 : Bx ((((((W.setCell ⟨w.heap.size, 0, none⟩ (.int .i64 id)).setCell ⟨w.heap.size, 1, none⟩ (.int .i64 p)).setCell ⟨w.heap.size, 2, none⟩ (.int .i64 0)).setCell ⟨w.heap.size, 3, none⟩ (.bool true)).setCell ⟨w.heap.size, 4, none⟩ (.int .i64 0)).setCell ⟨w.heap.size, 5, none⟩ (.slice none 0 0)) w.heap.size 31 #[.int .i64 id, .int .i64 p, .int .i64 0, .bool true, .int .i64 0, .slice none 0 0, .int .i64 0, .slice none 0 0, .slice none 0 0, .slice none 0 0] := Bx.put PP4 5 _
  have PP6 : Bx (((((((W.setCell ⟨w.heap.size, 0, none⟩ (.int .i64 id)).setCell ⟨w.heap.size, 1, none⟩ (.int .i64 p)).setCell ⟨w.heap.size, 2, none⟩ (.int .i64 0)).setCell ⟨w.heap.size, 3, none⟩ (.bool true)).setCell ⟨w.heap.size, 4, none⟩ (.int .i64 0)).setCell ⟨w.heap.size, 5, none⟩ (.slice none 0 0)).setCell ⟨w.heap.size, 6, none⟩ (.int .i64 0)) w.heap.size 31 #[.int .i64 id, .int .i64 p, .int .i64 0, .bool true, .int .i64 0, .slice none 0 0, .int .i64 0, .slice none 0 0, .slice none 0 0, .slice none 0 0] := Bx.put PP5 6 _
  have PP7 : Bx ((((((((W.setCell ⟨w.heap.size, 0, none⟩ (.int .i64 id)).setCell ⟨w.heap.size, 1, none⟩ (.int .i64 p)).setCell ⟨w.heap.size, 2, none⟩ (.int .i64 0)).setCell ⟨w.heap.size, 3, none⟩ (.bool true)).setCell ⟨w.heap.size, 4, none⟩ (.int .i64 0)).setCell ⟨w.heap.size, 5, none⟩ (.slice none 0 0)).setCell ⟨w.heap.size, 6, none⟩ (.int .i64 0)).setCell ⟨w.heap.size, 7, none⟩ (.slice none 0 0)) w.heap.size 31 #[.int .i64 id, .int .i64 p, .int .i64 0, .bool true, .int .i64 0, .slice none 0 0, .int .i64 0, .slice none 0 0, .slice none 0 0, .slice none 0 0] := Bx.put PP6 7 _
  have PP8 : Bx (((((((((W.setCell ⟨w.heap.size, 0, none⟩ (.int .i64 id)).setCell ⟨w.heap.size, 1, none⟩ (.int .i64 p)).setCell ⟨w.heap.size, 2, none⟩ (.int .i64 0)).setCell ⟨w.heap.size, 3, none⟩ (.bool true)).setCell ⟨w.heap.size, 4, none⟩ (.int .i64 0)).setCell ⟨w.heap.size, 5, none⟩ (.slice none 0 0)).setCell ⟨w.heap.size, 6, none⟩ (.int .i64 0)).setCell ⟨w.heap.size, 7, none⟩ (.slice none 0 0)).setCell ⟨w.heap.size, 8, none⟩ (.slice none 0 0)) w.heap.size 31 #[.int .i64 id, .int .i64 p, .int .i64 0, .bool true, .int .i64 0, .slice none 0 0, .int .i64 0, .slice none 0 0, .slice none 0 0, .slice none 0 0] := Bx.put PP7 8 _
  have PP9 : Bx ((((((((((W.setCell ⟨w.heap.size, 0, none⟩ (.int .i64 id)).setCell ⟨w.heap.size, 1, none⟩ (.int .i64 p)).setCell ⟨w.heap.size, 2, none⟩ (.int .i64 0)).setCell ⟨w.heap.size, 3, none⟩ (.bool true)).setCell ⟨w.heap.size, 4, none⟩ (.int .i64 0)).setCell ⟨w.heap.size, 5, none⟩ (.slice none 0 0)).setCell ⟨w.heap.size, 6, none⟩ (.int .i64 0)).setCell ⟨w.heap.size, 7, none⟩ (.slice none 0 0)).setCell ⟨w.heap.size, 8, none⟩ (.slice none 0 0)).setCell ⟨w.heap.size, 9, none⟩ (.slice none 0 0)) w.heap.size 31 #[.int .i64 id, .int .i64 p, .int .i64 0, .bool true, .int .i64 0, .slice none 0 0, .int .i64 0, .slice none 0 0, .slice none 0 0, .slice none 0 0] := Bx.put PP8 9 _
  have HFY : Hid (Bx ((((((((((W.setCell ⟨w.heap.size, 0, none⟩ (.int .i64 id)).setCell ⟨w.heap.size, 1, none⟩ (.int .i64 p)).setCell ⟨w.heap.size, 2, none⟩ (.int .i64 0)).setCell ⟨w.heap.size, 3, none⟩ (.bool true)).setCell ⟨w.heap.size, 4, none⟩ (.int .i64 0)).setCell ⟨w.heap.size, 5, none⟩ (.slice none 0 0)).setCell ⟨w.heap.size, 6, none⟩ (.int .i64 0)).setCell ⟨w.heap.size, 7, none⟩ (.slice none 0 0)).setCell ⟨w.heap.size, 8, none⟩ (.slice none 0 0)).setCell ⟨w.heap.size, 9, none⟩ (.slice none 0 0)) w.heap.size 31 #[.int .i64 id, .int .i64 p, .int .i64 0, .bool true, .int .i64 0, .slice none 0 0, .int .i64 0, .slice none 0 0, .slice none 0 0, .slice none 0 0]) := PP9
  clear PP0 PP1 PP2 PP3 PP4 PP5 PP6 PP7 PP8 PP9
  have BFY : Hid (Below w.heap.size w ((((((((((W.setCell ⟨w.heap.size, 0, none⟩ (.int .i64 id)).setCell ⟨w.heap.size, 1, none⟩ (.int .i64 p)).setCell ⟨w.heap.size, 2, none⟩ (.int .i64 0)).setCell ⟨w.heap.size, 3, none⟩ (.bool true)).setCell ⟨w.heap.size, 4, none⟩ (.int .i64 0)).setCell ⟨w.heap.size, 5, none⟩ (.slice none 0 0)).setCell ⟨w.heap.size, 6, none⟩ (.int .i64 0)).setCell ⟨w.heap.size, 7, none⟩ (.slice none 0 0)).setCell ⟨w.heap.size, 8, none⟩ (.slice none 0 0)).setCell ⟨w.heap.size, 9, none⟩ (.slice none 0 0))) := (show Hid _ from ((((((((((B3.out.setCell (p := ⟨w.heap.size, 0, none⟩) (Nat.le_refl _) _).setCell (p := ⟨w.heap.size, 1, none⟩) (Nat.le_refl _) _).setCell (p := ⟨w.heap.size, 2, none⟩) (Nat.le_refl _) _).setCell (p := ⟨w.heap.size, 3, none⟩) (Nat.le_refl _) _).setCell (p := ⟨w.heap.size, 4, none⟩) (Nat.le_refl _) _).setCell (p := ⟨w.heap.size, 5, none⟩) (Nat.le_refl _) _).setCell (p := ⟨w.heap.size, 6, none⟩) (Nat.le_refl _) _).setCell (p := ⟨w.heap.size, 7, none⟩) (Nat.le_refl _) _).setCell (p := ⟨w.heap.size, 8, none⟩) (Nat.le_refl _) _).setCell (p := ⟨w.heap.size, 9, none⟩) (Nat.le_refl _) _))
  have OFY : Hid (HasN ((((((((((W.setCell ⟨w.heap.size, 0, none⟩ (.int .i64 id)).setCell ⟨w.heap.size, 1, none⟩ (.int .i64 p)).setCell ⟨w.heap.size, 2, none⟩ (.int .i64 0)).setCell ⟨w.heap.size, 3, none⟩ (.bool true)).setCell ⟨w.heap.size, 4, none⟩ (.int .i64 0)).setCell ⟨w.heap.size, 5, none⟩ (.slice none 0 0)).setCell ⟨w.heap.size, 6, none⟩ (.int .i64 0)).setCell ⟨w.heap.size, 7, none⟩ (.slice none 0 0)).setCell ⟨w.heap.size, 8, none⟩ (.slice none 0 0)).setCell ⟨w.heap.size, 9, none⟩ (.slice none 0 0)) w.heap.size (.slice none 0 0) (newZ id p)) := (show Hid _ from by
    have hfr := HasE.from HO3.out
    repeat (refine HasE.oth ?_ _ _ (fun k hk => by have := hfr k hk; have := HWL.out; have := SW.out; have := SZ.out; show k ≠ w.heap.size; omega))
    exact HasE.low HO3.out HWL.out)
  have r0 := HR3.out.cell 0
  have r1 := HR3.out.cell 1
  have r2 := HR3.out.cell 2
  have r3 := HR3.out.cell 3
  have r4 := HR3.out.cell 4
  have r5 := HR3.out.cell 5
  have r6 := HR3.out.cell 6
  have r7 := HR3.out.cell 7
  have r8 := HR3.out.cell 8
  have r9 := HR3.out.cell 9
  have z0 := HZ3.out.cell 0
  have z1 := HZ3.out.cell 1
  have z2 := HZ3.out.cell 2
  have z3 := HZ3.out.cell 3
  have z4 := HZ3.out.cell 4
  have z5 := HZ3.out.cell 5
  have z6 := HZ3.out.cell 6
  have z7 := HZ3.out.cell 7
  have z8 := HZ3.out.cell 8
  have z9 := HZ3.out.cell 9
  have zf0 := HZ3.out.free 0
  have zf1 := HZ3.out.free 1
  have zf2 := HZ3.out.free 2
  have zf3 := HZ3.out.free 3
  have zf4 := HZ3.out.free 4
  have zf5 := HZ3.out.free 5
  have zf6 := HZ3.out.free 6
  have zf7 := HZ3.out.free 7
  have zf8 := HZ3.out.free 8
  have zf9 := HZ3.out.free 9
  go_wp2
  clear z0 z1 z2 z3 z4 z5 z6 z7 z8 z9 zf0 zf1 zf2 zf3 zf4 zf5 zf6 zf7 zf8 zf9 r0 r1 r2 r3 r4 r5 r6 r7 r8 r9
  generalize ((((((((((W.setCell ⟨w.heap.size, 0, none⟩ (.int .i64 id)).setCell ⟨w.heap.size, 1, none⟩ (.int .i64 p)).setCell ⟨w.heap.size, 2, none⟩ (.int .i64 0)).setCell ⟨w.heap.size, 3, none⟩ (.bool true)).setCell ⟨w.heap.size, 4, none⟩ (.int .i64 0)).setCell ⟨w.heap.size, 5, none⟩ (.slice none 0 0)).setCell ⟨w.heap.size, 6, none⟩ (.int .i64 0)).setCell ⟨w.heap.size, 7, none⟩ (.slice none 0 0)).setCell ⟨w.heap.size, 8, none⟩ (.slice none 0 0)).setCell ⟨w.heap.size, 9, none⟩ (.slice none 0 0)) = w5 at HFY BFY OFY ⊢
  have y0 := HFY.out.cell 0
  have y1 := HFY.out.cell 1
  have y2 := HFY.out.cell 2
  have y3 := HFY.out.cell 3
  have y4 := HFY.out.cell 4
  have y5 := HFY.out.cell 5
  have y6 := HFY.out.cell 6
  have y7 := HFY.out.cell 7
  have y8 := HFY.out.cell 8
  have y9 := HFY.out.cell 9
  refine bodyPost_ret (v := .tuple #[.agg #[.int .i64 id, .int .i64 p, .int .i64 0, .bool true, .int .i64 0, .slice none 0 0, .int .i64 0, .slice none 0 0, .slice none 0 0, .slice none 0 0], .bool true]) (by simp [results, Try.results11, go_sem, y0, y1, y2, y3, y4, y5, y6, y7, y8, y9]) rfl ?_
  exact NewAns.yes HY.out rfl (by rw [HNZ.out]; rfl) OFY.out BFY.out

end Go.Proofs.Ytdahfhkeeemdiaa.Rl
namespace Go.Proofs.Ytdahfhkeeemdiaa.Rl
open Go.RowKit Go.Sort Go.Shelf

theorem implNewR (id p : Int) (w : World) : Calls Try.prog 12 #[.int .i64 id, .int .i64 p] w fun e w' => NewAns id p w e w' := by
  cases h1 : decide (pOk p) with
  | false => exact implNewA id p w h1
  | true =>
    cases h2 : ipB id p with
    | false => exact implNewB id p w h1 h2
    | true => exact implNewC id p w h1 h2
theorem specNewR (id p : Int) (w : World) : Calls Try.prog 11 #[.int .i64 id, .int .i64 p] w fun e w' => NewAns id p w e w' := by
  cases h1 : decide (pOk p) with
  | false => exact specNewA id p w h1
  | true =>
    cases h2 : ipB id p with
    | false => exact specNewB id p w h1 h2
    | true =>
      by_cases h0 : id = 0
      · subst h0
        exact specNewC p w h1 h2
      · exact specNewD id p w h1 h2 h0
end Go.Proofs.Ytdahfhkeeemdiaa.Rl
namespace Go.Proofs.Ytdahfhkeeemdiaa.Rl
open Go.RowKit Go.Sort
set_option linter.unusedVariables false
set_option linter.unusedSimpArgs false

theorem newA_nil (id p : Int) : (newA id p).l = [] ∧ (newA id p).ch = [] ∧ (newA id p).te = [] := by
  cases h : newB id p with
  | false => rw [newA_no h]; exact ⟨rfl, rfl, rfl⟩
  | true => rw [newA_yes h]; exact ⟨rfl, rfl, rfl⟩
theorem newA_ok (id p : Int) : (newA id p).ok.length ≤ 5 := by
  cases h : newB id p with
  | false => rw [newA_no h]; exact Nat.zero_le _
  | true =>
    rw [newA_yes h]
    have hp : pOk p := by
      unfold newB at h
      exact of_decide_eq_true (Bool.and_eq_true_iff.1 h).1
    show (newZ id p).length ≤ 5
    unfold newZ
    split
    · rw [List.length_replicate]; rcases hp with h | h | h <;> omega
    · exact Nat.zero_le _
theorem newA_fit (id p : Int) : Fit (newA id p) := by
  obtain ⟨n1, n2, n3⟩ := newA_nil id p
  have n4 := newA_ok id p
  exact ⟨by rw [n1]; exact ⟨Nat.zero_le _, fun x hx => nomatch hx⟩, by omega, by rw [n2]; exact Nat.zero_le _, by rw [n3]; exact ⟨Nat.zero_le _, fun x hx => nomatch hx⟩⟩
theorem newA_cR (id p : Int) : 1 + cR (newA id p) ≤ 50000000 := by
  obtain ⟨n1, n2, n3⟩ := newA_nil id p
  have n4 := newA_ok id p
  unfold cR
  rw [n1, n2, n3]
  simp
  omega
theorem specNewS (id p : Int) (w : World) :
    Calls Try.prog 11 #[.int .i64 id, .int .i64 p] w fun e w' => ∃ pl0 ql0 po0 qo0 pc0 qc0 pt0 qt0 M0, e = .returned (.tuple #[.agg #[.int .i64 (newA id p).id, .int .i64 (newA id p).p, .int .i64 (newA id p).v, .bool (newA id p).n, .int .i64 (newA id p).la, .slice pl0 (newA id p).l.length ql0, .int .i64 (newA id p).c, .slice po0 (newA id p).ok.length qo0, .slice pc0 (newA id p).ch.length qc0, .slice pt0 (newA id p).te.length qt0], .bool (newB id p)]) ∧ RpHas w' w.heap.size ⟨.slice pl0 (newA id p).l.length ql0, .slice po0 (newA id p).ok.length qo0, .slice pc0 (newA id p).ch.length qc0, .slice pt0 (newA id p).te.length qt0, M0⟩ (newA id p) ∧ RpAp ⟨.slice pl0 (newA id p).l.length ql0, .slice po0 (newA id p).ok.length qo0, .slice pc0 (newA id p).ch.length qc0, .slice pt0 (newA id p).te.length qt0, M0⟩ ∧ Below w.heap.size w w' :=
  (specNewR id p w).mono fun e w' ⟨a, c, h1, h2, h3⟩ => by
    obtain ⟨n1, n2, n3⟩ := newA_nil id p
    refine ⟨none, 0, a, c, none, 0, none, 0, [], ?_, ⟨?_, h2, ?_, ?_, ?_, fun x hx => nomatch hx⟩, ?_, h3⟩
    · rw [h1, n1, n2, n3]; rfl
    · rw [n1]; exact .inl ⟨rfl, rfl⟩
    · rw [n2]; exact .inl ⟨rfl, rfl⟩
    · rw [n3]; rfl
    · rw [n3]; exact .inl ⟨rfl, rfl⟩
    · rw [n1, n2, n3]
      unfold RpAp Rv.rows
      simp [ap, Value.ownBlock]
theorem implNewS (id p : Int) (w : World) :
    Calls Try.prog 12 #[.int .i64 id, .int .i64 p] w fun e w' => ∃ pl0 ql0 po0 qo0 pc0 qc0 pt0 qt0 M0, e = .returned (.tuple #[.agg #[.int .i64 (newA id p).id, .int .i64 (newA id p).p, .int .i64 (newA id p).v, .bool (newA id p).n, .int .i64 (newA id p).la, .slice pl0 (newA id p).l.length ql0, .int .i64 (newA id p).c, .slice po0 (newA id p).ok.length qo0, .slice pc0 (newA id p).ch.length qc0, .slice pt0 (newA id p).te.length qt0], .bool (newB id p)]) ∧ RpHas w' w.heap.size ⟨.slice pl0 (newA id p).l.length ql0, .slice po0 (newA id p).ok.length qo0, .slice pc0 (newA id p).ch.length qc0, .slice pt0 (newA id p).te.length qt0, M0⟩ (newA id p) ∧ RpAp ⟨.slice pl0 (newA id p).l.length ql0, .slice po0 (newA id p).ok.length qo0, .slice pc0 (newA id p).ch.length qc0, .slice pt0 (newA id p).te.length qt0, M0⟩ ∧ Below w.heap.size w w' :=
  (implNewR id p w).mono fun e w' ⟨a, c, h1, h2, h3⟩ => by
    obtain ⟨n1, n2, n3⟩ := newA_nil id p
    refine ⟨none, 0, a, c, none, 0, none, 0, [], ?_, ⟨?_, h2, ?_, ?_, ?_, fun x hx => nomatch hx⟩, ?_, h3⟩
    · rw [h1, n1, n2, n3]; rfl
    · rw [n1]; exact .inl ⟨rfl, rfl⟩
    · rw [n2]; exact .inl ⟨rfl, rfl⟩
    · rw [n3]; rfl
    · rw [n3]; exact .inl ⟨rfl, rfl⟩
    · rw [n1, n2, n3]
      unfold RpAp Rv.rows
      simp [ap, Value.ownBlock]
theorem markRp1 {r : Rp} {u : Rv} {lo hi : Nat} (hf : Fit r) (hc : 1 + cR r ≤ 50000000) (W : World) (h : RpF lo hi u r W) (hap : RpAp u) :
    Calls Try.prog 13 #[rpA r u, .int .i64 1] W fun e w' => e = .returned (.int .i64 (kR r)) ∧ RpF lo hi (mkRv 1 r u) (mkRp 1 r u.T) w' ∧ Chg lo hi W w' :=
  (markRp 1 (by decide) r u lo hc W h.1 hap hf).mono fun e w' ⟨h1, h2, h3⟩ =>
    ⟨h1, ⟨h2, fun v hv => h.2 v (by rw [mkRv_rows] at hv; exact hv)⟩, h3.chg (fun k ⟨v, hv, hk⟩ => ⟨h.1.from v hv k hk, h.2 v hv k hk⟩)⟩
theorem heldRp1 {r : Rp} {u : Rv} {lo hi : Nat} (hf : Fit r) (hc : 1 + cR r ≤ 50000000) (W : World) (h : RpF lo hi (mkRv 1 r u) (mkRp 1 r u.T) W) (ht : u.T.map (·.m) = r.te) :
    Calls Try.prog 14 #[rpA r u, .int .i64 1] W fun e w' => e = .returned (.int .i64 (kR r)) ∧ Below W.heap.size W w' :=
  heldRp 1 (by decide) r u hc W h.1.got ht hf
set_option maxRecDepth 100000 in
set_option maxHeartbeats 16000000 in
theorem walkNew (id p : Int) (w : World) :
    Calls Try.prog 4 #[.int .i64 id, .int .i64 p] w fun e w' => e = .returned (.bool true) ∧ Below w.heap.size w w' := by
  have hsp := fun W => specNewS id p W
  have him := fun W => implNewS id p W
  have hf : Fit (newA id p) := newA_fit id p
  have hcr := newA_cR id p
  generalize newA id p = r at hsp him hf hcr
  generalize newB id p = bb at hsp him
  have dbb : (bb != bb) = false := by simp
  have HF : Hid (Fit r) := hf
  have HC : Hid (1 + cR r ≤ 50000000) := hcr
  have hel := fun ux uy W hx hy => eqRp r ux uy W hx hy hf
  have hkm := fun u lo hi W (h : RpF lo hi u r W) hap => markRp1 hf hcr W h hap
  have hhd := fun u lo hi W (h : RpF lo hi (mkRv 1 r u) (mkRp 1 r u.T) W) ht => heldRp1 hf hcr W h ht
  have hk0 : ¬ kR r < 0 := kR_nn r
  generalize kR r = kk at hkm hhd hk0
  have dkk : (kk != kk) = false := by simp
  unfold rpA at *
  clear hf hcr
  go_enter Try.func4, Try.ntmps4
  go_wp2_with fail
  refine (hsp _).mono ?_
  rintro e w1 ⟨pl1, ql1, po1, qo1, pc1, qc1, pt1, qt1, M1, rfl, ho, ha, hb⟩
  have AS : Hid (RpAp ⟨.slice pl1 r.l.length ql1, .slice po1 r.ok.length qo1, .slice pc1 r.ch.length qc1, .slice pt1 r.te.length qt1, M1⟩) := ha
  have TS : Hid ((⟨.slice pl1 r.l.length ql1, .slice po1 r.ok.length qo1, .slice pc1 r.ch.length qc1, .slice pt1 r.te.length qt1, M1⟩ : Rv).T.map (·.m) = r.te) := ho.t
  clear ha
  have S : Hid (Liv w.heap.size w1.heap.size (RpF w.heap.size w1.heap.size ⟨.slice pl1 r.l.length ql1, .slice po1 r.ok.length qo1, .slice pc1 r.ch.length qc1, .slice pt1 r.te.length qt1, M1⟩ r) w1) := (show Hid _ from Liv.newRp ho)
  have Z1 : Hid (w.heap.size ≤ w1.heap.size) := hb.size
  have BB : Hid (Below w.heap.size w w1) := hb
  clear hb ho
  have hbA : Below w1.heap.size w1 (w1.alloc (.cells #[.int .i64 r.id, .int .i64 r.p, .int .i64 r.v, .bool r.n, .int .i64 r.la, .slice pl1 r.l.length ql1, .int .i64 r.c, .slice po1 r.ok.length qo1, .slice pc1 r.ch.length qc1, .slice pt1 r.te.length qt1] 31)) := (Below.refl _ _).alloc (Nat.le_refl _) _
  have zA : (w1.alloc (.cells #[.int .i64 r.id, .int .i64 r.p, .int .i64 r.v, .bool r.n, .int .i64 r.la, .slice pl1 r.l.length ql1, .int .i64 r.c, .slice po1 r.ok.length qo1, .slice pc1 r.ch.length qc1, .slice pt1 r.te.length qt1] 31)).heap.size = w1.heap.size + 1 := by simp
  replace S : Hid (Liv w.heap.size w1.heap.size (RpF w.heap.size w1.heap.size ⟨.slice pl1 r.l.length ql1, .slice po1 r.ok.length qo1, .slice pc1 r.ch.length qc1, .slice pt1 r.te.length qt1, M1⟩ r) (w1.alloc (.cells #[.int .i64 r.id, .int .i64 r.p, .int .i64 r.v, .bool r.n, .int .i64 r.la, .slice pl1 r.l.length ql1, .int .i64 r.c, .slice po1 r.ok.length qo1, .slice pc1 r.ch.length qc1, .slice pt1 r.te.length qt1] 31))) := S.out.kept hbA
  replace BB : Hid (Below w.heap.size w (w1.alloc (.cells #[.int .i64 r.id, .int .i64 r.p, .int .i64 r.v, .bool r.n, .int .i64 r.la, .slice pl1 r.l.length ql1, .int .i64 r.c, .slice po1 r.ok.length qo1, .slice pc1 r.ch.length qc1, .slice pt1 r.te.length qt1] 31))) := (show Hid _ from BB.out.trans (hbA.mono BB.out.size))
  have S0 : Hid (Liv w1.heap.size (w1.heap.size + 1) (fun W => Bx W (w1.heap.size) 31 #[.int .i64 r.id, .int .i64 r.p, .int .i64 r.v, .bool r.n, .int .i64 r.la, .slice pl1 r.l.length ql1, .int .i64 r.c, .slice po1 r.ok.length qo1, .slice pc1 r.ch.length qc1, .slice pt1 r.te.length qt1]) (w1.alloc (.cells #[.int .i64 r.id, .int .i64 r.p, .int .i64 r.v, .bool r.n, .int .i64 r.la, .slice pl1 r.l.length ql1, .int .i64 r.c, .slice po1 r.ok.length qo1, .slice pc1 r.ch.length qc1, .slice pt1 r.te.length qt1] 31))) := (show Hid _ from Liv.box (Bx.new _ _ _))
  clear hbA
  generalize hww2 : (w1.alloc (.cells #[.int .i64 r.id, .int .i64 r.p, .int .i64 r.v, .bool r.n, .int .i64 r.la, .slice pl1 r.l.length ql1, .int .i64 r.c, .slice po1 r.ok.length qo1, .slice pc1 r.ch.length qc1, .slice pt1 r.te.length qt1] 31)) = w2 at BB zA S S0
  have Z2 : Hid (w2.heap.size = w1.heap.size + 1) := zA
  clear zA
  have S0_0 := S0.out.now.cell 0
  have S0_1 := S0.out.now.cell 1
  have S0_2 := S0.out.now.cell 2
  have S0_3 := S0.out.now.cell 3
  have S0_4 := S0.out.now.cell 4
  have S0_5 := S0.out.now.cell 5
  have S0_6 := S0.out.now.cell 6
  have S0_7 := S0.out.now.cell 7
  have S0_8 := S0.out.now.cell 8
  have S0_9 := S0.out.now.cell 9
  go_wp2_with fail
  clear hww2
  clear S0_0 S0_1 S0_2 S0_3 S0_4 S0_5 S0_6 S0_7 S0_8 S0_9
  refine (him _).mono ?_
  rintro e w3 ⟨pl2, ql2, po2, qo2, pc2, qc2, pt2, qt2, M2, rfl, ho, ha, hb⟩
  have AX : Hid (RpAp ⟨.slice pl2 r.l.length ql2, .slice po2 r.ok.length qo2, .slice pc2 r.ch.length qc2, .slice pt2 r.te.length qt2, M2⟩) := ha
  have TX : Hid ((⟨.slice pl2 r.l.length ql2, .slice po2 r.ok.length qo2, .slice pc2 r.ch.length qc2, .slice pt2 r.te.length qt2, M2⟩ : Rv).T.map (·.m) = r.te) := ho.t
  clear ha
  replace S : Hid (Liv w.heap.size w1.heap.size (RpF w.heap.size w1.heap.size ⟨.slice pl1 r.l.length ql1, .slice po1 r.ok.length qo1, .slice pc1 r.ch.length qc1, .slice pt1 r.te.length qt1, M1⟩ r) w3) := S.out.kept hb
  replace S0 : Hid (Liv w1.heap.size (w1.heap.size + 1) (fun W => Bx W (w1.heap.size) 31 #[.int .i64 r.id, .int .i64 r.p, .int .i64 r.v, .bool r.n, .int .i64 r.la, .slice pl1 r.l.length ql1, .int .i64 r.c, .slice po1 r.ok.length qo1, .slice pc1 r.ch.length qc1, .slice pt1 r.te.length qt1]) w3) := S0.out.kept hb
  have X : Hid (Liv w2.heap.size w3.heap.size (RpF w2.heap.size w3.heap.size ⟨.slice pl2 r.l.length ql2, .slice po2 r.ok.length qo2, .slice pc2 r.ch.length qc2, .slice pt2 r.te.length qt2, M2⟩ r) w3) := (show Hid _ from Liv.newRp ho)
  have Z3 : Hid (w2.heap.size ≤ w3.heap.size) := hb.size
  replace BB : Hid (Below w.heap.size w w3) := (show Hid _ from BB.out.trans (hb.mono BB.out.size))
  clear hb ho
  have hbA : Below w3.heap.size w3 (w3.alloc (.cells #[.int .i64 r.id, .int .i64 r.p, .int .i64 r.v, .bool r.n, .int .i64 r.la, .slice pl2 r.l.length ql2, .int .i64 r.c, .slice po2 r.ok.length qo2, .slice pc2 r.ch.length qc2, .slice pt2 r.te.length qt2] 31)) := (Below.refl _ _).alloc (Nat.le_refl _) _
  have zA : (w3.alloc (.cells #[.int .i64 r.id, .int .i64 r.p, .int .i64 r.v, .bool r.n, .int .i64 r.la, .slice pl2 r.l.length ql2, .int .i64 r.c, .slice po2 r.ok.length qo2, .slice pc2 r.ch.length qc2, .slice pt2 r.te.length qt2] 31)).heap.size = w3.heap.size + 1 := by simp
  replace S : Hid (Liv w.heap.size w1.heap.size (RpF w.heap.size w1.heap.size ⟨.slice pl1 r.l.length ql1, .slice po1 r.ok.length qo1, .slice pc1 r.ch.length qc1, .slice pt1 r.te.length qt1, M1⟩ r) (w3.alloc (.cells #[.int .i64 r.id, .int .i64 r.p, .int .i64 r.v, .bool r.n, .int .i64 r.la, .slice pl2 r.l.length ql2, .int .i64 r.c, .slice po2 r.ok.length qo2, .slice pc2 r.ch.length qc2, .slice pt2 r.te.length qt2] 31))) := S.out.kept hbA
  replace S0 : Hid (Liv w1.heap.size (w1.heap.size + 1) (fun W => Bx W (w1.heap.size) 31 #[.int .i64 r.id, .int .i64 r.p, .int .i64 r.v, .bool r.n, .int .i64 r.la, .slice pl1 r.l.length ql1, .int .i64 r.c, .slice po1 r.ok.length qo1, .slice pc1 r.ch.length qc1, .slice pt1 r.te.length qt1]) (w3.alloc (.cells #[.int .i64 r.id, .int .i64 r.p, .int .i64 r.v, .bool r.n, .int .i64 r.la, .slice pl2 r.l.length ql2, .int .i64 r.c, .slice po2 r.ok.length qo2, .slice pc2 r.ch.length qc2, .slice pt2 r.te.length qt2] 31))) := S0.out.kept hbA
  replace X : Hid (Liv w2.heap.size w3.heap.size (RpF w2.heap.size w3.heap.size ⟨.slice pl2 r.l.length ql2, .slice po2 r.ok.length qo2, .slice pc2 r.ch.length qc2, .slice pt2 r.te.length qt2, M2⟩ r) (w3.alloc (.cells #[.int .i64 r.id, .int .i64 r.p, .int .i64 r.v, .bool r.n, .int .i64 r.la, .slice pl2 r.l.length ql2, .int .i64 r.c, .slice po2 r.ok.length qo2, .slice pc2 r.ch.length qc2, .slice pt2 r.te.length qt2] 31))) := X.out.kept hbA
  replace BB : Hid (Below w.heap.size w (w3.alloc (.cells #[.int .i64 r.id, .int .i64 r.p, .int .i64 r.v, .bool r.n, .int .i64 r.la, .slice pl2 r.l.length ql2, .int .i64 r.c, .slice po2 r.ok.length qo2, .slice pc2 r.ch.length qc2, .slice pt2 r.te.length qt2] 31))) := (show Hid _ from BB.out.trans (hbA.mono BB.out.size))
  have X0 : Hid (Liv w3.heap.size (w3.heap.size + 1) (fun W => Bx W (w3.heap.size) 31 #[.int .i64 r.id, .int .i64 r.p, .int .i64 r.v, .bool r.n, .int .i64 r.la, .slice pl2 r.l.length ql2, .int .i64 r.c, .slice po2 r.ok.length qo2, .slice pc2 r.ch.length qc2, .slice pt2 r.te.length qt2]) (w3.alloc (.cells #[.int .i64 r.id, .int .i64 r.p, .int .i64 r.v, .bool r.n, .int .i64 r.la, .slice pl2 r.l.length ql2, .int .i64 r.c, .slice po2 r.ok.length qo2, .slice pc2 r.ch.length qc2, .slice pt2 r.te.length qt2] 31))) := (show Hid _ from Liv.box (Bx.new _ _ _))
  clear hbA
  generalize hww4 : (w3.alloc (.cells #[.int .i64 r.id, .int .i64 r.p, .int .i64 r.v, .bool r.n, .int .i64 r.la, .slice pl2 r.l.length ql2, .int .i64 r.c, .slice po2 r.ok.length qo2, .slice pc2 r.ch.length qc2, .slice pt2 r.te.length qt2] 31)) = w4 at BB zA S S0 X X0
  have Z4 : Hid (w4.heap.size = w3.heap.size + 1) := zA
  clear zA
  have S0_0 := S0.out.now.cell 0
  have S0_1 := S0.out.now.cell 1
  have S0_2 := S0.out.now.cell 2
  have S0_3 := S0.out.now.cell 3
  have S0_4 := S0.out.now.cell 4
  have S0_5 := S0.out.now.cell 5
  have S0_6 := S0.out.now.cell 6
  have S0_7 := S0.out.now.cell 7
  have S0_8 := S0.out.now.cell 8
  have S0_9 := S0.out.now.cell 9
  have X0_0 := X0.out.now.cell 0
  have X0_1 := X0.out.now.cell 1
  have X0_2 := X0.out.now.cell 2
  have X0_3 := X0.out.now.cell 3
  have X0_4 := X0.out.now.cell 4
  have X0_5 := X0.out.now.cell 5
  have X0_6 := X0.out.now.cell 6
  have X0_7 := X0.out.now.cell 7
  have X0_8 := X0.out.now.cell 8
  have X0_9 := X0.out.now.cell 9
  go_wp2_with fail
  clear hww4
  clear S0_0 S0_1 S0_2 S0_3 S0_4 S0_5 S0_6 S0_7 S0_8 S0_9 X0_0 X0_1 X0_2 X0_3 X0_4 X0_5 X0_6 X0_7 X0_8 X0_9
  refine (hel _ _ _ X.out.now.1.got S.out.now.1.got).mono ?_
  rintro e w5 ⟨rfl, hb⟩
  replace S : Hid (Liv w.heap.size w1.heap.size (RpF w.heap.size w1.heap.size ⟨.slice pl1 r.l.length ql1, .slice po1 r.ok.length qo1, .slice pc1 r.ch.length qc1, .slice pt1 r.te.length qt1, M1⟩ r) w5) := S.out.kept hb
  replace S0 : Hid (Liv w1.heap.size (w1.heap.size + 1) (fun W => Bx W (w1.heap.size) 31 #[.int .i64 r.id, .int .i64 r.p, .int .i64 r.v, .bool r.n, .int .i64 r.la, .slice pl1 r.l.length ql1, .int .i64 r.c, .slice po1 r.ok.length qo1, .slice pc1 r.ch.length qc1, .slice pt1 r.te.length qt1]) w5) := S0.out.kept hb
  replace X : Hid (Liv w2.heap.size w3.heap.size (RpF w2.heap.size w3.heap.size ⟨.slice pl2 r.l.length ql2, .slice po2 r.ok.length qo2, .slice pc2 r.ch.length qc2, .slice pt2 r.te.length qt2, M2⟩ r) w5) := X.out.kept hb
  replace X0 : Hid (Liv w3.heap.size (w3.heap.size + 1) (fun W => Bx W (w3.heap.size) 31 #[.int .i64 r.id, .int .i64 r.p, .int .i64 r.v, .bool r.n, .int .i64 r.la, .slice pl2 r.l.length ql2, .int .i64 r.c, .slice po2 r.ok.length qo2, .slice pc2 r.ch.length qc2, .slice pt2 r.te.length qt2]) w5) := X0.out.kept hb
  have Z5 : Hid (w4.heap.size ≤ w5.heap.size) := hb.size
  replace BB : Hid (Below w.heap.size w w5) := (show Hid _ from BB.out.trans (hb.mono BB.out.size))
  clear hb
  have S0_0 := S0.out.now.cell 0
  have S0_1 := S0.out.now.cell 1
  have S0_2 := S0.out.now.cell 2
  have S0_3 := S0.out.now.cell 3
  have S0_4 := S0.out.now.cell 4
  have S0_5 := S0.out.now.cell 5
  have S0_6 := S0.out.now.cell 6
  have S0_7 := S0.out.now.cell 7
  have S0_8 := S0.out.now.cell 8
  have S0_9 := S0.out.now.cell 9
  have X0_0 := X0.out.now.cell 0
  have X0_1 := X0.out.now.cell 1
  have X0_2 := X0.out.now.cell 2
  have X0_3 := X0.out.now.cell 3
  have X0_4 := X0.out.now.cell 4
  have X0_5 := X0.out.now.cell 5
  have X0_6 := X0.out.now.cell 6
  have X0_7 := X0.out.now.cell 7
  have X0_8 := X0.out.now.cell 8
  have X0_9 := X0.out.now.cell 9
  go_wp2_with fail
  clear S0_0 S0_1 S0_2 S0_3 S0_4 S0_5 S0_6 S0_7 S0_8 S0_9 X0_0 X0_1 X0_2 X0_3 X0_4 X0_5 X0_6 X0_7 X0_8 X0_9
  refine (hkm _ _ _ _ X.out.now AX.out).mono ?_
  rintro e w6 ⟨rfl, hm, hb⟩
  have hc : Chg w2.heap.size w3.heap.size w5 w6 := hb
  replace S : Hid (Liv w.heap.size w1.heap.size (RpF w.heap.size w1.heap.size ⟨.slice pl1 r.l.length ql1, .slice po1 r.ok.length qo1, .slice pc1 r.ch.length qc1, .slice pt1 r.te.length qt1, M1⟩ r) w6) := S.out.off hc (by have := Z1.out; have := Z2.out; have := Z3.out; have := Z4.out; have := Z5.out; omega)
  replace S0 : Hid (Liv w1.heap.size (w1.heap.size + 1) (fun W => Bx W (w1.heap.size) 31 #[.int .i64 r.id, .int .i64 r.p, .int .i64 r.v, .bool r.n, .int .i64 r.la, .slice pl1 r.l.length ql1, .int .i64 r.c, .slice po1 r.ok.length qo1, .slice pc1 r.ch.length qc1, .slice pt1 r.te.length qt1]) w6) := S0.out.off hc (by have := Z1.out; have := Z2.out; have := Z3.out; have := Z4.out; have := Z5.out; omega)
  replace X : Hid (Liv w2.heap.size w3.heap.size (RpF w2.heap.size w3.heap.size (mkRv 1 r ⟨.slice pl2 r.l.length ql2, .slice po2 r.ok.length qo2, .slice pc2 r.ch.length qc2, .slice pt2 r.te.length qt2, M2⟩) (mkRp 1 r M2)) w6) := (show Hid _ from Liv.rp hm.1 hm.2 (Nat.le_trans X.out.top hb.size))
  replace X0 : Hid (Liv w3.heap.size (w3.heap.size + 1) (fun W => Bx W (w3.heap.size) 31 #[.int .i64 r.id, .int .i64 r.p, .int .i64 r.v, .bool r.n, .int .i64 r.la, .slice pl2 r.l.length ql2, .int .i64 r.c, .slice po2 r.ok.length qo2, .slice pc2 r.ch.length qc2, .slice pt2 r.te.length qt2]) w6) := X0.out.off hc (by have := Z1.out; have := Z2.out; have := Z3.out; have := Z4.out; have := Z5.out; omega)
  have Z6 : Hid (w5.heap.size ≤ w6.heap.size) := hc.size
  replace BB : Hid (Below w.heap.size w w6) := (show Hid _ from hc.below BB.out BB.out.size (by have := Z1.out; have := Z2.out; have := Z3.out; have := Z4.out; have := Z5.out; have := Z6.out; omega))
  clear hb hc hm
  have S0_0 := S0.out.now.cell 0
  have S0_1 := S0.out.now.cell 1
  have S0_2 := S0.out.now.cell 2
  have S0_3 := S0.out.now.cell 3
  have S0_4 := S0.out.now.cell 4
  have S0_5 := S0.out.now.cell 5
  have S0_6 := S0.out.now.cell 6
  have S0_7 := S0.out.now.cell 7
  have S0_8 := S0.out.now.cell 8
  have S0_9 := S0.out.now.cell 9
  have X0_0 := X0.out.now.cell 0
  have X0_1 := X0.out.now.cell 1
  have X0_2 := X0.out.now.cell 2
  have X0_3 := X0.out.now.cell 3
  have X0_4 := X0.out.now.cell 4
  have X0_5 := X0.out.now.cell 5
  have X0_6 := X0.out.now.cell 6
  have X0_7 := X0.out.now.cell 7
  have X0_8 := X0.out.now.cell 8
  have X0_9 := X0.out.now.cell 9
  go_wp2_with fail
  clear S0_0 S0_1 S0_2 S0_3 S0_4 S0_5 S0_6 S0_7 S0_8 S0_9 X0_0 X0_1 X0_2 X0_3 X0_4 X0_5 X0_6 X0_7 X0_8 X0_9
  refine (hhd _ _ _ _ X.out.now TX.out).mono ?_
  rintro e w7 ⟨rfl, hb⟩
  replace S : Hid (Liv w.heap.size w1.heap.size (RpF w.heap.size w1.heap.size ⟨.slice pl1 r.l.length ql1, .slice po1 r.ok.length qo1, .slice pc1 r.ch.length qc1, .slice pt1 r.te.length qt1, M1⟩ r) w7) := S.out.kept hb
  replace S0 : Hid (Liv w1.heap.size (w1.heap.size + 1) (fun W => Bx W (w1.heap.size) 31 #[.int .i64 r.id, .int .i64 r.p, .int .i64 r.v, .bool r.n, .int .i64 r.la, .slice pl1 r.l.length ql1, .int .i64 r.c, .slice po1 r.ok.length qo1, .slice pc1 r.ch.length qc1, .slice pt1 r.te.length qt1]) w7) := S0.out.kept hb
  replace X : Hid (Liv w2.heap.size w3.heap.size (RpF w2.heap.size w3.heap.size (mkRv 1 r ⟨.slice pl2 r.l.length ql2, .slice po2 r.ok.length qo2, .slice pc2 r.ch.length qc2, .slice pt2 r.te.length qt2, M2⟩) (mkRp 1 r M2)) w7) := X.out.kept hb
  replace X0 : Hid (Liv w3.heap.size (w3.heap.size + 1) (fun W => Bx W (w3.heap.size) 31 #[.int .i64 r.id, .int .i64 r.p, .int .i64 r.v, .bool r.n, .int .i64 r.la, .slice pl2 r.l.length ql2, .int .i64 r.c, .slice po2 r.ok.length qo2, .slice pc2 r.ch.length qc2, .slice pt2 r.te.length qt2]) w7) := X0.out.kept hb
  have Z7 : Hid (w6.heap.size ≤ w7.heap.size) := hb.size
  replace BB : Hid (Below w.heap.size w w7) := (show Hid _ from BB.out.trans (hb.mono BB.out.size))
  clear hb
  have S0_0 := S0.out.now.cell 0
  have S0_1 := S0.out.now.cell 1
  have S0_2 := S0.out.now.cell 2
  have S0_3 := S0.out.now.cell 3
  have S0_4 := S0.out.now.cell 4
  have S0_5 := S0.out.now.cell 5
  have S0_6 := S0.out.now.cell 6
  have S0_7 := S0.out.now.cell 7
  have S0_8 := S0.out.now.cell 8
  have S0_9 := S0.out.now.cell 9
  have X0_0 := X0.out.now.cell 0
  have X0_1 := X0.out.now.cell 1
  have X0_2 := X0.out.now.cell 2
  have X0_3 := X0.out.now.cell 3
  have X0_4 := X0.out.now.cell 4
  have X0_5 := X0.out.now.cell 5
  have X0_6 := X0.out.now.cell 6
  have X0_7 := X0.out.now.cell 7
  have X0_8 := X0.out.now.cell 8
  have X0_9 := X0.out.now.cell 9
  go_wp2_with fail
  clear S0_0 S0_1 S0_2 S0_3 S0_4 S0_5 S0_6 S0_7 S0_8 S0_9 X0_0 X0_1 X0_2 X0_3 X0_4 X0_5 X0_6 X0_7 X0_8 X0_9
  refine (him _).mono ?_
  rintro e w8 ⟨pl3, ql3, po3, qo3, pc3, qc3, pt3, qt3, M3, rfl, ho, ha, hb⟩
  have AH : Hid (RpAp ⟨.slice pl3 r.l.length ql3, .slice po3 r.ok.length qo3, .slice pc3 r.ch.length qc3, .slice pt3 r.te.length qt3, M3⟩) := ha
  have TH : Hid ((⟨.slice pl3 r.l.length ql3, .slice po3 r.ok.length qo3, .slice pc3 r.ch.length qc3, .slice pt3 r.te.length qt3, M3⟩ : Rv).T.map (·.m) = r.te) := ho.t
  clear ha
  replace S : Hid (Liv w.heap.size w1.heap.size (RpF w.heap.size w1.heap.size ⟨.slice pl1 r.l.length ql1, .slice po1 r.ok.length qo1, .slice pc1 r.ch.length qc1, .slice pt1 r.te.length qt1, M1⟩ r) w8) := S.out.kept hb
  replace S0 : Hid (Liv w1.heap.size (w1.heap.size + 1) (fun W => Bx W (w1.heap.size) 31 #[.int .i64 r.id, .int .i64 r.p, .int .i64 r.v, .bool r.n, .int .i64 r.la, .slice pl1 r.l.length ql1, .int .i64 r.c, .slice po1 r.ok.length qo1, .slice pc1 r.ch.length qc1, .slice pt1 r.te.length qt1]) w8) := S0.out.kept hb
  replace X : Hid (Liv w2.heap.size w3.heap.size (RpF w2.heap.size w3.heap.size (mkRv 1 r ⟨.slice pl2 r.l.length ql2, .slice po2 r.ok.length qo2, .slice pc2 r.ch.length qc2, .slice pt2 r.te.length qt2, M2⟩) (mkRp 1 r M2)) w8) := X.out.kept hb
  replace X0 : Hid (Liv w3.heap.size (w3.heap.size + 1) (fun W => Bx W (w3.heap.size) 31 #[.int .i64 r.id, .int .i64 r.p, .int .i64 r.v, .bool r.n, .int .i64 r.la, .slice pl2 r.l.length ql2, .int .i64 r.c, .slice po2 r.ok.length qo2, .slice pc2 r.ch.length qc2, .slice pt2 r.te.length qt2]) w8) := X0.out.kept hb
  have H : Hid (Liv w7.heap.size w8.heap.size (RpF w7.heap.size w8.heap.size ⟨.slice pl3 r.l.length ql3, .slice po3 r.ok.length qo3, .slice pc3 r.ch.length qc3, .slice pt3 r.te.length qt3, M3⟩ r) w8) := (show Hid _ from Liv.newRp ho)
  have Z8 : Hid (w7.heap.size ≤ w8.heap.size) := hb.size
  replace BB : Hid (Below w.heap.size w w8) := (show Hid _ from BB.out.trans (hb.mono BB.out.size))
  clear hb ho
  have hbA : Below w8.heap.size w8 (w8.alloc (.cells #[.int .i64 r.id, .int .i64 r.p, .int .i64 r.v, .bool r.n, .int .i64 r.la, .slice pl3 r.l.length ql3, .int .i64 r.c, .slice po3 r.ok.length qo3, .slice pc3 r.ch.length qc3, .slice pt3 r.te.length qt3] 31)) := (Below.refl _ _).alloc (Nat.le_refl _) _
  have zA : (w8.alloc (.cells #[.int .i64 r.id, .int .i64 r.p, .int .i64 r.v, .bool r.n, .int .i64 r.la, .slice pl3 r.l.length ql3, .int .i64 r.c, .slice po3 r.ok.length qo3, .slice pc3 r.ch.length qc3, .slice pt3 r.te.length qt3] 31)).heap.size = w8.heap.size + 1 := by simp
  replace S : Hid (Liv w.heap.size w1.heap.size (RpF w.heap.size w1.heap.size ⟨.slice pl1 r.l.length ql1, .slice po1 r.ok.length qo1, .slice pc1 r.ch.length qc1, .slice pt1 r.te.length qt1, M1⟩ r) (w8.alloc (.cells #[.int .i64 r.id, .int .i64 r.p, .int .i64 r.v, .bool r.n, .int .i64 r.la, .slice pl3 r.l.length ql3, .int .i64 r.c, .slice po3 r.ok.length qo3, .slice pc3 r.ch.length qc3, .slice pt3 r.te.length qt3] 31))) := S.out.kept hbA
  replace S0 : Hid (Liv w1.heap.size (w1.heap.size + 1) (fun W => Bx W (w1.heap.size) 31 #[.int .i64 r.id, .int .i64 r.p, .int .i64 r.v, .bool r.n, .int .i64 r.la, .slice pl1 r.l.length ql1, .int .i64 r.c, .slice po1 r.ok.length qo1, .slice pc1 r.ch.length qc1, .slice pt1 r.te.length qt1]) (w8.alloc (.cells #[.int .i64 r.id, .int .i64 r.p, .int .i64 r.v, .bool r.n, .int .i64 r.la, .slice pl3 r.l.length ql3, .int .i64 r.c, .slice po3 r.ok.length qo3, .slice pc3 r.ch.length qc3, .slice pt3 r.te.length qt3] 31))) := S0.out.kept hbA
  replace X : Hid (Liv w2.heap.size w3.heap.size (RpF w2.heap.size w3.heap.size (mkRv 1 r ⟨.slice pl2 r.l.length ql2, .slice po2 r.ok.length qo2, .slice pc2 r.ch.length qc2, .slice pt2 r.te.length qt2, M2⟩) (mkRp 1 r M2)) (w8.alloc (.cells #[.int .i64 r.id, .int .i64 r.p, .int .i64 r.v, .bool r.n, .int .i64 r.la, .slice pl3 r.l.length ql3, .int .i64 r.c, .slice po3 r.ok.length qo3, .slice pc3 r.ch.length qc3, .slice pt3 r.te.length qt3] 31))) := X.out.kept hbA
  replace X0 : Hid (Liv w3.heap.size (w3.heap.size + 1) (fun W => Bx W (w3.heap.size) 31 #[.int .i64 r.id, .int .i64 r.p, .int .i64 r.v, .bool r.n, .int .i64 r.la, .slice pl2 r.l.length ql2, .int .i64 r.c, .slice po2 r.ok.length qo2, .slice pc2 r.ch.length qc2, .slice pt2 r.te.length qt2]) (w8.alloc (.cells #[.int .i64 r.id, .int .i64 r.p, .int .i64 r.v, .bool r.n, .int .i64 r.la, .slice pl3 r.l.length ql3, .int .i64 r.c, .slice po3 r.ok.length qo3, .slice pc3 r.ch.length qc3, .slice pt3 r.te.length qt3] 31))) := X0.out.kept hbA
  replace H : Hid (Liv w7.heap.size w8.heap.size (RpF w7.heap.size w8.heap.size ⟨.slice pl3 r.l.length ql3, .slice po3 r.ok.length qo3, .slice pc3 r.ch.length qc3, .slice pt3 r.te.length qt3, M3⟩ r) (w8.alloc (.cells #[.int .i64 r.id, .int .i64 r.p, .int .i64 r.v, .bool r.n, .int .i64 r.la, .slice pl3 r.l.length ql3, .int .i64 r.c, .slice po3 r.ok.length qo3, .slice pc3 r.ch.length qc3, .slice pt3 r.te.length qt3] 31))) := H.out.kept hbA
  replace BB : Hid (Below w.heap.size w (w8.alloc (.cells #[.int .i64 r.id, .int .i64 r.p, .int .i64 r.v, .bool r.n, .int .i64 r.la, .slice pl3 r.l.length ql3, .int .i64 r.c, .slice po3 r.ok.length qo3, .slice pc3 r.ch.length qc3, .slice pt3 r.te.length qt3] 31))) := (show Hid _ from BB.out.trans (hbA.mono BB.out.size))
  have H0 : Hid (Liv w8.heap.size (w8.heap.size + 1) (fun W => Bx W (w8.heap.size) 31 #[.int .i64 r.id, .int .i64 r.p, .int .i64 r.v, .bool r.n, .int .i64 r.la, .slice pl3 r.l.length ql3, .int .i64 r.c, .slice po3 r.ok.length qo3, .slice pc3 r.ch.length qc3, .slice pt3 r.te.length qt3]) (w8.alloc (.cells #[.int .i64 r.id, .int .i64 r.p, .int .i64 r.v, .bool r.n, .int .i64 r.la, .slice pl3 r.l.length ql3, .int .i64 r.c, .slice po3 r.ok.length qo3, .slice pc3 r.ch.length qc3, .slice pt3 r.te.length qt3] 31))) := (show Hid _ from Liv.box (Bx.new _ _ _))
  clear hbA
  generalize hww9 : (w8.alloc (.cells #[.int .i64 r.id, .int .i64 r.p, .int .i64 r.v, .bool r.n, .int .i64 r.la, .slice pl3 r.l.length ql3, .int .i64 r.c, .slice po3 r.ok.length qo3, .slice pc3 r.ch.length qc3, .slice pt3 r.te.length qt3] 31)) = w9 at BB zA S S0 X X0 H H0
  have Z9 : Hid (w9.heap.size = w8.heap.size + 1) := zA
  clear zA
  have S0_0 := S0.out.now.cell 0
  have S0_1 := S0.out.now.cell 1
  have S0_2 := S0.out.now.cell 2
  have S0_3 := S0.out.now.cell 3
  have S0_4 := S0.out.now.cell 4
  have S0_5 := S0.out.now.cell 5
  have S0_6 := S0.out.now.cell 6
  have S0_7 := S0.out.now.cell 7
  have S0_8 := S0.out.now.cell 8
  have S0_9 := S0.out.now.cell 9
  have X0_0 := X0.out.now.cell 0
  have X0_1 := X0.out.now.cell 1
  have X0_2 := X0.out.now.cell 2
  have X0_3 := X0.out.now.cell 3
  have X0_4 := X0.out.now.cell 4
  have X0_5 := X0.out.now.cell 5
  have X0_6 := X0.out.now.cell 6
  have X0_7 := X0.out.now.cell 7
  have X0_8 := X0.out.now.cell 8
  have X0_9 := X0.out.now.cell 9
  have H0_0 := H0.out.now.cell 0
  have H0_1 := H0.out.now.cell 1
  have H0_2 := H0.out.now.cell 2
  have H0_3 := H0.out.now.cell 3
  have H0_4 := H0.out.now.cell 4
  have H0_5 := H0.out.now.cell 5
  have H0_6 := H0.out.now.cell 6
  have H0_7 := H0.out.now.cell 7
  have H0_8 := H0.out.now.cell 8
  have H0_9 := H0.out.now.cell 9
  go_wp2_with fail
  clear hww9
  clear S0_0 S0_1 S0_2 S0_3 S0_4 S0_5 S0_6 S0_7 S0_8 S0_9 X0_0 X0_1 X0_2 X0_3 X0_4 X0_5 X0_6 X0_7 X0_8 X0_9 H0_0 H0_1 H0_2 H0_3 H0_4 H0_5 H0_6 H0_7 H0_8 H0_9
  refine (hel _ _ _ H.out.now.1.got S.out.now.1.got).mono ?_
  rintro e w10 ⟨rfl, hb⟩
  replace S : Hid (Liv w.heap.size w1.heap.size (RpF w.heap.size w1.heap.size ⟨.slice pl1 r.l.length ql1, .slice po1 r.ok.length qo1, .slice pc1 r.ch.length qc1, .slice pt1 r.te.length qt1, M1⟩ r) w10) := S.out.kept hb
  replace S0 : Hid (Liv w1.heap.size (w1.heap.size + 1) (fun W => Bx W (w1.heap.size) 31 #[.int .i64 r.id, .int .i64 r.p, .int .i64 r.v, .bool r.n, .int .i64 r.la, .slice pl1 r.l.length ql1, .int .i64 r.c, .slice po1 r.ok.length qo1, .slice pc1 r.ch.length qc1, .slice pt1 r.te.length qt1]) w10) := S0.out.kept hb
  replace X : Hid (Liv w2.heap.size w3.heap.size (RpF w2.heap.size w3.heap.size (mkRv 1 r ⟨.slice pl2 r.l.length ql2, .slice po2 r.ok.length qo2, .slice pc2 r.ch.length qc2, .slice pt2 r.te.length qt2, M2⟩) (mkRp 1 r M2)) w10) := X.out.kept hb
  replace X0 : Hid (Liv w3.heap.size (w3.heap.size + 1) (fun W => Bx W (w3.heap.size) 31 #[.int .i64 r.id, .int .i64 r.p, .int .i64 r.v, .bool r.n, .int .i64 r.la, .slice pl2 r.l.length ql2, .int .i64 r.c, .slice po2 r.ok.length qo2, .slice pc2 r.ch.length qc2, .slice pt2 r.te.length qt2]) w10) := X0.out.kept hb
  replace H : Hid (Liv w7.heap.size w8.heap.size (RpF w7.heap.size w8.heap.size ⟨.slice pl3 r.l.length ql3, .slice po3 r.ok.length qo3, .slice pc3 r.ch.length qc3, .slice pt3 r.te.length qt3, M3⟩ r) w10) := H.out.kept hb
  replace H0 : Hid (Liv w8.heap.size (w8.heap.size + 1) (fun W => Bx W (w8.heap.size) 31 #[.int .i64 r.id, .int .i64 r.p, .int .i64 r.v, .bool r.n, .int .i64 r.la, .slice pl3 r.l.length ql3, .int .i64 r.c, .slice po3 r.ok.length qo3, .slice pc3 r.ch.length qc3, .slice pt3 r.te.length qt3]) w10) := H0.out.kept hb
  have Z10 : Hid (w9.heap.size ≤ w10.heap.size) := hb.size
  replace BB : Hid (Below w.heap.size w w10) := (show Hid _ from BB.out.trans (hb.mono BB.out.size))
  clear hb
  have S0_0 := S0.out.now.cell 0
  have S0_1 := S0.out.now.cell 1
  have S0_2 := S0.out.now.cell 2
  have S0_3 := S0.out.now.cell 3
  have S0_4 := S0.out.now.cell 4
  have S0_5 := S0.out.now.cell 5
  have S0_6 := S0.out.now.cell 6
  have S0_7 := S0.out.now.cell 7
  have S0_8 := S0.out.now.cell 8
  have S0_9 := S0.out.now.cell 9
  have X0_0 := X0.out.now.cell 0
  have X0_1 := X0.out.now.cell 1
  have X0_2 := X0.out.now.cell 2
  have X0_3 := X0.out.now.cell 3
  have X0_4 := X0.out.now.cell 4
  have X0_5 := X0.out.now.cell 5
  have X0_6 := X0.out.now.cell 6
  have X0_7 := X0.out.now.cell 7
  have X0_8 := X0.out.now.cell 8
  have X0_9 := X0.out.now.cell 9
  have H0_0 := H0.out.now.cell 0
  have H0_1 := H0.out.now.cell 1
  have H0_2 := H0.out.now.cell 2
  have H0_3 := H0.out.now.cell 3
  have H0_4 := H0.out.now.cell 4
  have H0_5 := H0.out.now.cell 5
  have H0_6 := H0.out.now.cell 6
  have H0_7 := H0.out.now.cell 7
  have H0_8 := H0.out.now.cell 8
  have H0_9 := H0.out.now.cell 9
  go_wp2_with fail
  clear S0_0 S0_1 S0_2 S0_3 S0_4 S0_5 S0_6 S0_7 S0_8 S0_9 X0_0 X0_1 X0_2 X0_3 X0_4 X0_5 X0_6 X0_7 X0_8 X0_9 H0_0 H0_1 H0_2 H0_3 H0_4 H0_5 H0_6 H0_7 H0_8 H0_9
  refine (hhd _ _ _ _ X.out.now TX.out).mono ?_
  rintro e w11 ⟨rfl, hb⟩
  replace S : Hid (Liv w.heap.size w1.heap.size (RpF w.heap.size w1.heap.size ⟨.slice pl1 r.l.length ql1, .slice po1 r.ok.length qo1, .slice pc1 r.ch.length qc1, .slice pt1 r.te.length qt1, M1⟩ r) w11) := S.out.kept hb
  replace S0 : Hid (Liv w1.heap.size (w1.heap.size + 1) (fun W => Bx W (w1.heap.size) 31 #[.int .i64 r.id, .int .i64 r.p, .int .i64 r.v, .bool r.n, .int .i64 r.la, .slice pl1 r.l.length ql1, .int .i64 r.c, .slice po1 r.ok.length qo1, .slice pc1 r.ch.length qc1, .slice pt1 r.te.length qt1]) w11) := S0.out.kept hb
  replace X : Hid (Liv w2.heap.size w3.heap.size (RpF w2.heap.size w3.heap.size (mkRv 1 r ⟨.slice pl2 r.l.length ql2, .slice po2 r.ok.length qo2, .slice pc2 r.ch.length qc2, .slice pt2 r.te.length qt2, M2⟩) (mkRp 1 r M2)) w11) := X.out.kept hb
  replace X0 : Hid (Liv w3.heap.size (w3.heap.size + 1) (fun W => Bx W (w3.heap.size) 31 #[.int .i64 r.id, .int .i64 r.p, .int .i64 r.v, .bool r.n, .int .i64 r.la, .slice pl2 r.l.length ql2, .int .i64 r.c, .slice po2 r.ok.length qo2, .slice pc2 r.ch.length qc2, .slice pt2 r.te.length qt2]) w11) := X0.out.kept hb
  replace H : Hid (Liv w7.heap.size w8.heap.size (RpF w7.heap.size w8.heap.size ⟨.slice pl3 r.l.length ql3, .slice po3 r.ok.length qo3, .slice pc3 r.ch.length qc3, .slice pt3 r.te.length qt3, M3⟩ r) w11) := H.out.kept hb
  replace H0 : Hid (Liv w8.heap.size (w8.heap.size + 1) (fun W => Bx W (w8.heap.size) 31 #[.int .i64 r.id, .int .i64 r.p, .int .i64 r.v, .bool r.n, .int .i64 r.la, .slice pl3 r.l.length ql3, .int .i64 r.c, .slice po3 r.ok.length qo3, .slice pc3 r.ch.length qc3, .slice pt3 r.te.length qt3]) w11) := H0.out.kept hb
  have Z11 : Hid (w10.heap.size ≤ w11.heap.size) := hb.size
  replace BB : Hid (Below w.heap.size w w11) := (show Hid _ from BB.out.trans (hb.mono BB.out.size))
  clear hb
  have S0_0 := S0.out.now.cell 0
  have S0_1 := S0.out.now.cell 1
  have S0_2 := S0.out.now.cell 2
  have S0_3 := S0.out.now.cell 3
  have S0_4 := S0.out.now.cell 4
  have S0_5 := S0.out.now.cell 5
  have S0_6 := S0.out.now.cell 6
  have S0_7 := S0.out.now.cell 7
  have S0_8 := S0.out.now.cell 8
  have S0_9 := S0.out.now.cell 9
  have X0_0 := X0.out.now.cell 0
  have X0_1 := X0.out.now.cell 1
  have X0_2 := X0.out.now.cell 2
  have X0_3 := X0.out.now.cell 3
  have X0_4 := X0.out.now.cell 4
  have X0_5 := X0.out.now.cell 5
  have X0_6 := X0.out.now.cell 6
  have X0_7 := X0.out.now.cell 7
  have X0_8 := X0.out.now.cell 8
  have X0_9 := X0.out.now.cell 9
  have H0_0 := H0.out.now.cell 0
  have H0_1 := H0.out.now.cell 1
  have H0_2 := H0.out.now.cell 2
  have H0_3 := H0.out.now.cell 3
  have H0_4 := H0.out.now.cell 4
  have H0_5 := H0.out.now.cell 5
  have H0_6 := H0.out.now.cell 6
  have H0_7 := H0.out.now.cell 7
  have H0_8 := H0.out.now.cell 8
  have H0_9 := H0.out.now.cell 9
  go_wp2
  go_ret
  exact ⟨rfl, BB.out⟩
end Go.Proofs.Ytdahfhkeeemdiaa.Rl

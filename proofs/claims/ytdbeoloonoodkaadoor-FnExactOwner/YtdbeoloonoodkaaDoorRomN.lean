/-
  The laws' marks in rows of numbers.
-/
import Derived.Test.YtdbeoloonoodkaaDoorRomM
namespace Go.Proofs.YtdbeoloonoodkaaDoor
open Go.RowKit Go.Sort Rom
set_option linter.unusedVariables false
set_option linter.unusedSimpArgs false

set_option maxHeartbeats 1000000 in
theorem markNum (v : Value) (l : List Int) (B : Nat) (w : World) (h : HasN w B v l) (hl : l.length ≤ 1048576) :
    Calls Tryd.prog 26 #[v, .int .i64 1] w fun e w' => e = .returned (.int .i64 (1 + (l.length : Int))) ∧ HasN w' B v (marksN l.length) ∧ w.grownBy w' v.ownBlock := by
  have hh := h
  obtain ⟨a, cap, rfl, h1, h2, h3⟩ := hh.form
  unfold maxLen at h2
  go_enter Tryd.func26, Tryd.ntmps26
  go_wp2
  go_loopw [1, 5] (fun m i wr => ∃ k : Nat, k ≤ l.length ∧ i = .int .i64 k ∧ m = .int .i64 (1 + (k : Int)) ∧ HasN wr B (.slice a l.length cap) (markedN l k) ∧ w.grownBy wr (Value.slice a l.length cap).ownBlock) (fun _ i _ => l.length - (intOf i).toNat)
  case atStart => exact ⟨0, Nat.zero_le _, rfl, rfl, by rw [markedN_zero]; exact h, grownE_self _ _⟩
  case round =>
    clear h hh
    obtain ⟨k, hk, rfl, rfl, ho, hgr⟩ := hrel
    by_cases hlt : k < l.length
    · obtain ⟨g, rfl⟩ := h3 (by omega)
      have hml := markedN_length l k hk
      have hnx := markedN_next l k hlt
      generalize hl2 : markedN l (k + 1) = l2 at hnx
      generalize markedN l k = l1 at ho hml hnx
      have d1 := hasN_at ho k (by omega)
      have f1 := ho.free k
      have ho2 := hasN_put ho (j := k) (by omega) (mkN k)
      have hg2 := grownE_put hgr k (.int .i64 (mkN k))
      rw [hnx] at ho2
      unfold mkN at ho2 hg2
      have HO : Hid _ := ho2
      have HG : Hid _ := hg2
      clear ho hgr h3 ho2 hg2
      go_wp2
      go_roundw
      case rel => exact ⟨k + 1, by omega, by go_num, by go_num, by rw [hl2]; exact HO.out, HG.out⟩
      case measure => simp [intOf]; omega
    · obtain rfl : k = l.length := by omega
      rw [markedN_all] at ho
      go_wp2
      go_ret
      exact ⟨rfl, ho, hgr⟩
set_option maxHeartbeats 1000000 in
theorem heldNum (v : Value) (n : Nat) (w : World) (h : Sls intE w v (marksN n)) (hl : n ≤ 1048576) :
    Calls Tryd.prog 27 #[v, .int .i64 1] w fun e w' => e = .returned (.int .i64 (1 + (n : Int))) ∧ w = w' := by
  have hml := marksN_length n
  obtain ⟨a, cap, rfl, h1, h2, h3⟩ := h.one
  unfold maxLen at h2
  rw [hml] at h1 ⊢
  have hat : ∀ (j : Nat) (hj : j < n), ∃ g o, a = some ⟨g, o, Option.none⟩ ∧ w.cell? ⟨g, o + j, Option.none⟩ = some (.int .i64 (1 + (j : Int))) := fun j hj => by
    obtain ⟨g, o, ha, _, hc⟩ := h3 (by omega)
    have := hc j (by omega)
    rw [marksN_at] at this
    exact ⟨g, o, ha, this⟩
  clear h h3 hml
  go_enter Tryd.func27, Tryd.ntmps27
  go_wp2
  go_loop [1, 5] (fun m i => ∃ k : Nat, k ≤ n ∧ i = .int .i64 k ∧ m = .int .i64 (1 + (k : Int))) (fun _ i => n - (intOf i).toNat)
  case atStart => exact ⟨0, Nat.zero_le _, rfl, rfl⟩
  case round =>
    obtain ⟨k, hk, rfl, rfl⟩ := hrel
    by_cases hlt : k < n
    · obtain ⟨g, o, rfl, c1⟩ := hat k hlt
      clear hat
      go_wp2
      go_round
      case rel => exact ⟨k + 1, by omega, by go_num, by go_num⟩
      case measure => simp [intOf]; omega
    · obtain rfl : k = n := by omega
      go_wp2
      go_ret
      exact ⟨rfl, rfl⟩
end Go.Proofs.YtdbeoloonoodkaaDoor

/-
  The laws' marks in rows of numbers, from any start; how much such a row holds.
-/
import Derived.Test.YtdoolnaekmffbaaRomM
namespace Go.Proofs.Ytdoolnaekmffbaa
open Go.RowKit Go.Sort
set_option linter.unusedVariables false
set_option linter.unusedSimpArgs false

def mkU (s j : Nat) : Int := (s : Int) + (j : Int)
def markedU (s : Nat) (l : List Int) (k : Nat) : List Int := (List.range k).map (mkU s) ++ l.drop k
def marksU (s n : Nat) : List Int := (List.range n).map (mkU s)
theorem markedU_length (s : Nat) (l : List Int) (k : Nat) (h : k ≤ l.length) : (markedU s l k).length = l.length := by unfold markedU; simp; omega
theorem markedU_zero (s : Nat) (l : List Int) : markedU s l 0 = l := by simp [markedU]
theorem markedU_all (s : Nat) (l : List Int) : markedU s l l.length = marksU s l.length := by simp [markedU, marksU]
theorem markedU_next (s : Nat) (l : List Int) (k : Nat) (h : k < l.length) : (markedU s l k).set k (mkU s k) = markedU s l (k + 1) := by
  unfold markedU
  have e : ((List.range k).map (mkU s)).length = k := by simp
  rw [List.set_append_right _ _ (by omega), e, Nat.sub_self, List.range_succ, List.map_append, List.append_assoc]
  congr 1
  rw [List.drop_eq_getElem_cons h, List.set_cons_zero]
  rfl
theorem marksU_length (s n : Nat) : (marksU s n).length = n := by simp [marksU]
theorem marksU_at (s n j : Nat) (h : j < (marksU s n).length) : (marksU s n)[j] = mkU s j := by simp [marksU]
def szU (left : Int) (l : List Int) : Int := if (l.length : Int) ≤ left then left - (l.length : Int) else -1
theorem szNu (v : Value) (l : List Int) (left : Int) (h0 : 0 ≤ left) (h1 : left ≤ 1048576) (w : World) (h : Sls intE w v l) :
    Calls Try.prog 53 #[v, .int .i64 left] w fun e w' => e = .returned (.int .i64 (szU left l)) ∧ w = w' := by
  obtain ⟨a, cap, rfl, _, h2, _⟩ := h.one
  unfold maxLen at h2
  have ew : IntKind.i64.wrap (left - (l.length : Int)) = left - (l.length : Int) := by rw [IntKind.wrap_i64]; omega
  clear h
  by_cases hf : (l.length : Int) ≤ left
  · have HE : Hid (left - (l.length : Int) = szU left l) := by show _ = _; unfold szU; rw [if_pos hf]
    have hn : ¬ (left - (l.length : Int) < 0) := by omega
    go_enter Try.func53, Try.ntmps53
    go_wp2
    go_ret
    exact ⟨congrArg (fun z => Ending.returned (.int .i64 z)) HE.out, rfl⟩
  · have HE : Hid (-1 = szU left l) := by show _ = _; unfold szU; rw [if_neg hf]
    have hn : left - (l.length : Int) < 0 := by omega
    go_enter Try.func53, Try.ntmps53
    go_wp2
    go_ret
    exact ⟨congrArg (fun z => Ending.returned (.int .i64 z)) HE.out, rfl⟩
set_option maxHeartbeats 1000000 in
theorem markNu (s : Nat) (hs2 : s ≤ 5000000) (v : Value) (l : List Int) (B : Nat) (w : World) (h : HasN w B v l) (hl : l.length ≤ 1048576) :
    Calls Try.prog 36 #[v, .int .i64 (s : Int)] w fun e w' => e = .returned (.int .i64 ((s : Int) + (l.length : Int))) ∧ HasN w' B v (marksU s l.length) ∧ w.grownBy w' v.ownBlock := by
  have hh := h
  obtain ⟨a, cap, rfl, h1, h2, h3⟩ := hh.form
  unfold maxLen at h2
  go_enter Try.func36, Try.ntmps36
  go_wp2
  go_loopw [1, 5] (fun m i wr => ∃ k : Nat, k ≤ l.length ∧ i = .int .i64 k ∧ m = .int .i64 ((s : Int) + (k : Int)) ∧ HasN wr B (.slice a l.length cap) (markedU s l k) ∧ w.grownBy wr (Value.slice a l.length cap).ownBlock) (fun _ i _ => l.length - (intOf i).toNat)
  case atStart => exact ⟨0, Nat.zero_le _, rfl, by simp, by rw [markedU_zero]; exact h, grownE_self _ _⟩
  case round =>
    clear h hh
    obtain ⟨k, hk, rfl, rfl, ho, hgr⟩ := hrel
    by_cases hlt : k < l.length
    · obtain ⟨g, rfl⟩ := h3 (by omega)
      have hml := markedU_length s l k hk
      have hnx := markedU_next s l k hlt
      generalize hl2 : markedU s l (k + 1) = l2 at hnx
      generalize markedU s l k = l1 at ho hml hnx
      have d1 := hasN_at ho k (by omega)
      have f1 := ho.free k
      have ho2 := hasN_put ho (j := k) (by omega) (mkU s k)
      have hg2 := grownE_put hgr k (.int .i64 (mkU s k))
      rw [hnx] at ho2
      unfold mkU at ho2 hg2
      have HO : Hid _ := ho2
      have HG : Hid _ := hg2
      clear ho hgr h3 ho2 hg2
      go_wp2
      go_roundw
      case rel => exact ⟨k + 1, by omega, by go_num, by go_num, by rw [hl2]; exact HO.out, HG.out⟩
      case measure => simp [intOf]; omega
    · obtain rfl : k = l.length := by omega
      rw [markedU_all] at ho
      go_wp2
      go_ret
      exact ⟨rfl, ho, hgr⟩
set_option maxHeartbeats 1000000 in
theorem heldNu (s : Nat) (hs2 : s ≤ 5000000) (v : Value) (n : Nat) (w : World) (h : Sls intE w v (marksU s n)) (hl : n ≤ 1048576) :
    Calls Try.prog 37 #[v, .int .i64 (s : Int)] w fun e w' => e = .returned (.int .i64 ((s : Int) + (n : Int))) ∧ w = w' := by
  have hml := marksU_length s n
  obtain ⟨a, cap, rfl, h1, h2, h3⟩ := h.one
  unfold maxLen at h2
  rw [hml] at h1 ⊢
  have hat : ∀ (j : Nat) (hj : j < n), ∃ g o, a = some ⟨g, o, Option.none⟩ ∧ w.cell? ⟨g, o + j, Option.none⟩ = some (.int .i64 ((s : Int) + (j : Int))) := fun j hj => by
    obtain ⟨g, o, ha, _, hc⟩ := h3 (by omega)
    have := hc j (by omega)
    rw [marksU_at] at this
    exact ⟨g, o, ha, this⟩
  clear h h3 hml
  go_enter Try.func37, Try.ntmps37
  go_wp2
  go_loop [1, 5] (fun m i => ∃ k : Nat, k ≤ n ∧ i = .int .i64 k ∧ m = .int .i64 ((s : Int) + (k : Int))) (fun _ i => n - (intOf i).toNat)
  case atStart => exact ⟨0, Nat.zero_le _, rfl, by simp⟩
  case round =>
    obtain ⟨k, hk, rfl, rfl⟩ := hrel
    by_cases hlt : k < n
    · obtain ⟨g, o, rfl, c1⟩ := hat k hlt
      clear hat
      go_wp2
      go_round
      case rel => exact ⟨k + 1, by omega, by go_num, by go_num⟩
      case measure => simp [intOf]; omega
    · obtain rfl : k = n := by omega
      go_wp2
      go_ret
      exact ⟨rfl, rfl⟩
end Go.Proofs.Ytdoolnaekmffbaa

/-
  The specification's l9Told by its contract.
-/
import Derived.Test.YtccnkmffadmfhaaGreatDoorCtlC
import Derived.Test.YtccnkmffadmfhaaGreatDoorCtlS
import Derived.Test.YtccnkmffadmfhaaGreatDoorNum
import Derived.Test.YtccnkmffadmfhaaGreatDoorLow
namespace Go.Proofs.YtccnkmffadmfhaaGreatDoor
open Go.RowKit Go.Sort
set_option linter.unusedVariables false
set_option linter.unusedSimpArgs false

theorem txt_eq9 (a b : ByteArray) : (a.toList == b.toList) = decide (a = b) := by
  by_cases h : a = b
  · subst h; simp
  · rw [decide_eq_false h]
    have : ¬ a.toList = b.toList := fun e => h (by
      have e2 : a.data.toList = b.data.toList := by simpa [ByteArray.toList_eq] using e
      cases a; cases b; simp at e2; rw [e2])
    simp [this]
theorem told_noI {x name : ByteArray} (h : x.size ≤ name.size ∨ ¬ x.extract 0 name.size = name) : told x name = (0, false) := by unfold told; rw [if_pos h]
theorem told_yesI {x name : ByteArray} (h1 : ¬ x.size ≤ name.size) (h2 : x.extract 0 name.size = name) : told x name = (minI 1000000000 (numV 10 15 (x.extract name.size x.size)), numOk 10 15 (x.extract name.size x.size)) := by
  unfold told; rw [if_neg (fun h => by rcases h with h | h; exact h1 h; exact h h2)]
theorem lowS_lowT (s : ByteArray) : lowS s = lowT s := rfl
set_option maxHeartbeats 1000000 in
theorem specTold (x name : ByteArray) (w : World) (hx : x.size ≤ maxLen) (hn : name.size ≤ maxLen) :
    Calls Tryz.prog 33 #[.string x, .string name] w fun e w' => e = .returned (.tuple #[.int .i64 (told x name).1, .bool (told x name).2]) ∧ Below w.heap.size w w' := by
  unfold maxLen at hx hn
  by_cases h1 : x.size ≤ name.size
  · rw [told_noI (.inl h1)]
    have d1 : decide ((x.size : Int) ≤ (name.size : Int)) = true := decide_eq_true (by omega)
    go_enter Tryz.func33, Tryz.ntmps33
    go_wp2
    go_ret2
    exact ⟨rfl, Below.refl _ _⟩
  · have d1 : decide ((x.size : Int) ≤ (name.size : Int)) = false := decide_eq_false (by omega)
    have he := txt_eq9 (x.extract 0 name.size) name
    by_cases h2 : x.extract 0 name.size = name
    · rw [told_yesI h1 h2]
      rw [decide_eq_true h2] at he
      have hd := fun W => specDig (x.extract name.size x.size) W (by unfold maxLen; simp; omega)
      unfold numE at hd
      have hm := fun W => specMin9 1000000000 (numV 10 15 (x.extract name.size x.size)) W
      generalize minI 1000000000 (numV 10 15 (x.extract name.size x.size)) = q at hm ⊢
      generalize numV 10 15 (x.extract name.size x.size) = v at hd hm
      generalize numOk 10 15 (x.extract name.size x.size) = b at hd ⊢
      have hle : name.size ≤ x.size := by omega
      clear h2
      go_enter Tryz.func33, Tryz.ntmps33
      go_wp2_with fail
      refine (hd _).mono ?_
      rintro e w1 ⟨rfl, hb1⟩
      have B1 : Hid (Below w.heap.size w w1) := hb1
      clear hb1
      go_wp2_with fail
      refine (hm _).mono ?_
      rintro e w2 ⟨rfl, rfl⟩
      go_wp2
      go_ret2
      exact ⟨rfl, B1.out⟩
    · rw [told_noI (.inr h2)]
      rw [decide_eq_false h2] at he
      have hle : name.size ≤ x.size := by omega
      go_enter Tryz.func33, Tryz.ntmps33
      go_wp2
      go_ret2
      exact ⟨rfl, Below.refl _ _⟩
end Go.Proofs.YtccnkmffadmfhaaGreatDoor

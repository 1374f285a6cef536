/-
  Plain facts on lists of texts in the order of their bytes: the sorted list, and that every way to sort comes to it; and on texts that are joined by a byte.
-/
import Derived.Test.YtnachhmhjodbhaaGreatDoorG09
import Derived.Sort.Walk0
namespace Go.Proofs.YtnachhmhjodbhaaGreatDoor
open Go.RowKit

theorem leL_total (a b : List UInt8) : (decide (a ≤ b) || decide (b ≤ a)) = true := by
  rcases List.le_total a b with h | h
  · simp [h]
  · simp [h]
theorem leL_trans (a b c : List UInt8) (h1 : decide (a ≤ b) = true) (h2 : decide (b ≤ c) = true) : decide (a ≤ c) = true :=
  decide_eq_true (List.le_trans (of_decide_eq_true h1) (of_decide_eq_true h2))
theorem leL_anti (a b : List UInt8) (h1 : a ≤ b) (h2 : b ≤ a) : a = b := List.le_antisymm h1 h2

/-- Sorted by bytes. -/
def SrtL (l : List (List UInt8)) : Prop := l.Pairwise fun a b => a ≤ b
theorem srt_one {a b : List (List UInt8)} (ha : SrtL a) (hb : SrtL b) (h : a.Perm b) : a = b :=
  List.Perm.eq_of_pairwise (fun x y _ _ h1 h2 => leL_anti x y h1 h2) ha hb h

/-- One text put into its place. -/
def insL (x : List UInt8) : List (List UInt8) → List (List UInt8)
  | [] => [x]
  | y :: r => if y ≤ x then y :: insL x r else x :: y :: r
def srtL (l : List (List UInt8)) : List (List UInt8) := l.foldr insL []
theorem insL_perm (x : List UInt8) : ∀ l, (insL x l).Perm (x :: l)
  | [] => List.Perm.refl _
  | y :: r => by
    unfold insL
    split
    · exact ((insL_perm x r).cons y).trans (List.Perm.swap x y r)
    · exact List.Perm.refl _
theorem insL_srt (x : List UInt8) : ∀ l, SrtL l → SrtL (insL x l)
  | [], _ => by unfold insL SrtL; simp
  | y :: r, h => by
    unfold SrtL at h
    rw [List.pairwise_cons] at h
    unfold insL
    split
    · rename_i hle
      unfold SrtL
      rw [List.pairwise_cons]
      refine ⟨fun z hz => ?_, insL_srt x r h.2⟩
      rcases List.mem_cons.1 ((insL_perm x r).subset hz) with rfl | hz
      · exact hle
      · exact h.1 z hz
    · rename_i hle
      have hxy : x ≤ y := by
        rcases List.le_total x y with e | e
        · exact e
        · exact absurd e hle
      unfold SrtL
      rw [List.pairwise_cons, List.pairwise_cons]
      refine ⟨fun z hz => ?_, h⟩
      rcases List.mem_cons.1 hz with rfl | hz
      · exact hxy
      · exact List.le_trans hxy (h.1 z hz)
theorem srtL_perm : ∀ l, (srtL l).Perm l
  | [] => List.Perm.refl _
  | x :: r => (insL_perm x (srtL r)).trans ((srtL_perm r).cons x)
theorem srtL_srt : ∀ l, SrtL (srtL l)
  | [] => List.Pairwise.nil
  | x :: r => insL_srt x _ (srtL_srt r)
theorem srtL_is {l m : List (List UInt8)} (h1 : SrtL m) (h2 : m.Perm l) : m = srtL l :=
  srt_one h1 (srtL_srt l) (h2.trans (srtL_perm l).symm)

end Go.Proofs.YtnachhmhjodbhaaGreatDoor

/-
  The program's spans in order: the library's sort of a copy.
-/
import Derived.Test.YtamfgjgmnnnjpaaSpnT
import Derived.Test.YtamfgjgmnnnjpaaSrtK
import Derived.Test.YtamfgjgmnnnjpaaShelfJ
namespace Go.Proofs.Ytamfgjgmnnnjpaa
open Go.RowKit Go.Sort
set_option linter.unusedVariables false

theorem ltS (x y : Sp) : ltOf cmpS x y = decide (x.1 < y.1) := by
  unfold ltOf cmpS
  by_cases h1 : x.1 < y.1
  · simp [h1]
  · by_cases h2 : y.1 < x.1 <;> simp [h1, h2]
theorem swoS : SWO (ltOf cmpS) where
  irrefl x := by rw [ltS]; simp
  trans x y z h1 h2 := by rw [ltS] at *; simp at *; omega
  ntrans x y z h1 h2 := by rw [ltS] at *; simp at *; omega
theorem cmpLS (blk off size : Nat) (w : World) : CmpLays Try.prog 26 #[] spnE.c 2 cmpS blk off size w :=
  fun _ _ _ _ x y => (implBy x y _).mono fun _ _ ⟨he, hg⟩ => ⟨he, hg.out⟩
theorem sorted_list {l : List Sp} {d : Array Sp} (hp : PermIn 0 l.toArray.size l.toArray d) (hs : SortedIn (ltOf cmpS) 0 l.toArray.size d) : d.size = l.length ∧ d.toList.Perm l ∧ Ris d.toList := by
  obtain ⟨h1, _, h3⟩ := hp
  have hsz : d.size = l.length := by rw [h1]; simp
  refine ⟨hsz, ?_, ?_⟩
  · have e1 : d.extract 0 l.toArray.size = d := by rw [← h1]; simp
    have e2 : l.toArray.extract 0 l.toArray.size = l.toArray := by simp
    rw [e1, e2] at h3
    exact h3
  · refine List.pairwise_iff_getElem.2 fun i j hi hj hij => ?_
    simp only [Array.length_toList] at hi hj
    have k := hs i j (Nat.zero_le _) hij (by rw [← h1]; exact hj)
    rw [ltS, getElem!_pos d i hi, getElem!_pos d j hj] at k
    have k2 := of_decide_eq_false k
    simp only [Array.getElem_toList]
    omega
/-- What a sort of the row v, which holds l, leaves. -/
def Srtd (B : Nat) (v : Value) (l : List Sp) (w w' : World) : Prop := ∃ l', l'.Perm l ∧ Ris l' ∧ OwnsS8 w' B v l' ∧ Below B w w'
theorem implIns (B : Nat) (v : Value) (l : List Sp) (w : World) (h : OwnsS8 w B v l) (hl : l.length ≤ 10) :
    Calls Try.prog 43 #[v, .int .i64 0, .int .i64 (l.length : Int), .func (.func 26) #[] #[]] w fun e w' => e = .returned (.tuple #[]) ∧ Srtd B v l w w' := by
  obtain ⟨a, cap, rfl, h1, h2, h3⟩ := h.form
  rcases h3 with ⟨rfl, rfl⟩ | ⟨g, rfl⟩
  · obtain rfl : l = [] := List.eq_nil_of_length_eq_zero (by omega)
    have HO : Hid (Srtd B (.slice Option.none 0 0) [] w w) := ⟨[], List.Perm.refl _, List.Pairwise.nil, h, Below.refl _ _⟩
    clear h h1 h2 hl
    simp only [List.length_nil, Int.natCast_zero] at *
    go_enter Try.func43, Try.ntmps43
    go_wp2
    go_loopw [8] (fun i wr => i = .int .i64 1 ∧ wr = w) (fun _ _ => 0)
    case atStart => exact ⟨rfl, rfl⟩
    case round =>
      obtain ⟨rfl, rfl⟩ := hrel
      go_wp2
      go_end0
      exact ⟨rfl, HO.out⟩
  · have eg : ∀ args w, (callFunc 26 args).run Try.prog w = .ok (.enter 26 args) w := enters_of Try.func26 (by kernel_rfl) rfl
    have hg := h.under g rfl
    have hB := h.from g rfl
    have hcon := AnyQ.insertionSortCmpFunc Try.laysIns 2 Try.isAgg30 Try.sizeOf30 spnE.c (fun _ => rfl) spnE.one cmpS 26 #[] g 0 cap 0 l.toArray.size l.toArray w eg (cmpLS g 0 l.toArray.size w) (h.holds rfl) hg (Nat.zero_le _) (Nat.le_refl _) (by simp; omega)
    have hq := insertionSort_holds (lt := ltOf cmpS) swoS l.toArray 0 l.toArray.size (Nat.zero_le _) (Nat.le_refl _)
    obtain ⟨k1, k2, k3⟩ := sorted_list hq.1 hq.2
    refine hcon.mono ?_
    rintro e w' ⟨rfl, n, os, rfl⟩
    exact ⟨rfl, _, k2, k3, h.sorted rfl n _ os k1, sorted_below spnE n _ os hB hg⟩
end Go.Proofs.Ytamfgjgmnnnjpaa

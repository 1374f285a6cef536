/-
  Plain facts: fields are read from what they are shown as, of no part of it; a field that is set is got; what has hops is gone for good.
-/
import Derived.Test.YtemmgfnepdgpbaaGreatDoorK06
namespace Go.Proofs.YtemmgfnepdgpbaaGreatDoor
open Go.RowKit

theorem mk_data (s : ByteArray) : (⟨s.data.toList.toArray⟩ : ByteArray) = s := by cases s; simp
theorem allB_at {p : Int → Bool} {l : List UInt8} (h : allB p l = true) {c : UInt8} (hc : c ∈ l) : p (c.toNat : Int) = true := List.all_eq_true.1 h c hc
theorem tok_bytes {s : ByteArray} (h : tokB s = true) {c : UInt8} (hc : c ∈ s.data.toList) : c ≠ 13 ∧ c ≠ 10 ∧ c ≠ 58 := by
  unfold tokB at h
  rw [Bool.and_eq_true] at h
  have := allB_at h.2 hc
  refine ⟨?_, ?_, ?_⟩ <;> (rintro rfl; revert this; decide)
theorem vis_bytes {s : ByteArray} (h : visB s = true) {c : UInt8} (hc : c ∈ s.data.toList) : c ≠ 13 ∧ c ≠ 10 := by
  unfold visB at h
  rw [Bool.and_eq_true] at h
  have := allB_at h.2 hc
  refine ⟨?_, ?_⟩ <;> (rintro rfl; revert this; decide)
def lineF (f : Fl) : List UInt8 := f.1.data.toList ++ [58] ++ (32 :: f.2.data.toList)
theorem showF_line (f : Fl) : showF f = lineF f ++ [13, 10] := by simp [showF, lineF]
theorem lineF_clean {f : Fl} (h : fldOk f = true) : clean (lineF f) := by
  obtain ⟨h1, h2, _⟩ := fldOk_parts h
  intro c hc
  rcases List.mem_append.1 hc with hc | hc
  · rcases List.mem_append.1 hc with hc | hc
    · exact ⟨(tok_bytes h1 hc).1, (tok_bytes h1 hc).2.1⟩
    · rw [List.mem_singleton.1 hc]; decide
  · rcases List.mem_cons.1 hc with rfl | hc
    · decide
    · exact vis_bytes h2 hc
theorem lineF_read {f : Fl} (h : fldOk f = true) : rdF (lineF f) = some f := by
  obtain ⟨h1, _, h3⟩ := fldOk_parts h
  have e : colL (lineF f) = some (f.1.data.toList, 32 :: f.2.data.toList) := colL_at _ fun c hc => (tok_bytes h1 hc).2.2
  have et : fldT f.1.data.toList (32 :: f.2.data.toList) = f := by
    unfold fldT
    rw [mk_data]
    have : trimB ⟨(32 :: f.2.data.toList).toArray⟩ = f.2 := by
      refine Eq.trans ?_ h3
      unfold trimB
      rw [ltr_yes _ (by decide)]
    rw [this]
  rw [rdF_yes e (by rw [et]; exact h), et]
/-! ### A field that is set is got -/
/-! ### What has hops -/
end Go.Proofs.YtemmgfnepdgpbaaGreatDoor

/-
  The walk of the law on items.
-/
import Derived.Test.YtcibdipdnmlhhaaDoorDraw4
import Derived.Test.YtcibdipdnmlhhaaDoorJoin
import Derived.Test.YtcibdipdnmlhhaaDoorRow
import Derived.Deep.LoopGhost
import Derived.Deep.Cut
import Derived.Deep.CutRange
namespace Go.Proofs.YtcibdipdnmlhhaaDoor
open Go.RowKit

theorem parts_len : ∀ (l cur : List UInt8) (q : Nat), ∀ p ∈ partsA cur q l, p.length ≤ cur.length + l.length := by
  intro l
  induction l with
  | nil =>
    intro cur q p hp
    have e : p = cur := by simpa [partsA] using hp
    subst e
    simp
  | cons d r ih =>
    intro cur q p hp
    have hp2 : p ∈ (if q = 0 ∧ d.toNat = 44 then cur :: partsA [] 0 r else partsA (cur ++ [d]) (dlt q d) r) := hp
    simp only [List.length_cons]
    by_cases h : q = 0 ∧ d.toNat = 44
    · rw [if_pos h] at hp2
      rcases List.mem_cons.1 hp2 with rfl | hp3
      · omega
      · have := ih [] 0 p hp3
        simp only [List.length_nil] at this
        omega
    · rw [if_neg h] at hp2
      have := ih (cur ++ [d]) (dlt q d) p hp2
      simp only [List.length_append, List.length_cons, List.length_nil] at this
      omega
theorem itemsA_size (s : ByteArray) : ∀ x ∈ itemsA s, x.size ≤ 400 := by
  cases hv : visB s with
  | false => rw [← itemsA_no hv]; intro x hx; cases hx
  | true =>
    rw [← itemsA_yes hv]
    intro x hx
    have hz := vis_size hv
    unfold itemsT itemsOf at hx
    rw [List.mem_flatMap] at hx
    obtain ⟨p, hp, hx⟩ := hx
    rw [parts_same s.data.toList.length _ [] false (Nat.le_refl _)] at hp
    have h1 := parts_len _ [] _ p hp
    have h2 : s.data.toList.length = s.size := by simp
    have h3 := trimB_size ⟨p.toArray⟩
    have h4 : (⟨p.toArray⟩ : ByteArray).size = p.length := by show p.toArray.size = _; simp
    simp only [List.length_nil] at h1
    by_cases h0 : 0 < (trimB ⟨p.toArray⟩).size
    · rw [one_yes h0] at hx
      have e : x = trimB ⟨p.toArray⟩ := by simpa using hx
      rw [e]
      omega
    · rw [one_no h0] at hx; cases hx

/-- What is joined so far. -/
def JoinTo (l : List ByteArray) (k : Nat) (j : ByteArray) : Prop := j.data.toList = joinL (bytesOf (l.take k)) ∧ j.size ≤ 401 * k
theorem JoinTo.none (l : List ByteArray) : JoinTo l 0 ⟨#[]⟩ := ⟨rfl, Nat.le_refl _⟩
theorem take_more (l : List ByteArray) (k : Nat) (h : k < l.length) : bytesOf (l.take (k + 1)) = bytesOf (l.take k) ++ [l[k].data.toList] := by
  rw [List.take_add_one, List.getElem?_eq_getElem h]
  unfold bytesOf
  rw [List.map_append]
  rfl
theorem JoinTo.first {l : List ByteArray} {j : ByteArray} (hj : JoinTo l 0 j) (h : 0 < l.length) (hx : l[0].size ≤ 400) : JoinTo l 1 (j ++ l[0]) := by
  refine ⟨?_, by rw [ByteArray.size_append]; have := hj.2; omega⟩
  rw [take_more l 0 h, ByteArray.data_append, Array.toList_append, hj.1]
  simp [bytesOf, joinL]
theorem JoinTo.next {l : List ByteArray} {j : ByteArray} {k : Nat} (hj : JoinTo l k j) (h : k < l.length) (h0 : 0 < k) (hx : l[k].size ≤ 400) : JoinTo l (k + 1) (j ++ ⟨#[44]⟩ ++ l[k]) := by
  refine ⟨?_, ?_⟩
  · rw [take_more l k h, joinL_snoc, ByteArray.data_append, ByteArray.data_append, Array.toList_append, Array.toList_append, hj.1]
    · simp
    · intro e
      have : (bytesOf (l.take k)).length = k := by unfold bytesOf; rw [List.length_map, List.length_take]; omega
      rw [e] at this
      simp at this
      omega
  · rw [ByteArray.size_append, ByteArray.size_append]
    have := hj.2
    have e : (⟨#[44]⟩ : ByteArray).size = 1 := rfl
    omega
theorem JoinTo.all {l : List ByteArray} {j : ByteArray} {k : Nat} (hj : JoinTo l k j) (h : ¬ k < l.length) : j.data.toList = joinL (bytesOf l) := by
  rw [hj.1, List.take_of_length_le (by omega)]
end Go.Proofs.YtcibdipdnmlhhaaDoor

/-
  Plain facts on what parts are written as.
-/
import Derived.Test.YtbdnfajdpajfpaaPrtS
import Derived.Test.YtbdnfajdpajfpaaHex2
import Derived.Deep.RegionLaw
namespace Go.Proofs.Ytbdnfajdpajfpaa
open Go.RowKit

theorem hexL_list {n : Nat} (h : n ≤ 4503599627370496) : (hexA (n : Int)).data.toList = hexF 13 n := by rw [← hexA_yes h]; rfl
theorem hexA_fits {n : Nat} (h : n ≤ 4503599627370496) : (hexA (n : Int)).size ≤ 14 := hexA_size n h
theorem oneL_none {p : ByteArray} (h : p.size = 0) : oneL p = [] := by unfold oneL; rw [if_pos h]
theorem oneL_some {p : ByteArray} (h : ¬ p.size = 0) : oneL p = hexF 13 p.size ++ [13, 10] ++ p.data.toList ++ [13, 10] := by unfold oneL; rw [if_neg h]
theorem flat_next {l : List ByteArray} {k : Nat} (h : k < l.length) : (l.take (k + 1)).flatMap oneL = (l.take k).flatMap oneL ++ oneL l[k] := by
  rw [List.take_succ_eq_append_getElem h, List.flatMap_append]
  simp
theorem oneL_length (p : ByteArray) : (oneL p).length ≤ p.size + 18 := by
  by_cases h0 : p.size = 0
  · rw [oneL_none h0]; simp
  · rw [oneL_some h0]
    have h1 := hexF_most 13 p.size
    have h2 : p.data.toList.length = p.size := by simp
    simp only [List.length_append, h2]
    simp
    omega
theorem flat_length (l : List ByteArray) (h : sumP l ≤ 100000000) : (l.flatMap oneL).length ≤ sumP l + 18 * l.length := by
  induction l with
  | nil => simp [sumP]
  | cons p l ih =>
    rw [sumP_cons] at h ⊢
    rw [List.flatMap_cons, List.length_append, List.length_cons]
    have := ih (by omega)
    have := oneL_length p
    omega
theorem few_take {l : List ByteArray} (h : fewP l) (k : Nat) : ((l.take k).flatMap oneL).length ≤ 5800 := by
  have h1 := sumP_take l k
  have h2 := h.1
  have h3 := h.2
  have h4 := flat_length (l.take k) (by omega)
  have h5 : (l.take k).length ≤ l.length := by rw [List.length_take]; exact Nat.min_le_right _ _
  omega
theorem full5 {x : ByteArray} (h : ¬ x.size = 0) : ¬ x.toList = [] := full' (by omega)
theorem void5 {x : ByteArray} (h : x.size = 0) : x.toList = [] := void' (by omega)
theorem crlf_list : (⟨#[13, 10]⟩ : ByteArray).data.toList = [13, 10] := rfl
theorem crlf_size : (⟨#[13, 10]⟩ : ByteArray).size = 2 := rfl
theorem zero_list : (⟨#[48]⟩ : ByteArray).data.toList = [48] := rfl
theorem ret_str {a b : ByteArray} (h : a = b) : Ending.returned (.string a) = .returned (.string b) := by rw [h]

end Go.Proofs.Ytbdnfajdpajfpaa

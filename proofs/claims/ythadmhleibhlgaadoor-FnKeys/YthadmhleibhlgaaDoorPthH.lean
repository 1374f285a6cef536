/-
  Plain facts on the law FnKeys: a key is the same for its two ways to write one place.
-/
import Derived.Test.YthadmhleibhlgaaDoorPthG
import Derived.Test.YthadmhleibhlgaaDoorDrK
namespace Go.Proofs.YthadmhleibhlgaaDoor
open Go.RowKit

def tgt1 (x y : ByteArray) : ByteArray := ⟨#[47, 98, 47, 46, 46, 47, 99, 63]⟩ ++ x ++ ⟨#[38]⟩ ++ y
def tgt2 (x y : ByteArray) : ByteArray := ⟨#[47, 37, 54, 51, 63, 38]⟩ ++ y ++ ⟨#[38, 38]⟩ ++ x
theorem same_fin : ∀ i j : Fin 4, keyA ⟨#[72, 46, 97]⟩ (tgt1 (tab4.getD i.val ⟨#[]⟩) (tab4.getD j.val ⟨#[]⟩)) = keyA ⟨#[104, 46, 65]⟩ (tgt2 (tab4.getD i.val ⟨#[]⟩) (tab4.getD j.val ⟨#[]⟩)) ∧ (keyA ⟨#[72, 46, 97]⟩ (tgt1 (tab4.getD i.val ⟨#[]⟩) (tab4.getD j.val ⟨#[]⟩))).isSome = true := by decide +kernel
theorem same_key (i j : Nat) (hi : i < 4) (hj : j < 4) : ∃ k, keyE ⟨#[72, 46, 97]⟩ (tgt1 (tab4.getD i ⟨#[]⟩) (tab4.getD j ⟨#[]⟩)) = .tuple #[.string k, .bool true] ∧ keyE ⟨#[104, 46, 65]⟩ (tgt2 (tab4.getD i ⟨#[]⟩) (tab4.getD j ⟨#[]⟩)) = .tuple #[.string k, .bool true] := by
  obtain ⟨h1, h2⟩ := same_fin ⟨i, hi⟩ ⟨j, hj⟩
  simp only at h1 h2
  obtain ⟨k, hk⟩ := Option.isSome_iff_exists.1 h2
  rw [hk] at h1
  exact ⟨k, by unfold keyE keyT; rw [hk]; rfl, by unfold keyE keyT; rw [← h1]; rfl⟩
theorem tgt_size {x y : ByteArray} (hx : x.size ≤ 3) (hy : y.size ≤ 3) : (tgt1 x y).size ≤ 100 ∧ (tgt2 x y).size ≤ 100 := by
  unfold tgt1 tgt2
  simp only [ByteArray.size_append]
  exact ⟨by show 8 + x.size + 1 + y.size ≤ 100; omega, by show 6 + y.size + 2 + x.size ≤ 100; omega⟩
theorem qryA_again {q : ByteArray} (h : q.size ≤ 100) : qryA (qryA q) = qryA q := by
  have e := qryA_yes (s := q) (by omega)
  have hz : (qryA q).size ≤ 200 := by
    rw [← e, txt_size]
    have := qryL_length q.data.toList
    have e2 : q.data.toList.length = q.size := by simp
    omega
  rw [← qryA_yes hz, ← e, txt_data, qryL_again]
end Go.Proofs.YthadmhleibhlgaaDoor

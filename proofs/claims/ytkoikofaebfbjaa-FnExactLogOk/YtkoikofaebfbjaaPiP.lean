/-
  Purges as plain data: what stands behind the first blank, and what is found among the four kinds.
-/
import Derived.Test.YtkoikofaebfbjaaPgP
import Derived.Lib.CutLaws
namespace Go.Proofs.Ytkoikofaebfbjaa.Pg
open Go.RowKit
set_option linter.unusedVariables false

theorem ixByte (c : UInt8) : ∀ s : List UInt8, Lib.index s [c] = Lib.indexByte s c
  | [] => rfl
  | b :: l => by
    rw [Lib.index, Lib.indexByte, ixByte c l]
    by_cases h : b = c
    · subst h; simp [List.isPrefixOf]
    · have h2 : ([c] : List UInt8).isPrefixOf (b :: l) = false := by simp [List.isPrefixOf, Ne.symm h]
      have h3 : (b == c) = false := by simp [h]
      rw [h2, h3]
theorem ixAt {d : UInt8} : ∀ (a b : List UInt8), d ∉ a → Lib.index (a ++ d :: b) [d] = a.length
  | [], b, _ => by rw [List.nil_append, Lib.index]; simp [List.isPrefixOf]
  | c :: a, b, h => by
    have hc : c ≠ d := fun e => h (by simp [e])
    have hp : ([d] : List UInt8).isPrefixOf (c :: (a ++ d :: b)) = false := by simp [List.isPrefixOf, Ne.symm hc]
    have ih := ixAt (d := d) a b (fun e => h (by simp [e]))
    rw [List.cons_append, Lib.index, hp, ih]
    rw [if_neg (by simp), if_neg (by simp)]
    simp
/-- What stands behind the first blank. -/
def aft (t : ByteArray) : ByteArray := ⟨(Lib.cut t.data.toList [32]).2.1.toArray⟩
theorem aft_miss {t : ByteArray} (h : Lib.indexB t ⟨#[32]⟩ = -1) : aft t = ⟨#[]⟩ := (Lib.cutB_miss t ⟨#[32]⟩ h).2.1
theorem aft_hit {t : ByteArray} {i : Nat} (h : Lib.indexB t ⟨#[32]⟩ = i) : aft t = t.extract (i + 1) t.size := (Lib.cutB_hit t ⟨#[32]⟩ i h).2.1
theorem aft_size (t : ByteArray) : (aft t).size ≤ t.size := by
  rcases Lib.indexB_cases t ⟨#[32]⟩ with h | ⟨i, h, _⟩
  · rw [aft_miss h]
    exact Nat.zero_le _
  · rw [aft_hit h, ByteArray.size_extract]
    omega
theorem aft_all : aft alW = ⟨#[]⟩ := aft_miss (by decide)
theorem aft_of (a : List UInt8) (p t : ByteArray) (hp : p.data.toList = a ++ [32]) (ha : (32 : UInt8) ∉ a) : aft (p ++ t) = t := by
  have e : (p ++ t).data.toList = a ++ 32 :: t.data.toList := by rw [ByteArray.data_append, Array.toList_append, hp]; simp
  have hi : Lib.indexB (p ++ t) ⟨#[32]⟩ = (a.length : Int) := by
    show Lib.index (p ++ t).data.toList [32] = _
    rw [e, ixAt _ _ ha]
  rw [aft_hit hi]
  refine rest_app p t _ ?_
  have : p.data.toList.length = p.size := by simp
  rw [← this, hp]
  simp
theorem aft_wrd {k : Int} (t : ByteArray) : aft (wrd k ++ t) = t := by
  unfold wrd
  split
  · exact aft_of [107, 101, 121] kyW t rfl (by decide)
  · split
    · exact aft_of [116, 97, 103] tgW t rfl (by decide)
    · exact aft_of [98, 101, 103, 105, 110] bgW t rfl (by decide)
theorem none_of {t : ByteArray} (h : t.size = 0) : t = ⟨#[]⟩ := ba_ext (by have := Array.eq_empty_of_size_eq_zero (show t.data.size = 0 from h); simp [this])
theorem rd_aft {s : ByteArray} (h : rdB s = true) : (rdP s).2 = aft s := by
  obtain ⟨h1, h2⟩ := rd_ok h
  generalize (rdP s).1 = k at h1 h2
  generalize (rdP s).2 = t at h1 h2
  unfold shoP at h2
  split at h2
  · rename_i h4
    subst h4
    rw [← h2, aft_all]
    unfold pgOk at h1
    rw [if_pos rfl, decide_eq_true_eq] at h1
    exact none_of h1
  · rw [← h2, aft_wrd]
theorem hit_rd {k : Int} {s : ByteArray} (h : pgOk k (aft s) = true) (h2 : shwP k (aft s) = s) : rdB s = true ∧ rdV s = (k, aft s) := by
  have := rd_shw h
  rw [h2] at this
  exact this
theorem kind_of {k : Int} {t : ByteArray} (h : pgOk k t = true) : 1 ≤ k ∧ k ≤ 4 := by
  unfold pgOk at h
  split at h
  · omega
  · rw [Bool.and_eq_true, decide_eq_true_eq] at h
    omega
theorem no_rd {s : ByteArray} (h : ∀ k : Int, 1 ≤ k → k < 5 → pgOk k (aft s) = true → shwP k (aft s) = s → False) : rdB s = false ∧ rdV s = (0, ⟨#[]⟩) := by
  have hb : rdB s = false := by
    cases e : rdB s with
    | false => rfl
    | true =>
      exfalso
      have h1 := (rd_ok e).1
      have h2 := e
      unfold rdB at h2
      rw [decide_eq_true_eq] at h2
      rw [rd_aft e] at h1 h2
      have hk := kind_of h1
      exact h _ hk.1 (by omega) h1 h2
  refine ⟨hb, ?_⟩
  unfold rdV
  rw [hb]
  rfl
end Go.Proofs.Ytkoikofaebfbjaa.Pg

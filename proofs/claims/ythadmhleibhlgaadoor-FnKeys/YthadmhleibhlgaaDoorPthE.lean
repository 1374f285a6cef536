/-
  Plain facts on the parts of a text as they are read byte by byte.
-/
import Derived.Test.YthadmhleibhlgaaDoorPthB
namespace Go.Proofs.YthadmhleibhlgaaDoor
open Go.RowKit

/-- The bytes from place a to place i. -/
def cutL (l : List UInt8) (a i : Nat) : List UInt8 := (l.take i).drop a
theorem cutL_self (l : List UInt8) (a : Nat) : cutL l a a = [] := by
  unfold cutL; exact List.drop_of_length_le (List.length_take_le _ _)
theorem cutL_next {s : ByteArray} {a i : Nat} (h : i < s.size) (ha : a ≤ i) : cutL s.data.toList a i ++ [s[i]] = cutL s.data.toList a (i + 1) := by
  unfold cutL
  rw [take_snoc s i h, List.drop_append_of_le_length]
  rw [List.length_take]
  have : s.data.toList.length = s.size := by simp
  omega
theorem ext_bytes {a b : ByteArray} (h : a.data.toList = b.data.toList) : a = b := by
  have : a.data = b.data := Array.ext' h
  cases a; cases b; exact congrArg _ this
theorem cut_text (s : ByteArray) (a i : Nat) : s.extract a i = txt (cutL s.data.toList a i) := by
  apply ext_bytes
  rw [ByteArray.data_extract, Array.toList_extract, txt_data]
  show (s.data.toList.drop a).take (i - a) = (s.data.toList.take i).drop a
  rw [List.drop_take]

/-- What stands at place k: the parts so far, from where on the next one goes, and what is still to be read. -/
def SpAt (d : UInt8) (s : ByteArray) (done : List (List UInt8)) (a k : Nat) : Prop := splL d s.data.toList = done ++ splF d (cutL s.data.toList a k) (s.data.toList.drop k)
theorem SpAt.start (d : UInt8) (s : ByteArray) : SpAt d s [] 0 0 := rfl
theorem SpAt.hit {d : UInt8} {s : ByteArray} {done : List (List UInt8)} {a k : Nat} (h : SpAt d s done a k) (hk : k < s.size) (hc : s[k] = d) : SpAt d s (done ++ [cutL s.data.toList a k]) (k + 1) (k + 1) := by
  unfold SpAt at *
  rw [h, drop_at3 s k hk, hc, splF_yes, cutL_self]
  simp
theorem SpAt.miss {d : UInt8} {s : ByteArray} {done : List (List UInt8)} {a k : Nat} (h : SpAt d s done a k) (hk : k < s.size) (ha : a ≤ k) (hc : s[k] ≠ d) : SpAt d s done a (k + 1) := by
  unfold SpAt at *
  rw [h, drop_at3 s k hk, splF_no _ _ hc, cutL_next hk ha]
theorem SpAt.done {d : UInt8} {s : ByteArray} {done : List (List UInt8)} {a k : Nat} (h : SpAt d s done a k) (hk : ¬ k < s.size) : done ++ [cutL s.data.toList a k] = splL d s.data.toList := by
  unfold SpAt at h
  rw [h, drop_past3 s k hk, splF_nil]
theorem map_txt_snoc (l : List (List UInt8)) (p : List UInt8) : (l ++ [p]).map txt = l.map txt ++ [txt p] := by simp
theorem byte_eq {a b : UInt8} (h : (a.toNat : Int) = (b.toNat : Int)) : a = b := UInt8.toNat_inj.1 (by omega)

/-- Texts that are one sign, two signs, or none. -/
theorem txt_toList (l : List UInt8) : (txt l).toList = l := by rw [ByteArray.toList_eq, txt_data]
theorem txt_inj {a b : List UInt8} (h : txt a = txt b) : a = b := by
  have := congrArg (fun x : ByteArray => x.data.toList) h
  simpa [txt_data] using this

/-! ### The parts that are kept -/
theorem dotK_take_next (ps : List (List UInt8)) (k : Nat) (h : k < ps.length) : dotK (ps.take (k + 1)) = dotS (dotK (ps.take k)) ps[k] := by
  rw [List.take_succ_eq_append_getElem h, dotK_snoc]
theorem last_is (ps : List (List UInt8)) (k : Nat) (h : k + 1 = ps.length) : ps.getLastD [] = ps[k] := by
  have e : ps = ps.take k ++ [ps[k]] := by
    rw [← List.take_succ_eq_append_getElem (by omega), List.take_of_length_le (by omega)]
  conv => lhs; rw [e]
  exact getLastD_snoc _ _
/-- What is kept once k parts are read: behind the last one it is all. -/
def keptAt (ps : List (List UInt8)) (k : Nat) : List (List UInt8) := if k = ps.length then dotP ps else dotK (ps.take k)
theorem keptAt_zero {ps : List (List UInt8)} (h : ps ≠ []) : keptAt ps 0 = [] := by
  have : 0 < ps.length := List.length_pos_iff.2 h
  unfold keptAt; rw [if_neg (by omega)]; rfl
theorem keptAt_last {ps : List (List UInt8)} {k : Nat} (h : k + 1 = ps.length) : keptAt ps (k + 1) = if isDot (ps[k]'(by omega)) = true then dotS (dotK (ps.take k)) (ps[k]'(by omega)) ++ [[]] else dotS (dotK (ps.take k)) (ps[k]'(by omega)) := by
  unfold keptAt
  rw [if_pos h]
  unfold dotP
  rw [last_is ps k h, ← dotK_take_next ps k (by omega), List.take_of_length_le (by omega)]
theorem keptAt_more {ps : List (List UInt8)} {k : Nat} (h : k + 1 < ps.length) : keptAt ps (k + 1) = dotS (dotK (ps.take k)) (ps[k]'(by omega)) := by
  unfold keptAt
  rw [if_neg (by omega), dotK_take_next ps k (by omega)]
theorem keptAt_now {ps : List (List UInt8)} {k : Nat} (h : k < ps.length) : keptAt ps k = dotK (ps.take k) := by
  unfold keptAt; rw [if_neg (by omega)]
theorem keptAt_end {ps : List (List UInt8)} {k : Nat} (h : ¬ k < ps.length) (h2 : k ≤ ps.length) : keptAt ps k = dotP ps := by
  unfold keptAt; rw [if_pos (by omega)]
theorem keptAt_ddm {ps : List (List UInt8)} {k : Nat} (h : k + 1 < ps.length) (hp : ps[k]'(by omega) = [46, 46]) : (keptAt ps (k + 1)).map txt = ((keptAt ps k).map txt).dropLast := by
  rw [keptAt_more h, hp, dotS_two, keptAt_now (by omega), List.map_dropLast]
theorem keptAt_ddl {ps : List (List UInt8)} {k : Nat} (h : k + 1 = ps.length) (hp : ps[k]'(by omega) = [46, 46]) : (keptAt ps (k + 1)).map txt = ((keptAt ps k).map txt).dropLast ++ [⟨#[]⟩] := by
  rw [keptAt_last h, hp, if_pos (by decide), dotS_two, keptAt_now (by omega), map_txt_snoc, List.map_dropLast]
  rfl
theorem keptAt_dm {ps : List (List UInt8)} {k : Nat} (h : k + 1 < ps.length) (hp : ps[k]'(by omega) = [46]) : (keptAt ps (k + 1)).map txt = (keptAt ps k).map txt := by
  rw [keptAt_more h, hp, dotS_one, keptAt_now (by omega)]
theorem keptAt_dl {ps : List (List UInt8)} {k : Nat} (h : k + 1 = ps.length) (hp : ps[k]'(by omega) = [46]) : (keptAt ps (k + 1)).map txt = (keptAt ps k).map txt ++ [⟨#[]⟩] := by
  rw [keptAt_last h, hp, if_pos (by decide), dotS_one, keptAt_now (by omega), map_txt_snoc]
  rfl
theorem keptAt_else {ps : List (List UInt8)} {k : Nat} (h : k < ps.length) (h1 : ps[k] ≠ [46]) (h2 : ps[k] ≠ [46, 46]) : (keptAt ps (k + 1)).map txt = (keptAt ps k).map txt ++ [txt ps[k]] := by
  have hd : isDot ps[k] = false := decide_eq_false (by rintro (e | e); exact h1 e; exact h2 e)
  rw [← map_txt_snoc]
  congr 1
  by_cases hl : k + 1 = ps.length
  · rw [keptAt_last hl, hd, if_neg (by simp), dotS_else _ h1 h2, keptAt_now h]
  · rw [keptAt_more (by omega), dotS_else _ h1 h2, keptAt_now h]
theorem keptAt_length (ps : List (List UInt8)) (k : Nat) : (keptAt ps k).length ≤ ps.length + 1 := by
  have hk := dotK_length ps
  have ht := dotK_length (ps.take k)
  have hl : (ps.take k).length ≤ ps.length := List.length_take_le' _ _
  unfold keptAt dotP
  split
  · split
    · simp; omega
    · omega
  · omega
theorem txt_eq2 {p : List UInt8} : ((txt p).toList == [46, 46]) = decide (p = [46, 46]) := by rw [txt_toList]; by_cases h : p = [46, 46] <;> simp [h]
theorem txt_eq1 {p : List UInt8} : ((txt p).toList == [46]) = decide (p = [46]) := by rw [txt_toList]; by_cases h : p = [46] <;> simp [h]
theorem pthL_next (ks : List (List UInt8)) (k : Nat) (h : k < ks.length) : pthL (ks.take k) ++ (47 :: ks[k]) = pthL (ks.take (k + 1)) := by
  rw [List.take_succ_eq_append_getElem h]
  unfold pthL
  rw [List.flatMap_append, List.flatMap_cons, List.flatMap_nil, List.append_nil]
theorem sumL_take (ks : List (List UInt8)) (k : Nat) : sumL (ks.take k) ≤ sumL ks := by
  have e := List.take_append_drop k ks
  have := sumL_append (ks.take k) (ks.drop k)
  rw [e] at this
  omega
theorem part_le {ks : List (List UInt8)} {p : List UInt8} (h : p ∈ ks) : p.length + 1 ≤ sumL ks := by
  induction ks with
  | nil => cases h
  | cons a r ih =>
    have e : sumL (a :: r) = (a.length + 1) + sumL r := by simp [sumL]
    rcases List.mem_cons.1 h with rfl | h
    · omega
    · have := ih h; omega
theorem sumL_length (ks : List (List UInt8)) : ks.length ≤ sumL ks := by
  induction ks with
  | nil => simp [sumL]
  | cons a r ih =>
    have e : sumL (a :: r) = (a.length + 1) + sumL r := by simp [sumL]
    simp; omega
end Go.Proofs.YthadmhleibhlgaaDoor

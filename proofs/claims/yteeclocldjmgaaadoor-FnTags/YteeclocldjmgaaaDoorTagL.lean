/-
  What the program's ReadTag finds by cutting a text: it is what the specification reads.
-/
import Derived.Test.YteeclocldjmgaaaDoorTagB
import Derived.Lib.Strings
namespace Go.Proofs.YteeclocldjmgaaaDoor
open Go.RowKit
set_option linter.unusedVariables false

/-- What stands behind the mark of a weak tag, what behind the first sign, and what ahead of the last. -/
def cpW (s : ByteArray) : ByteArray := ⟨(Lib.trimPrefix s.data.toList [87, 47]).toArray⟩
def cpQ (s : ByteArray) : ByteArray := ⟨(Lib.trimPrefix s.data.toList [34]).toArray⟩
def csQ (s : ByteArray) : ByteArray := ⟨(Lib.trimSuffix s.data.toList [34]).toArray⟩
def hpW (s : ByteArray) : Bool := Lib.hasPrefix s.data.toList [87, 47]
def hpQ (s : ByteArray) : Bool := Lib.hasPrefix s.data.toList [34]
def hsQ (s : ByteArray) : Bool := Lib.hasSuffix s.data.toList [34]
theorem tp_len (l p : List UInt8) : (Lib.trimPrefix l p).length ≤ l.length := by
  unfold Lib.trimPrefix; split <;> simp
theorem ts_len (l p : List UInt8) : (Lib.trimSuffix l p).length ≤ l.length := by
  unfold Lib.trimSuffix; split <;> simp
theorem size_len7 (s : ByteArray) : s.size = s.data.toList.length := by simp
theorem cpW_size (s : ByteArray) : (cpW s).size ≤ s.size := by
  rw [size_len7, size_len7]; unfold cpW; simpa using tp_len s.data.toList [87, 47]
theorem cpQ_size (s : ByteArray) : (cpQ s).size ≤ s.size := by
  rw [size_len7, size_len7]; unfold cpQ; simpa using tp_len s.data.toList [34]
theorem csQ_size (s : ByteArray) : (csQ s).size ≤ s.size := by
  rw [size_len7, size_len7]; unfold csQ; simpa using ts_len s.data.toList [34]
theorem hp_yes {l p : List UInt8} (h : Lib.hasPrefix l p = true) : l = p ++ Lib.trimPrefix l p := by
  have h2 : p <+: l := by unfold Lib.hasPrefix at h; exact List.isPrefixOf_iff_prefix.1 h
  obtain ⟨m, rfl⟩ := h2
  unfold Lib.trimPrefix
  rw [if_pos h, List.drop_left]
theorem hp_app (p m : List UInt8) : Lib.hasPrefix (p ++ m) p = true := by
  unfold Lib.hasPrefix; exact List.isPrefixOf_iff_prefix.2 (List.prefix_append p m)
theorem tp_app (p m : List UInt8) : Lib.trimPrefix (p ++ m) p = m := by
  unfold Lib.trimPrefix; rw [if_pos (hp_app p m), List.drop_left]
theorem hs_yes {l p : List UInt8} (h : Lib.hasSuffix l p = true) : l = Lib.trimSuffix l p ++ p := by
  have h2 : p <:+ l := by unfold Lib.hasSuffix at h; exact List.isSuffixOf_iff_suffix.1 h
  obtain ⟨m, rfl⟩ := h2
  unfold Lib.trimSuffix
  rw [if_pos h]
  simp
theorem hs_app (p m : List UInt8) : Lib.hasSuffix (m ++ p) p = true := by
  unfold Lib.hasSuffix; exact List.isSuffixOf_iff_suffix.2 (List.suffix_append m p)
theorem ts_app (p m : List UInt8) : Lib.trimSuffix (m ++ p) p = m := by
  unfold Lib.trimSuffix; rw [if_pos (hs_app p m)]; simp
/-- The text that the program cuts out. -/
def ctT (s : ByteArray) : ByteArray := csQ (cpQ (cpW s))
def ctO (s : ByteArray) : Bool := hpQ (cpW s)
def ctC (s : ByteArray) : Bool := hsQ (cpQ (cpW s))
theorem ctT_size (s : ByteArray) : (ctT s).size ≤ s.size := Nat.le_trans (csQ_size _) (Nat.le_trans (cpQ_size _) (cpW_size _))
theorem list_of7 (l : List UInt8) : ((⟨l.toArray⟩ : ByteArray)).data.toList = l := rfl
theorem cut_some {s : ByteArray} (ho : ctO s = true) (hc : ctC s = true) (hk : tagB (ctT s) = true) : rdT s = some ⟨hpW s, ctT s⟩ := by
  refine rdT_of hk (data_ext ?_)
  have e1 : (cpQ (cpW s)).data.toList = (ctT s).data.toList ++ [34] := hs_yes hc
  have e2 : (cpW s).data.toList = 34 :: (cpQ (cpW s)).data.toList := hp_yes ho
  cases hw : hpW s with
  | false =>
    have e3 : (cpW s).data.toList = s.data.toList := by
      unfold cpW Lib.trimPrefix
      rw [list_of7, if_neg (by unfold hpW at hw; rw [hw]; decide)]
    rw [shU_not rfl, ← e3, e2, e1]
  | true =>
    have e3 : s.data.toList = 87 :: 47 :: (cpW s).data.toList := hp_yes hw
    rw [shU_weak rfl, e3, e2, e1]
theorem cut_of7 {s : ByteArray} {x : Tg} (h : rdT s = some x) : ctO s = true ∧ ctC s = true ∧ ctT s = x.t := by
  obtain ⟨h1, h2⟩ := rdT_some h
  have e1 : (cpW s).data.toList = 34 :: (x.t.data.toList ++ [34]) := by
    cases hw : x.w with
    | false =>
      have e := shU_not hw
      rw [h2] at e
      unfold cpW
      rw [list_of7, e]
      rfl
    | true =>
      have e := shU_weak hw
      rw [h2] at e
      unfold cpW
      rw [list_of7, e]
      exact tp_app [87, 47] _
  have e2 : (cpQ (cpW s)).data.toList = x.t.data.toList ++ [34] := by
    unfold cpQ
    rw [list_of7, e1]
    exact tp_app [34] _
  refine ⟨?_, ?_, data_ext ?_⟩
  · unfold ctO hpQ; rw [e1]; exact hp_app [34] _
  · unfold ctC hsQ; rw [e2]; exact hs_app [34] _
  · unfold ctT csQ; rw [list_of7, e2]; exact ts_app [34] _
theorem cut_none {s : ByteArray} (h : ¬ (ctO s = true ∧ ctC s = true ∧ tagB (ctT s) = true)) : rdT s = none := by
  cases hr : rdT s with
  | none => rfl
  | some x =>
    obtain ⟨h1, h2, h3⟩ := cut_of7 hr
    exact absurd ⟨h1, h2, by rw [h3]; exact (rdT_some hr).1⟩ h
end Go.Proofs.YteeclocldjmgaaaDoor

/-
  What is shown of control, read again step by step.
-/
import Derived.Test.YtccnkmffadmfhaaGreatDoorCtlQ
namespace Go.Proofs.YtccnkmffadmfhaaGreatDoor
open Go.RowKit
set_option linter.unusedVariables false

theorem ext_app (a b : ByteArray) : (a ++ b).extract 0 a.size = a ∧ (a ++ b).extract a.size (a ++ b).size = b := by
  have ha : a.data.toList.length = a.size := by simp
  have hb : b.data.toList.length = b.size := by simp
  have hs : (a ++ b).size = a.size + b.size := ByteArray.size_append
  constructor
  · refine ext9 ?_
    simp only [ByteArray.data_extract, ByteArray.data_append, Array.toList_extract, Array.toList_append, List.extract_eq_take_drop, Nat.sub_zero, List.drop_zero]
    rw [List.take_left' ha]
  · refine ext9 ?_
    simp only [ByteArray.data_extract, ByteArray.data_append, Array.toList_extract, Array.toList_append, List.extract_eq_take_drop]
    rw [List.drop_left' ha, List.take_of_length_le (by omega)]
theorem told_yes {name : ByteArray} {n : Nat} (h : n ≤ 1000000000) : told (name ++ itoS n) name = ((n : Int), true) := by
  obtain ⟨e1, e2⟩ := ext_app name (itoS n)
  obtain ⟨k1, k2⟩ := itoS_num h
  have hs : (name ++ itoS n).size = name.size + (itoS n).size := ByteArray.size_append
  have hp : 0 < (itoS n).size := by
    have := (dec_num n n (Nat.le_refl _)).2.2
    have hs : (itoS n).size = (Lib.decDigits n).length := by unfold itoS; show ((Lib.decDigits n).toArray).size = _; simp
    omega
  unfold told
  rw [if_neg (by rw [e1]; rintro (h1 | h1); omega; exact h1 rfl), e2, k1, k2]
  show (minI 1000000000 (n : Int), true) = _
  unfold minI
  rw [if_neg (by omega)]
/-- Two texts differ at a byte: one is no beginning of the other. -/
theorem told_not {x name : ByteArray} {j : Nat} (hj : j < name.size) (h : x.data.toList[j]? ≠ name.data.toList[j]?) : told x name = (0, false) := by
  unfold told
  by_cases hs : x.size ≤ name.size
  · rw [if_pos (.inl hs)]
  · refine if_pos (.inr fun e => h ?_)
    have hl : (x.extract 0 name.size).data.toList = name.data.toList := by rw [e]
    simp only [ByteArray.data_extract, Array.toList_extract, List.extract_eq_take_drop, Nat.sub_zero, List.drop_zero] at hl
    rw [← hl, List.getElem?_take_of_lt hj]
theorem app_at {a b : ByteArray} {j : Nat} (hj : j < a.size) : (a ++ b).data.toList[j]? = a.data.toList[j]? := by
  rw [ByteArray.data_append, Array.toList_append, List.getElem?_append_left (by simpa using hj)]
theorem num_word {name x : ByteArray} {n : Nat} {j : Nat} (hj : j < name.size) (h : name.data.toList[j]? ≠ x.data.toList[j]?) : ¬ name ++ itoS n = x := fun e => h (by rw [← e, app_at hj])
/-- A number told of age. -/
theorem stp_A (c : Ct) {n : Nat} (h : n ≤ 1000000000) (hc : c.a < 0) : stp c (nmA ++ itoS n) = { c with a := (n : Int) } := by
  have t1 : told (nmA ++ itoS n) nmA = ((n : Int), true) := told_yes h
  have t2 : told (nmA ++ itoS n) nmS = (0, false) := told_not (j := 0) (by decide) (by rw [app_at (by decide)]; decide)
  have t3 : told (nmA ++ itoS n) nmT = (0, false) := told_not (j := 4) (by decide) (by rw [app_at (by decide)]; decide)
  have w1 : ¬ nmA ++ itoS n = wdT := num_word (j := 4) (by decide) (by decide)
  have w2 : ¬ nmA ++ itoS n = wdS := num_word (j := 0) (by decide) (by decide)
  have w3 : ¬ nmA ++ itoS n = wdC := num_word (j := 0) (by decide) (by decide)
  have w4 : ¬ nmA ++ itoS n = wdP := num_word (j := 0) (by decide) (by decide)
  have w5 : ¬ nmA ++ itoS n = wdM := num_word (j := 1) (by decide) (by decide)
  unfold stp st1 st2 st3 st4
  simp only [t1, t2, t3, w1, w2, w3, w4, w5, if_false, hc, and_self, if_true, Bool.false_eq_true, false_and]
theorem stp_S (c : Ct) {n : Nat} (h : n ≤ 1000000000) (hc : c.s < 0) : stp c (nmS ++ itoS n) = { c with s := (n : Int) } := by
  have t1 : told (nmS ++ itoS n) nmA = (0, false) := told_not (j := 0) (by decide) (by rw [app_at (by decide)]; decide)
  have t2 : told (nmS ++ itoS n) nmS = ((n : Int), true) := told_yes h
  have t3 : told (nmS ++ itoS n) nmT = (0, false) := told_not (j := 0) (by decide) (by rw [app_at (by decide)]; decide)
  have w1 : ¬ nmS ++ itoS n = wdT := num_word (j := 0) (by decide) (by decide)
  have w2 : ¬ nmS ++ itoS n = wdS := num_word (j := 0) (by decide) (by decide)
  have w3 : ¬ nmS ++ itoS n = wdC := num_word (j := 0) (by decide) (by decide)
  have w4 : ¬ nmS ++ itoS n = wdP := num_word (j := 0) (by decide) (by decide)
  have w5 : ¬ nmS ++ itoS n = wdM := num_word (j := 0) (by decide) (by decide)
  unfold stp st1 st2 st3 st4
  simp only [t1, t2, t3, w1, w2, w3, w4, w5, if_false, hc, and_self, if_true, Bool.false_eq_true, false_and]
theorem stp_T (c : Ct) {n : Nat} (h : n ≤ 1000000000) (hc : c.t < 0) : stp c (nmT ++ itoS n) = { c with t := (n : Int) } := by
  have t1 : told (nmT ++ itoS n) nmA = (0, false) := told_not (j := 4) (by decide) (by rw [app_at (by decide)]; decide)
  have t2 : told (nmT ++ itoS n) nmS = (0, false) := told_not (j := 0) (by decide) (by rw [app_at (by decide)]; decide)
  have t3 : told (nmT ++ itoS n) nmT = ((n : Int), true) := told_yes h
  have w1 : ¬ nmT ++ itoS n = wdT := num_word (j := 9) (by decide) (by decide)
  have w2 : ¬ nmT ++ itoS n = wdS := num_word (j := 0) (by decide) (by decide)
  have w3 : ¬ nmT ++ itoS n = wdC := num_word (j := 0) (by decide) (by decide)
  have w4 : ¬ nmT ++ itoS n = wdP := num_word (j := 0) (by decide) (by decide)
  have w5 : ¬ nmT ++ itoS n = wdM := num_word (j := 1) (by decide) (by decide)
  unfold stp st1 st2 st3 st4
  simp only [t1, t2, t3, w1, w2, w3, w4, w5, if_false, hc, and_self, if_true, Bool.false_eq_true, false_and]
theorem stp_w {x : ByteArray} (c : Ct) (t1 : (told x nmA).2 = false) (t2 : (told x nmS).2 = false) (t3 : (told x nmT).2 = false) : stp c x = st4 c x := by
  unfold stp st1 st2 st3
  simp only [t1, t2, t3, Bool.false_eq_true, false_and, if_false]
theorem stp_ns (c : Ct) : stp c wdS = { c with ns := true } := by rw [stp_w c (by decide) (by decide) (by decide)]; unfold st4; rw [if_neg (by decide), if_pos rfl]
theorem stp_nc (c : Ct) : stp c wdC = { c with nc := true } := by rw [stp_w c (by decide) (by decide) (by decide)]; unfold st4; rw [if_neg (by decide), if_neg (by decide), if_pos rfl]
theorem stp_pr (c : Ct) : stp c wdP = { c with pr := true } := by rw [stp_w c (by decide) (by decide) (by decide)]; unfold st4; rw [if_neg (by decide), if_neg (by decide), if_neg (by decide), if_pos rfl]
theorem stp_mu (c : Ct) : stp c wdM = { c with mu := true } := by rw [stp_w c (by decide) (by decide) (by decide)]; unfold st4; rw [if_neg (by decide), if_neg (by decide), if_neg (by decide), if_neg (by decide), if_pos rfl]
/-- The parts read, those of a kind at a time. -/
def fld (c : Ct) (l : List ByteArray) : Ct := l.foldl (fun c t => stp c (lowT t)) c
theorem fld_app (c : Ct) (a b : List ByteArray) : fld c (a ++ b) = fld (fld c a) b := by unfold fld; rw [List.foldl_append]
theorem fld_one (c : Ct) (x : ByteArray) : fld c [x] = stp c (lowT x) := rfl
theorem fld_A {c : Ct} {n : Int} (hn : secB n = true) (hc : c.a = -1) : fld c (numP nmA n) = { c with a := n } := by
  rw [secB_iff] at hn
  unfold numP
  split
  · rename_i h
    rw [fld_one, lowT_same (okP_num (by decide) (by decide) _), stp_A c (by omega) (by omega), Int.toNat_of_nonneg h]
  · have : n = -1 := by omega
    subst this
    show c = _
    cases c; simp only at hc; subst hc; rfl
theorem fld_S {c : Ct} {n : Int} (hn : secB n = true) (hc : c.s = -1) : fld c (numP nmS n) = { c with s := n } := by
  rw [secB_iff] at hn
  unfold numP
  split
  · rename_i h
    rw [fld_one, lowT_same (okP_num (by decide) (by decide) _), stp_S c (by omega) (by omega), Int.toNat_of_nonneg h]
  · have : n = -1 := by omega
    subst this
    show c = _
    cases c; simp only at hc; subst hc; rfl
theorem fld_T {c : Ct} {n : Int} (hn : secB n = true) (hc : c.t = -1) : fld c (numP nmT n) = { c with t := n } := by
  rw [secB_iff] at hn
  unfold numP
  split
  · rename_i h
    rw [fld_one, lowT_same (okP_num (by decide) (by decide) _), stp_T c (by omega) (by omega), Int.toNat_of_nonneg h]
  · have : n = -1 := by omega
    subst this
    show c = _
    cases c; simp only at hc; subst hc; rfl
theorem fld_F {c c1 : Ct} {w : ByteArray} (b : Bool) (h0 : lowT w = w) (h1 : stp c w = c1) : fld c (flgP w b) = if b = true then c1 else c := by
  unfold flgP
  cases b with
  | false => rfl
  | true => show fld c [w] = c1; rw [fld_one, h0, h1]
theorem rd_parts {c : Ct} (h : ctB c = true) : rdLt (prtC c) = c := by
  rw [ctB_iff] at h
  show fld ctN (prtC c) = c
  unfold prtC
  rw [fld_app, fld_A h.1 rfl, fld_app, fld_S h.2.1 rfl, fld_app, fld_T h.2.2 rfl, fld_app, fld_F c.ns (by decide) (stp_ns _), fld_app, fld_F c.nc (by decide) (stp_nc _), fld_app, fld_F c.pr (by decide) (stp_pr _), fld_F c.mu (by decide) (stp_mu _)]
  obtain ⟨a, s, t, ns, nc, pr, mu⟩ := c
  cases ns <;> cases nc <;> cases pr <;> cases mu <;> rfl
theorem num_len {name : ByteArray} {n : Int} (hn : secB n = true) (hz : name.size ≤ 10) : ∀ p ∈ numP name n, p.size ≤ 29 := by
  intro p hp
  unfold numP at hp
  split at hp
  · rw [List.mem_singleton.1 hp, ByteArray.size_append]
    rw [secB_iff] at hn
    have := itoS_size (n := n.toNat) (by omega)
    omega
  · cases hp
theorem prt_len (c : Ct) (h : ctB c = true) : (∀ p ∈ prtC c, p.size ≤ 29) ∧ (prtC c).length ≤ 7 := by
  rw [ctB_iff] at h
  have hf : ∀ (w : ByteArray) (b : Bool), w.size ≤ 29 → ∀ p ∈ flgP w b, p.size ≤ 29 := by
    intro w b hz p hp
    unfold flgP at hp
    split at hp
    · rw [List.mem_singleton.1 hp]; exact hz
    · cases hp
  constructor
  · intro p hp
    unfold prtC at hp
    simp only [List.mem_append] at hp
    rcases hp with h1 | h1 | h1 | h1 | h1 | h1 | h1
    · exact num_len h.1 (by decide) p h1
    · exact num_len h.2.1 (by decide) p h1
    · exact num_len h.2.2 (by decide) p h1
    · exact hf wdS c.ns (by decide) p h1
    · exact hf wdC c.nc (by decide) p h1
    · exact hf wdP c.pr (by decide) p h1
    · exact hf wdM c.mu (by decide) p h1
  · have n1 : ∀ (name : ByteArray) (n : Int), (numP name n).length ≤ 1 := by intro name n; unfold numP; split <;> simp
    have n2 : ∀ (w : ByteArray) (b : Bool), (flgP w b).length ≤ 1 := by intro w b; unfold flgP; split <;> simp
    unfold prtC
    simp only [List.length_append]
    have := n1 nmA c.a; have := n1 nmS c.s; have := n1 nmT c.t; have := n2 wdS c.ns; have := n2 wdC c.nc; have := n2 wdP c.pr; have := n2 wdM c.mu
    omega
theorem join_size (l : List ByteArray) : ∀ (x : ByteArray), (∀ p ∈ l, p.size ≤ 29) → (l.foldl (fun s t => s ++ sep8 ++ t) x).size ≤ x.size + 31 * l.length := by
  induction l with
  | nil => intro x _; simp
  | cons y l ih =>
    intro x h
    have h1 := ih (x ++ sep8 ++ y) (fun p hp => h p (List.mem_cons_of_mem _ hp))
    have h2 := h y List.mem_cons_self
    rw [ByteArray.size_append, ByteArray.size_append, show sep8.size = 2 from rfl] at h1
    simp only [List.foldl_cons, List.length_cons]
    omega
theorem joinC_size (l : List ByteArray) (h : ∀ p ∈ l, p.size ≤ 29) (hl : l.length ≤ 7) : (joinC l).size ≤ 300 := by
  cases l with
  | nil => decide
  | cons x l =>
    have h1 := join_size l x (fun p hp => h p (List.mem_cons_of_mem _ hp))
    have h2 := h x List.mem_cons_self
    simp only [List.length_cons] at hl
    show (l.foldl _ x).size ≤ 300
    omega
theorem shC_size (c : Ct) : (shC c).size ≤ 300 := by
  unfold shC
  split
  · rename_i h
    obtain ⟨h1, h2⟩ := prt_len c h
    exact joinC_size _ h1 h2
  · decide
/-- Control is read from what it is shown as. -/
theorem rdC_shC {c : Ct} (h : ctB c = true) : rdCt (shC c) = c := by
  have hz := shC_size c
  unfold shC at hz ⊢
  rw [if_pos h] at hz ⊢
  unfold rdCt
  rw [join_read (prt_ok c) (by omega)]
  exact rd_parts h
end Go.Proofs.YtccnkmffadmfhaaGreatDoor

/-
  Control is read from what it is shown as.
-/
import Derived.Test.YtccnkmffadmfhaaGreatDoorCtlS
import Derived.Test.YtccnkmffadmfhaaGreatDoorJoin
namespace Go.Proofs.YtccnkmffadmfhaaGreatDoor
open Go.RowKit
set_option linter.unusedVariables false

/-! ### Digits -/
theorem numL_snoc8 (b : Int) (l : List UInt8) (c : UInt8) : numL b (l ++ [c]) = numL b l * b + digV (c.toNat : Int) := by unfold numL; rw [List.foldl_append]; rfl
theorem dig_one {d : Nat} (h : d < 10) : digV ((UInt8.ofNat (48 + d)).toNat : Int) = (d : Int) ∧ digN 10 ((UInt8.ofNat (48 + d)).toNat : Int) = true ∧ 48 ≤ (UInt8.ofNat (48 + d)).toNat ∧ (UInt8.ofNat (48 + d)).toNat ≤ 57 := by
  have k : ∀ j : Fin 10, digV ((UInt8.ofNat (48 + j.val)).toNat : Int) = (j.val : Int) ∧ digN 10 ((UInt8.ofNat (48 + j.val)).toNat : Int) = true ∧ 48 ≤ (UInt8.ofNat (48 + j.val)).toNat ∧ (UInt8.ofNat (48 + j.val)).toNat ≤ 57 := by decide +kernel
  exact k ⟨d, h⟩
theorem dec_num : ∀ (f n : Nat), n ≤ f → numL 10 (Lib.decDigits n) = (n : Int) ∧ (∀ c ∈ Lib.decDigits n, digN 10 (c.toNat : Int) = true ∧ 48 ≤ c.toNat ∧ c.toNat ≤ 57) ∧ 0 < (Lib.decDigits n).length := by
  intro f
  induction f with
  | zero =>
    intro n hn
    obtain rfl : n = 0 := by omega
    rw [dec_small (by decide)]
    have := dig_one (d := 0) (by decide)
    exact ⟨by simpa [numL] using this.1, fun c hc => by rw [List.mem_singleton.1 hc]; exact this.2, by simp⟩
  | succ f ih =>
    intro n hn
    by_cases h : n < 10
    · rw [dec_small h]
      have := dig_one h
      exact ⟨by simpa [numL] using this.1, fun c hc => by rw [List.mem_singleton.1 hc]; exact this.2, by simp⟩
    · obtain ⟨i1, i2, i3⟩ := ih (n / 10) (by omega)
      have := dig_one (Nat.mod_lt n (by decide : 0 < 10))
      rw [dec_big h, numL_snoc8, i1, this.1]
      refine ⟨by omega, fun c hc => ?_, by simp⟩
      rcases List.mem_append.1 hc with hc | hc
      · exact i2 c hc
      · rw [List.mem_singleton.1 hc]; exact this.2
theorem itoS_list (n : Nat) : (itoS n).data.toList = Lib.decDigits n := rfl
theorem itoS_num {n : Nat} (h : n ≤ 1000000000) : numOk 10 15 (itoS n) = true ∧ numV 10 15 (itoS n) = (n : Int) := by
  obtain ⟨i1, i2, i3⟩ := dec_num n n (Nat.le_refl _)
  have hl := dec_len 9 n (by omega)
  have hs : (itoS n).size = (Lib.decDigits n).length := by unfold itoS; show ((Lib.decDigits n).toArray).size = _; simp
  have h1 : numOk 10 15 (itoS n) = true := by
    refine numOk_in (by omega) (by omega) ?_
    rw [itoS_list]
    symm
    unfold allB
    rw [List.all_eq_true]
    exact fun c hc => (i2 c hc).1
  exact ⟨h1, by rw [num_yes h1, itoS_list, i1]⟩
/-! ### Parts -/
/-- A byte that stands in a part. -/
def okCc (c : UInt8) : Prop := (33 ≤ c.toNat ∧ c.toNat ≤ 126) ∧ c.toNat ≠ 34 ∧ c.toNat ≠ 44 ∧ c.toNat ≠ 92 ∧ ¬ (65 ≤ c.toNat ∧ c.toNat ≤ 90)
def okB (c : UInt8) : Bool := decide (33 ≤ c.toNat) && (decide (c.toNat ≤ 126) && (decide (c.toNat ≠ 34) && (decide (c.toNat ≠ 44) && (decide (c.toNat ≠ 92) && !(decide (65 ≤ c.toNat) && decide (c.toNat ≤ 90))))))
theorem okB_out {c : UInt8} (h : okB c = true) : okCc c := by
  unfold okB at h
  simp only [Bool.and_eq_true, decide_eq_true_eq, Bool.not_eq_true', Bool.and_eq_false_iff, decide_eq_false_iff_not] at h
  exact ⟨⟨h.1, h.2.1⟩, h.2.2.1, h.2.2.2.1, h.2.2.2.2.1, by omega⟩
def OkP (p : ByteArray) : Prop := 0 < p.size ∧ ∀ c ∈ p.data.toList, okCc c
theorem okP_of {p : ByteArray} (h0 : 0 < p.size) (h : p.data.toList.all okB = true) : OkP p := ⟨h0, fun c hc => okB_out (List.all_eq_true.1 h c hc)⟩
theorem okC_dig {c : UInt8} (h : 48 ≤ c.toNat ∧ c.toNat ≤ 57) : okCc c := by unfold okCc; omega
theorem okP_num {name : ByteArray} (h : name.data.toList.all okB = true) (h0 : 0 < name.size) (n : Nat) : OkP (name ++ itoS n) := by
  refine ⟨by rw [ByteArray.size_append]; omega, fun c hc => ?_⟩
  have : (name ++ itoS n).data.toList = name.data.toList ++ Lib.decDigits n := by simp [itoS]
  rw [this] at hc
  rcases List.mem_append.1 hc with hc | hc
  · exact okB_out (List.all_eq_true.1 h c hc)
  · exact okC_dig ((dec_num n n (Nat.le_refl _)).2.1 c hc).2
theorem prt_ok (c : Ct) : ∀ p ∈ prtC c, OkP p := by
  have hn : ∀ (name : ByteArray) (n : Int), name.data.toList.all okB = true → 0 < name.size → ∀ p ∈ numP name n, OkP p := by
    intro name n h1 h2 p hp
    unfold numP at hp
    split at hp
    · rw [List.mem_singleton.1 hp]; exact okP_num h1 h2 _
    · cases hp
  have hf : ∀ (w : ByteArray) (b : Bool), w.data.toList.all okB = true → 0 < w.size → ∀ p ∈ flgP w b, OkP p := by
    intro w b h1 h2 p hp
    unfold flgP at hp
    split at hp
    · rw [List.mem_singleton.1 hp]; exact okP_of h2 h1
    · cases hp
  intro p hp
  unfold prtC at hp
  simp only [List.mem_append] at hp
  rcases hp with h | h | h | h | h | h | h
  · exact hn nmA c.a (by decide) (by decide) p h
  · exact hn nmS c.s (by decide) (by decide) p h
  · exact hn nmT c.t (by decide) (by decide) p h
  · exact hf wdS c.ns (by decide) (by decide) p h
  · exact hf wdC c.nc (by decide) (by decide) p h
  · exact hf wdP c.pr (by decide) (by decide) p h
  · exact hf wdM c.mu (by decide) (by decide) p h
theorem okC_blank {c : UInt8} (h : okCc c) : blank c = false := by
  unfold blank
  have : ¬ (c = 32 ∨ c = 9) := by
    rintro (rfl | rfl)
    · exact absurd h.1.1 (by decide)
    · exact absurd h.1.1 (by decide)
  simp [not_or.1 this]
theorem trim_same {l : List UInt8} (h : ∀ c ∈ l, okCc c) : rtr (ltr l) = l := by
  have h1 : ltr l = l := by
    cases l with
    | nil => rfl
    | cons c l => exact ltr_no l (okC_blank (h c List.mem_cons_self))
  rw [h1]
  unfold rtr
  have h2 : l.reverse.dropWhile blank = l.reverse := by
    cases hr : l.reverse with
    | nil => rfl
    | cons c r =>
      have hc : c ∈ l := by rw [← List.mem_reverse, hr]; exact List.mem_cons_self
      simp [okC_blank (h c hc)]
  rw [h2, List.reverse_reverse]
theorem plain_solid : ∀ (l : List UInt8), (∀ c ∈ l, c.toNat ≠ 34 ∧ c.toNat ≠ 44) → solid 0 l ∧ run 0 l = 0
  | [], _ => ⟨trivial, rfl⟩
  | c :: l, h => by
    have hc := h c List.mem_cons_self
    have hd : dlt 0 c = 0 := by unfold dlt; simp [hc.1]
    have ih := plain_solid l (fun x hx => h x (List.mem_cons_of_mem _ hx))
    refine ⟨⟨fun e => hc.2 e.2, ?_⟩, ?_⟩
    · rw [hd]; exact ih.1
    · show run (dlt 0 c) l = 0; rw [hd]; exact ih.2
theorem lowB_same {c : UInt8} (h : okCc c) : lowB c = c := by unfold lowB; rw [if_neg h.2.2.2.2]
theorem ext9 {a b : ByteArray} (h : a.data.toList = b.data.toList) : a = b := by
  cases a; cases b; simp at h; rw [h]
theorem lowT_same {p : ByteArray} (h : OkP p) : lowT p = p := by
  refine ext9 ?_
  show p.data.toList.map lowB = _
  exact (List.map_congr_left (fun c hc => lowB_same (h.2 c hc))).trans (List.map_id _)
/-! ### Joined and read again -/
def lay (p : ByteArray) : List UInt8 := 32 :: p.data.toList
theorem join_list (l : List ByteArray) : ∀ x : ByteArray, (l.foldl (fun s t => s ++ sep8 ++ t) x).data.toList = joinL (x.data.toList :: l.map lay) := by
  have key : ∀ (n : Nat) (l : List ByteArray), l.length = n → ∀ x : ByteArray, (l.foldl (fun s t => s ++ sep8 ++ t) x).data.toList = joinL (x.data.toList :: l.map lay) := by
    intro n
    induction n with
    | zero => intro l hl x; obtain rfl := List.eq_nil_of_length_eq_zero hl; simp [joinL]
    | succ n ih =>
      intro l hl x
      rcases List.eq_nil_or_concat l with rfl | ⟨l', y, rfl⟩
      · simp at hl
      rw [List.concat_eq_append] at *
      rw [List.foldl_append, List.map_append]
      have e := ih l' (by simpa using hl) x
      have e2 := joinL_snoc (x.data.toList :: l'.map lay) (lay y) (by simp)
      rw [List.cons_append] at e2
      show (l'.foldl (fun s t => s ++ sep8 ++ t) x ++ sep8 ++ y).data.toList = joinL (x.data.toList :: (l'.map lay ++ [lay y]))
      rw [e2, ← e]
      simp [sep8, lay]
  exact fun x => key l.length l rfl x
theorem chain_of : ∀ (ps : List (List UInt8)), (∀ p ∈ ps, ∀ c ∈ p, c.toNat ≠ 34 ∧ c.toNat ≠ 44) → chain ps
  | [], _ => trivial
  | p :: ps, h => chain_cons (plain_solid p (h p List.mem_cons_self)).1 (plain_solid p (h p List.mem_cons_self)).2 (chain_of ps (fun q hq => h q (List.mem_cons_of_mem _ hq)))
theorem one_ok {p : ByteArray} (h : OkP p) : one ⟨p.data.toList.toArray⟩ = [p] := by
  have e : trimB ⟨p.data.toList.toArray⟩ = p := ext9 (by show rtr (ltr p.data.toList) = _; exact trim_same h.2)
  rw [one_yes (by rw [e]; exact h.1), e]
theorem one_lay {p : ByteArray} (h : OkP p) : one ⟨(lay p).toArray⟩ = [p] := by
  have e : trimB ⟨(lay p).toArray⟩ = p := ext9 (by
    show rtr (ltr (32 :: p.data.toList)) = _
    rw [ltr_yes _ (by decide)]
    exact trim_same h.2)
  rw [one_yes (by rw [e]; exact h.1), e]
theorem itemsOf_lay : ∀ l : List ByteArray, (∀ p ∈ l, OkP p) → itemsOf (l.map lay) = l
  | [], _ => rfl
  | p :: l, h => by
    rw [List.map_cons, itemsOf_cons, one_lay (h p List.mem_cons_self), itemsOf_lay l (fun q hq => h q (List.mem_cons_of_mem _ hq))]; rfl
theorem join_read {l : List ByteArray} (h : ∀ p ∈ l, OkP p) (hz : (joinC l).size ≤ 400) : itemsA (joinC l) = l := by
  cases l with
  | nil => decide
  | cons x l =>
    have hd : (joinC (x :: l)).data.toList = joinL (x.data.toList :: l.map lay) := join_list l x
    have hc : chain (x.data.toList :: l.map lay) := chain_of _ (by
      intro p hp c hc
      rcases List.mem_cons.1 hp with rfl | hp
      · have := (h x List.mem_cons_self).2 c hc; exact ⟨this.2.1, this.2.2.1⟩
      · obtain ⟨q, hq, rfl⟩ := List.mem_map.1 hp
        rcases List.mem_cons.1 hc with rfl | hc
        · decide
        · have := (h q (List.mem_cons_of_mem _ hq)).2 c hc; exact ⟨this.2.1, this.2.2.1⟩)
    have hv : visB (joinC (x :: l)) = true := by
      symm
      refine visB_in hz ?_
      symm
      unfold allB
      rw [List.all_eq_true]
      intro c hc
      rw [hd] at hc
      refine visN_yes (.inl ?_)
      rcases join_mem _ c hc with e | ⟨p, hp, hcp⟩
      · omega
      · rcases List.mem_cons.1 hp with rfl | hp
        · have := (h x List.mem_cons_self).2 c hcp; unfold okCc at this; omega
        · obtain ⟨q, hq, rfl⟩ := List.mem_map.1 hp
          rcases List.mem_cons.1 hcp with rfl | hcp
          · decide
          · have := (h q (List.mem_cons_of_mem _ hq)).2 c hcp; unfold okCc at this; omega
    rw [← itemsA_yes hv]
    unfold itemsT
    rw [hd, parts_same _ _ [] false (Nat.le_refl _)]
    show itemsOf (partsA [] 0 _) = _
    rw [parts_join _ _ hc, itemsOf_cons, one_ok (h x List.mem_cons_self), itemsOf_lay l (fun q hq => h q (List.mem_cons_of_mem _ hq))]
    rfl
end Go.Proofs.YtccnkmffadmfhaaGreatDoor

/-
  The contract of the program's Unquoted, whose states are labels.
-/
import Derived.Test.YthadmhleibhlgaaDoorUnq
import Derived.Test.YthadmhleibhlgaaDoorJump
import Derived.WalkMore
namespace Go.Proofs.YthadmhleibhlgaaDoor
open Go.RowKit

/-- The text begins with a byte 34. -/
def startQ (s : ByteArray) : Bool := (s.extract 0 1).toList == [34]
theorem startQ_take (s : ByteArray) : (s.extract 0 1).toList = s.data.toList.take 1 := by
  rw [ByteArray.toList_eq]
  simp
theorem startQ_yes {s : ByteArray} (h : startQ s = true) : s.data.toList = 34 :: s.data.toList.drop 1 := by
  have h1 := eq_of_beq h
  rw [startQ_take] at h1
  have h2 := List.take_append_drop 1 s.data.toList
  rw [h1] at h2
  exact h2.symm
theorem startQ_no {s : ByteArray} (h : startQ s = false) : ∀ r, s.data.toList ≠ 34 :: r := by
  intro r hr
  unfold startQ at h
  rw [startQ_take, hr] at h
  simp at h
theorem startQ_size {s : ByteArray} (h : startQ s = true) : 1 ≤ s.size := by
  have h1 := congrArg List.length (startQ_yes h)
  have h2 : s.data.toList.length = s.size := by simp
  rw [List.length_cons] at h1
  omega

theorem hasQ (s : ByteArray) (w : World) (_hs : s.size ≤ 1048576) :
    Calls Tryd.prog 55 #[.string s, .string ⟨#[34]⟩] w fun e w' => e = .returned (.bool (startQ s)) ∧ w = w' := by
  by_cases h0 : s.size = 0
  · have hq : startQ s = false := by
      cases hk : startQ s with
      | false => rfl
      | true => have := startQ_size hk; omega
    rw [hq]
    clear hq
    have d1 : decide (1 ≤ (s.size : Int)) = false := by simp; omega
    clear h0
    go_enter Tryd.func55, Tryd.ntmps55
    go_wp2
    go_ret
    exact ⟨rfl, rfl⟩
  · have d1 : decide (1 ≤ (s.size : Int)) = true := by simp; omega
    have h1 : 1 ≤ s.size := by omega
    unfold startQ
    go_enter Tryd.func55, Tryd.ntmps55
    go_wp2
    go_ret
    exact ⟨rfl, rfl⟩

/-- The frame at a state. -/
def frU (s : ByteArray) (v : Value) (n : Int) (u : Nat → Value) : Act := { tmps := #[.string s, undef, .string ⟨#[]⟩, .bool false, v, .int .i64 n, u 6, u 7, u 8, u 9, u 10, u 11, u 12, u 13, u 14, u 15, u 16, u 17, u 18, u 19, u 20, u 21, u 22, u 23, u 24, u 25, u 26, u 27, u 28, u 29, u 30, u 31, u 32, u 33, u 34, u 35, u 36, u 37, u 38, u 39, u 40, u 41, u 42, u 43, u 44, u 45, u 46, u 47, u 48, u 49, u 50, u 51, u 52, u 53, u 54, u 55, u 56, u 57, u 58, u 59, u 60, u 61, u 62, u 63, u 64], defers := [] }
/-- A frame of which nothing is known. -/
def frA (u : Nat → Value) : Act := { tmps := #[u 0, u 1, u 2, u 3, u 4, u 5, u 6, u 7, u 8, u 9, u 10, u 11, u 12, u 13, u 14, u 15, u 16, u 17, u 18, u 19, u 20, u 21, u 22, u 23, u 24, u 25, u 26, u 27, u 28, u 29, u 30, u 31, u 32, u 33, u 34, u 35, u 36, u 37, u 38, u 39, u 40, u 41, u 42, u 43, u 44, u 45, u 46, u 47, u 48, u 49, u 50, u 51, u 52, u 53, u 54, u 55, u 56, u 57, u 58, u 59, u 60, u 61, u 62, u 63, u 64], defers := [] }

/-- What holds at each label. -/
def Jq (s : ByteArray) (w : World) : Nat → Act → World → Prop
  | 0, a, x => (∃ u, a = frA u) ∧ Below w.heap.size w x ∧ Hid (unqOk s = false)
  | 1, a, x => ∃ (k : Nat) (n : Int) (v : Value) (t : List UInt8), (∃ u, a = frU s v n u) ∧ n = (k : Int) ∧ 1 ≤ k ∧ k ≤ s.size ∧ OwnsB x w.heap.size v t ∧ Below w.heap.size w x ∧ t.length ≤ k ∧ Hid (unqL (s.data.toList.drop 1) = (unqL (s.data.toList.drop k)).map (t ++ ·))
  | 2, a, x => ∃ (k : Nat) (n : Int) (v : Value) (t : List UInt8), (∃ u, a = frU s v n u) ∧ n = (k : Int) ∧ 1 ≤ k ∧ k ≤ s.size ∧ OwnsB x w.heap.size v t ∧ Below w.heap.size w x ∧ t.length ≤ k ∧ Hid (unqL (s.data.toList.drop 1) = if k = s.size then some t else none)
  | 3, a, x => ∃ (k : Nat) (n : Int) (v : Value) (t : List UInt8), (∃ u, a = frU s v n u) ∧ n = (k : Int) ∧ 1 ≤ k ∧ k ≤ s.size ∧ OwnsB x w.heap.size v t ∧ Below w.heap.size w x ∧ t.length ≤ k ∧ Hid (unqL (s.data.toList.drop 1) = (unqT (s.data.toList.drop k)).map (t ++ ·))
  | _, _, _ => False
/-- What every pass lowers. -/
def mq (s : ByteArray) : Nat → Act → World → Nat
  | 0, _, _ => 0
  | 2, _, _ => 1
  | _, a, _ => 2 * (s.size + 1 - (intOf (a.tmps.getD 5 undef)).toNat) + 2

theorem st_plain {s : ByteArray} {k : Nat} {t : List UInt8} (h : k < s.size) (h1 : (s[k].toNat : Int) ≠ 34) (h2 : (s[k].toNat : Int) ≠ 92) (hu : unqL (s.data.toList.drop 1) = (unqL (s.data.toList.drop k)).map (t ++ ·)) : unqL (s.data.toList.drop 1) = (unqL (s.data.toList.drop (k + 1))).map ((t ++ [s[k]]) ++ ·) := by
  rw [hu, drop_at s k h, unqL_plain _ (by omega) (by omega)]
  cases unqL (s.data.toList.drop (k + 1)) with
  | none => rfl
  | some x => simp
theorem st_take {s : ByteArray} {k : Nat} {t : List UInt8} (h : k < s.size) (h2 : (s[k].toNat : Int) = 92) (hu : unqL (s.data.toList.drop 1) = (unqL (s.data.toList.drop k)).map (t ++ ·)) : unqL (s.data.toList.drop 1) = (unqT (s.data.toList.drop (k + 1))).map (t ++ ·) := by
  rw [hu, drop_at s k h, unqL_take _ (by omega)]
theorem st_close {s : ByteArray} {k : Nat} {t : List UInt8} (h : k < s.size) (h2 : (s[k].toNat : Int) = 34) (hu : unqL (s.data.toList.drop 1) = (unqL (s.data.toList.drop k)).map (t ++ ·)) : unqL (s.data.toList.drop 1) = if k + 1 = s.size then some t else none := by
  rw [hu, drop_at s k h, unqL_close _ (by omega)]
  have e : (s.data.toList.drop (k + 1)).length = s.size - (k + 1) := by simp
  rw [e]
  by_cases hk : k + 1 = s.size
  · rw [if_pos hk, if_pos (by omega)]; simp
  · rw [if_neg hk, if_neg (by omega)]; rfl
theorem st_taken {s : ByteArray} {k : Nat} {t : List UInt8} (h : k < s.size) (h2 : (s[k].toNat : Int) = 34 ∨ (s[k].toNat : Int) = 92) (hu : unqL (s.data.toList.drop 1) = (unqT (s.data.toList.drop k)).map (t ++ ·)) : unqL (s.data.toList.drop 1) = (unqL (s.data.toList.drop (k + 1))).map ((t ++ [s[k]]) ++ ·) := by
  rw [hu, drop_at s k h, unqT_cons, if_pos (by omega)]
  cases unqL (s.data.toList.drop (k + 1)) with
  | none => rfl
  | some x => simp
theorem st_untaken {s : ByteArray} {k : Nat} {t : List UInt8} (h : k < s.size) (h1 : (s[k].toNat : Int) ≠ 34) (h2 : (s[k].toNat : Int) ≠ 92) (hu : unqL (s.data.toList.drop 1) = (unqT (s.data.toList.drop k)).map (t ++ ·)) : unqOk s = false := by
  refine unq_none ?_
  rw [hu, drop_at s k h, unqT_cons, if_neg (by omega)]; rfl
theorem st_end {s : ByteArray} {k : Nat} {t : List UInt8} (h : ¬ k < s.size) (hu : unqL (s.data.toList.drop 1) = (unqL (s.data.toList.drop k)).map (t ++ ·)) : unqOk s = false := by
  refine unq_none ?_
  rw [hu, drop_past s k h]; rfl
theorem st_end' {s : ByteArray} {k : Nat} {t : List UInt8} (h : ¬ k < s.size) (hu : unqL (s.data.toList.drop 1) = (unqT (s.data.toList.drop k)).map (t ++ ·)) : unqOk s = false := by
  refine unq_none ?_
  rw [hu, drop_past s k h]; rfl

theorem jump0 {s : ByteArray} {w x : World} {a : Act} {m : Nat} (hf : a = frA (fun i => a.tmps.getD i undef)) (hb : Below w.heap.size w x) (h : Hid (unqOk s = false)) (hm : 0 < m) : Jq s w 0 a x ∧ mq s 0 a x < m := ⟨⟨⟨_, hf⟩, hb, h⟩, hm⟩
theorem jump1 {s : ByteArray} {w x : World} {a : Act} {m k : Nat} {n : Int} {v : Value} {t : List UInt8} (hf : a = frU s v n (fun i => a.tmps.getD i undef)) (hn : n = (k : Int)) (h1 : 1 ≤ k) (h2 : k ≤ s.size) (ho : OwnsB x w.heap.size v t) (hb : Below w.heap.size w x) (ht : t.length ≤ k) (h : Hid (unqL (s.data.toList.drop 1) = (unqL (s.data.toList.drop k)).map (t ++ ·))) (hm : 2 * (s.size + 1 - k) + 2 < m) : Jq s w 1 a x ∧ mq s 1 a x < m := by
  obtain ⟨u, rfl⟩ : ∃ u, a = frU s v n u := ⟨_, hf⟩
  refine ⟨⟨k, n, v, t, ⟨u, rfl⟩, hn, h1, h2, ho, hb, ht, h⟩, ?_⟩
  show 2 * (s.size + 1 - n.toNat) + 2 < m
  rw [hn, Int.toNat_natCast]
  exact hm
theorem jump3 {s : ByteArray} {w x : World} {a : Act} {m k : Nat} {n : Int} {v : Value} {t : List UInt8} (hf : a = frU s v n (fun i => a.tmps.getD i undef)) (hn : n = (k : Int)) (h1 : 1 ≤ k) (h2 : k ≤ s.size) (ho : OwnsB x w.heap.size v t) (hb : Below w.heap.size w x) (ht : t.length ≤ k) (h : Hid (unqL (s.data.toList.drop 1) = (unqT (s.data.toList.drop k)).map (t ++ ·))) (hm : 2 * (s.size + 1 - k) + 2 < m) : Jq s w 3 a x ∧ mq s 3 a x < m := by
  obtain ⟨u, rfl⟩ : ∃ u, a = frU s v n u := ⟨_, hf⟩
  refine ⟨⟨k, n, v, t, ⟨u, rfl⟩, hn, h1, h2, ho, hb, ht, h⟩, ?_⟩
  show 2 * (s.size + 1 - n.toNat) + 2 < m
  rw [hn, Int.toNat_natCast]
  exact hm
theorem jump2 {s : ByteArray} {w x : World} {a : Act} {m k : Nat} {n : Int} {v : Value} {t : List UInt8} (hf : a = frU s v n (fun i => a.tmps.getD i undef)) (hn : n = (k : Int)) (h1 : 1 ≤ k) (h2 : k ≤ s.size) (ho : OwnsB x w.heap.size v t) (hb : Below w.heap.size w x) (ht : t.length ≤ k) (h : Hid (unqL (s.data.toList.drop 1) = if k = s.size then some t else none)) (hm : 1 < m) : Jq s w 2 a x ∧ mq s 2 a x < m := by
  obtain ⟨u, rfl⟩ : ∃ u, a = frU s v n u := ⟨_, hf⟩
  exact ⟨⟨k, n, v, t, ⟨u, rfl⟩, hn, h1, h2, ho, hb, ht, h⟩, hm⟩
theorem mq_fr1 (s : ByteArray) (v : Value) (k : Nat) (u : Nat → Value) (x : World) : mq s 1 (frU s v (k : Int) u) x = 2 * (s.size + 1 - k) + 2 := rfl
theorem mq_fr3 (s : ByteArray) (v : Value) (k : Nat) (u : Nat → Value) (x : World) : mq s 3 (frU s v (k : Int) u) x = 2 * (s.size + 1 - k) + 2 := rfl
theorem mq_fr2 (s : ByteArray) (v : Value) (k : Nat) (u : Nat → Value) (x : World) : mq s 2 (frU s v (k : Int) u) x = 1 := rfl

set_option maxRecDepth 100000 in
set_option maxRecDepth 100000 in
set_option maxHeartbeats 4000000 in
theorem implUnq (s : ByteArray) (w : World) (hs : s.size ≤ 1048576) :
    Calls Tryd.prog 19 #[.string s] w fun e w' => e = .returned (unqE s) ∧ Below w.heap.size w w' := by
  by_cases hq0 : startQ s = true
  · have HQ : Hid (startQ s = true) := hq0
    have hz := startQ_size hq0
    go_enter Tryd.func19, Tryd.ntmps19
    go_wp2
    refine wp_scope_many (Jq s w) (mq s) ?_ ?_
    · have hown := OwnsB.nil w w.heap.size
      have hb := Below.refl w.heap.size w
      have hu : Hid (unqL (s.data.toList.drop 1) = (unqL (s.data.toList.drop 1)).map (([] : List UInt8) ++ ·)) := by
        show unqL (s.data.toList.drop 1) = _
        simp
      have hbs := hb.size
      by_cases hlt : 1 < s.size
      · by_cases h34 : (s[1].toNat : Int) = 34
        · have HN : Hid (unqL (s.data.toList.drop 1) = if 2 = s.size then some _ else none) := st_close hlt h34 hu.out
          have hq := beq_yes h34
          clear h34
          go_wp2_with (go_at_call 55; refine (hasQ _ _ hs).mono ?_; rintro e w' ⟨rfl, rfl⟩)
          go_step3
          go_wp2
          go_step3
          exact (jump2 (m := 2 * s.size + 100) rfl (by first | rfl | omega) (by omega) (by omega) hown hb (by first | omega | exact Nat.zero_le _) HN (by omega)).1
        · have hq := beq_no h34
          by_cases h92 : (s[1].toNat : Int) = 92
          · have HN : Hid (unqL (s.data.toList.drop 1) = (unqT (s.data.toList.drop (2))).map (_ ++ ·)) := st_take hlt h92 hu.out
            have hq2 := beq_yes h92
            clear h34 h92
            go_wp2_with (go_at_call 55; refine (hasQ _ _ hs).mono ?_; rintro e w' ⟨rfl, rfl⟩)
            go_step3
            go_wp2
            go_step3
            exact (jump3 (m := 2 * s.size + 100) rfl (by first | rfl | omega) (by omega) (by omega) hown hb (by first | omega | exact Nat.zero_le _) HN (by omega)).1
          · have HN : Hid (unqL (s.data.toList.drop 1) = (unqL (s.data.toList.drop (2))).map ((_ ++ [s[1]]) ++ ·)) := st_plain hlt h34 h92 hu.out
            have hq2 := beq_no h92
            clear h34 h92
            go_wp2_with (go_at_call 55; refine (hasQ _ _ hs).mono ?_; rintro e w' ⟨rfl, rfl⟩)
            go_step3
            go_wp2_with (at_builtin; refine wpList_push _ rfl (.tmp 23) (.tmp 28) rfl w.heap.size _ _ _ s[1] rfl rfl hown rfl (by first | omega | exact Nat.zero_le _) hbs ?_; intro v2 w2 ho2 hg2)
            go_step3
            exact (jump1 (m := 2 * s.size + 100) rfl (by first | rfl | omega) (by omega) (by omega) ho2 (hb.grown hg2 hbs (OwnsB.from hown)) (by simp <;> omega) HN (by omega)).1
      · have HF : Hid (unqOk s = false) := st_end hlt hu.out
        go_wp2_with (go_at_call 55; refine (hasQ _ _ hs).mono ?_; rintro e w' ⟨rfl, rfl⟩)
        go_step3
        go_wp2
        go_step3
        exact (jump0 (m := 2 * s.size + 100) rfl hb HF (by omega)).1
    · intro l a x hJ
      clear hq0
      match l, hJ with
      | 0, hJ =>
        obtain ⟨⟨u, rfl⟩, hb, hf⟩ := hJ
        refine ⟨_, rfl, ?_⟩
        unfold frA
        go_wp2
        simp only [jumps]
        go_ret2
        exact ⟨unqE_no hf.out, hb⟩
      | 1, hJ =>
        obtain ⟨k, n, v, t, ⟨u, rfl⟩, rfl, hk1, hk2, hown, hb, htl, hu⟩ := hJ
        refine ⟨_, rfl, ?_⟩
        rw [mq_fr1]
        unfold frU
        have hbs := hb.size
        by_cases hlt : k < s.size
        · by_cases h34 : (s[k].toNat : Int) = 34
          · have HN : Hid (unqL (s.data.toList.drop 1) = if k + 1 = s.size then some _ else none) := st_close hlt h34 hu.out
            have hq := beq_yes h34
            clear h34
            go_wp2
            go_step3
            exact (jump2 rfl (by first | rfl | omega) (by omega) (by omega) hown hb (by first | omega | exact Nat.zero_le _) HN (by omega))
          · have hq := beq_no h34
            by_cases h92 : (s[k].toNat : Int) = 92
            · have HN : Hid (unqL (s.data.toList.drop 1) = (unqT (s.data.toList.drop (k + 1))).map (_ ++ ·)) := st_take hlt h92 hu.out
              have hq2 := beq_yes h92
              clear h34 h92
              go_wp2
              go_step3
              exact (jump3 rfl (by first | rfl | omega) (by omega) (by omega) hown hb (by first | omega | exact Nat.zero_le _) HN (by omega))
            · have HN : Hid (unqL (s.data.toList.drop 1) = (unqL (s.data.toList.drop (k + 1))).map ((_ ++ [s[k]]) ++ ·)) := st_plain hlt h34 h92 hu.out
              have hq2 := beq_no h92
              clear h34 h92
              go_wp2_with (at_builtin; refine wpList_push _ rfl (.tmp 23) (.tmp 28) rfl w.heap.size _ _ _ s[k] rfl rfl hown rfl (by first | omega | exact Nat.zero_le _) hbs ?_; intro v2 w2 ho2 hg2)
              go_step3
              exact (jump1 rfl (by first | rfl | omega) (by omega) (by omega) ho2 (hb.grown hg2 hbs (OwnsB.from hown)) (by simp <;> omega) HN (by omega))
        · have HF : Hid (unqOk s = false) := st_end hlt hu.out
          go_wp2
          go_step3
          exact (jump0 rfl hb HF (by omega))
      | 2, hJ =>
        obtain ⟨k, n, v, t, ⟨u, rfl⟩, rfl, hk1, hk2, hown, hb, htl, hu⟩ := hJ
        refine ⟨_, rfl, ?_⟩
        rw [mq_fr2]
        unfold frU
        by_cases hend : k = s.size
        · have hd : ((k : Int) == (s.size : Int)) = true := by simp [hend]
          have HS : Hid (unqL (s.data.toList.drop 1) = some t) := by
            show unqL (s.data.toList.drop 1) = some t
            rw [hu.out, if_pos hend]
          clear hend
          have hback := hown.text
          have htz : (⟨t.toArray⟩ : ByteArray).size ≤ maxLen := by
            show t.toArray.size ≤ maxLen
            unfold maxLen
            simp
            omega
          by_cases hv : visB ⟨t.toArray⟩ = true
          · have HF : Hid (unqOk s = true ∧ (⟨t.toArray⟩ : ByteArray) = unqT0 s) := unq_some (startQ_yes HQ.out) HS.out hv
            go_wp2_with (go_at_call 15; refine (implVis _ _ htz).mono ?_; rintro e w2 ⟨rfl, hb2⟩; have hback2 := (hown.kept hb2).text)
            simp only [jumps]
            go_ret2
            exact ⟨unqE_yes HF.out.1 HF.out.2, hb.trans (hb2.mono hb.size)⟩
          · have hv' : visB ⟨t.toArray⟩ = false := by simpa using hv
            have HF : Hid (unqOk s = false) := unq_unseen HS.out hv'
            clear hv
            go_wp2_with (go_at_call 15; refine (implVis _ _ htz).mono ?_; rintro e w2 ⟨rfl, hb2⟩)
            go_step3
            go_wp2
            simp only [jumps]
            go_ret2
            exact ⟨unqE_no HF.out, hb.trans (hb2.mono hb.size)⟩
        · have hd : ((k : Int) == (s.size : Int)) = false := by simp; omega
          have HF : Hid (unqOk s = false) := unq_none (by rw [hu.out, if_neg hend])
          clear hend
          go_wp2
          go_step3
          go_wp2
          simp only [jumps]
          go_ret2
          exact ⟨unqE_no HF.out, hb⟩
      | 3, hJ =>
        obtain ⟨k, n, v, t, ⟨u, rfl⟩, rfl, hk1, hk2, hown, hb, htl, hu⟩ := hJ
        refine ⟨_, rfl, ?_⟩
        rw [mq_fr3]
        unfold frU
        have hbs := hb.size
        by_cases hlt : k < s.size
        · by_cases h34 : (s[k].toNat : Int) = 34
          · have HN : Hid (unqL (s.data.toList.drop 1) = (unqL (s.data.toList.drop (k + 1))).map ((_ ++ [s[k]]) ++ ·)) := st_taken hlt (Or.inl h34) hu.out
            have hq := bne_no h34
            clear h34
            go_wp2_with (at_builtin; refine wpList_push _ rfl (.tmp 46) (.tmp 50) rfl w.heap.size _ _ _ s[k] rfl rfl hown rfl (by omega) hbs ?_; intro v2 w2 ho2 hg2)
            go_step3
            exact jump1 rfl (by first | rfl | omega) (by omega) (by omega) ho2 (hb.grown hg2 hbs (OwnsB.from hown)) (by simp; omega) HN (by omega)
          · have hq := bne_yes h34
            by_cases h92 : (s[k].toNat : Int) = 92
            · have HN : Hid (unqL (s.data.toList.drop 1) = (unqL (s.data.toList.drop (k + 1))).map ((_ ++ [s[k]]) ++ ·)) := st_taken hlt (Or.inr h92) hu.out
              have hq2 := bne_no h92
              clear h34 h92
              go_wp2_with (at_builtin; refine wpList_push _ rfl (.tmp 46) (.tmp 50) rfl w.heap.size _ _ _ s[k] rfl rfl hown rfl (by omega) hbs ?_; intro v2 w2 ho2 hg2)
              go_step3
              exact jump1 rfl (by first | rfl | omega) (by omega) (by omega) ho2 (hb.grown hg2 hbs (OwnsB.from hown)) (by simp; omega) HN (by omega)
            · have HF : Hid (unqOk s = false) := st_untaken hlt h34 h92 hu.out
              have hq2 := bne_yes h92
              clear h34 h92
              go_wp2
              go_step3
              exact jump0 rfl hb HF (by omega)
        · have HF : Hid (unqOk s = false) := st_end' hlt hu.out
          go_wp2
          go_step3
          exact jump0 rfl hb HF (by omega)
      | (n + 4), hJ => exact hJ.elim
  · have hq1 : startQ s = false := by simpa using hq0
    have HF : Hid (unqOk s = false) := unq_first (startQ_no hq1)
    clear hq0
    go_enter Tryd.func19, Tryd.ntmps19
    go_wp2
    refine wp_scope_many (fun l a x => l = 0 ∧ Jq s w 0 a x) (mq s) ?_ ?_
    · go_wp2_with (go_at_call 55; refine (hasQ _ _ hs).mono ?_; rintro e w' ⟨rfl, rfl⟩)
      go_step3
      exact ⟨rfl, (jump0 (m := 1) rfl (Below.refl _ _) HF (by omega)).1⟩
    · rintro l a x ⟨rfl, hJ⟩
      obtain ⟨⟨u, rfl⟩, hb, hf⟩ := hJ
      refine ⟨_, rfl, ?_⟩
      unfold frA
      go_wp2
      simp only [jumps]
      go_ret2
      exact ⟨unqE_no hf.out, hb⟩
end Go.Proofs.YthadmhleibhlgaaDoor

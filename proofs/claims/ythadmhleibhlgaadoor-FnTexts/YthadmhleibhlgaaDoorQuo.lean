/-
  The contracts of Quoted, the specification's and the program's: both answer the quotation of a visible text, and nothing of another.
-/
import Derived.Test.YthadmhleibhlgaaDoorOwn
import Derived.Test.YthadmhleibhlgaaDoorVis
namespace Go.Proofs.YthadmhleibhlgaaDoor
open Go.RowKit

/-- A byte within a quotation. -/
def quoC (c : UInt8) : List UInt8 := if c.toNat = 34 ∨ c.toNat = 92 then [92, c] else [c]
def quoL (l : List UInt8) : List UInt8 := l.flatMap quoC
theorem quoL_length (l : List UInt8) : (quoL l).length ≤ 2 * l.length := by
  induction l with
  | nil => simp [quoL]
  | cons c l ih =>
    have e : quoL (c :: l) = quoC c ++ quoL l := by simp [quoL]
    have h2 : (quoC c).length ≤ 2 := by unfold quoC; split <;> simp
    rw [e, List.length_append, List.length_cons]
    omega
theorem quoL_snoc (l : List UInt8) (c : UInt8) : quoL (l ++ [c]) = quoL l ++ quoC c := by simp [quoL]
/-- What is made so far. -/
def quoTo (s : ByteArray) (k : Nat) : List UInt8 := 34 :: quoL (s.data.toList.take k)
theorem quoTo_zero (s : ByteArray) : quoTo s 0 = [34] := rfl
theorem quoTo_plain {s : ByteArray} {k : Nat} (h : k < s.size) (h1 : ¬ (s[k].toNat = 34 ∨ s[k].toNat = 92)) : quoTo s k ++ [s[k]] = quoTo s (k + 1) := by
  unfold quoTo
  rw [take_snoc s k h, quoL_snoc]
  unfold quoC
  rw [if_neg h1]
  rfl
theorem quoTo_two {s : ByteArray} {k : Nat} (h : k < s.size) (h1 : s[k].toNat = 34 ∨ s[k].toNat = 92) : quoTo s k ++ [92] ++ [s[k]] = quoTo s (k + 1) := by
  unfold quoTo
  rw [take_snoc s k h, quoL_snoc]
  unfold quoC
  rw [if_pos h1]
  simp
theorem quoTo_length {s : ByteArray} (k : Nat) (hs : s.size ≤ 400) : (quoTo s k).length ≤ 801 := by
  have h1 := quoL_length (s.data.toList.take k)
  have h2 : (s.data.toList.take k).length ≤ s.data.toList.length := List.length_take_le' _ _
  have h3 : s.data.toList.length = s.size := by simp
  unfold quoTo
  rw [List.length_cons]
  omega
/-- The quotation. -/
def quoS (s : ByteArray) : ByteArray := ⟨(34 :: quoL s.data.toList ++ [34]).toArray⟩
theorem quoTo_end {s : ByteArray} {k : Nat} (h : ¬ k < s.size) : (⟨(quoTo s k ++ [34]).toArray⟩ : ByteArray) = quoS s := by
  unfold quoTo quoS; rw [take_all s k h]
/-- What Quoted answers. -/
def quoA (s : ByteArray) : ByteArray := if visB s = true then quoS s else ⟨#[]⟩
theorem ret_str {a b : ByteArray} (h : a = b) : Ending.returned (.string a) = .returned (.string b) := by rw [h]
theorem quoA_no {s : ByteArray} (h : visB s = false) : (⟨#[]⟩ : ByteArray) = quoA s := by unfold quoA; rw [h]; rfl
theorem quoA_yes {s : ByteArray} (h : visB s = true) : quoS s = quoA s := by unfold quoA; rw [h]; rfl
theorem vis_size {s : ByteArray} (h : visB s = true) : s.size ≤ 400 := by
  unfold visB at h; rw [Bool.and_eq_true] at h; exact of_decide_eq_true h.1
theorem vis_at {s : ByteArray} (h : visB s = true) {k : Nat} (hk : k < s.size) : visN (s[k].toNat : Int) = true := by
  unfold visB at h; rw [Bool.and_eq_true] at h
  have := h.2
  unfold allB at this
  rw [List.all_eq_true] at this
  exact this _ (mem_at s k hk)
theorem beq_yes {a b : Int} (h : a = b) : (a == b) = true := by simp [h]
theorem beq_no {a b : Int} (h : a ≠ b) : (a == b) = false := by simp [h]

set_option maxHeartbeats 400000 in
theorem specQuo (s : ByteArray) (w : World) (hs : s.size ≤ 400) :
    Calls Tryd.prog 52 #[.string s] w fun e w' => e = .returned (.string (quoS s)) ∧ Below w.heap.size w w' := by
  go_enter Tryd.func52, Tryd.ntmps52
  go_wp2
  go_loopw [3, 4] (fun v i wr => ∃ k : Nat, k ≤ s.size ∧ i = .int .i64 k ∧ OwnsB wr w.heap.size v (quoTo s k) ∧ Below w.heap.size w wr) (fun _ i _ => s.size - (intOf i).toNat)
  case atStart => exact ⟨0, Nat.zero_le _, rfl, OwnsB.one w 34, (Below.refl _ w).alloc (Nat.le_refl _) _⟩
  case round =>
    obtain ⟨k, hk, rfl, hown, hb⟩ := hrel
    have hl := quoTo_length k hs
    have hbs := hb.size
    by_cases hlt : k < s.size
    · by_cases h34 : (s[k].toNat : Int) = 34
      · have HE : Hid (quoTo s k ++ [92] ++ [s[k]] = quoTo s (k + 1)) := quoTo_two hlt (by omega)
        have hq := beq_yes h34
        clear h34
        go_wp2_with (first | (at_builtin; refine wpList_push _ rfl (.tmp 22) (.tmp 23) rfl w.heap.size _ _ _ 92 rfl rfl hown rfl (by omega) hbs ?_; intro v1 w1 ho1 hg1; have hb1 := hb.grown hg1 hbs (OwnsB.from hown); have hbs1 := hb1.size) | (at_builtin; refine wpList_push _ rfl (.tmp 25) (.tmp 29) rfl w.heap.size _ _ _ s[k] rfl rfl ho1 rfl (by simp; omega) hbs1 ?_; intro v2 w2 ho2 hg2))
        go_roundw
        case rel => exact ⟨k + 1, by omega, by go_num, by rw [← HE.out]; exact ho2, hb1.grown hg2 hbs1 (OwnsB.from ho1)⟩
        case measure => simp [intOf]; omega
      · have hq := beq_no h34
        by_cases h92 : (s[k].toNat : Int) = 92
        · have HE : Hid (quoTo s k ++ [92] ++ [s[k]] = quoTo s (k + 1)) := quoTo_two hlt (by omega)
          have hq2 := beq_yes h92
          clear h34 h92
          go_wp2_with (first | (at_builtin; refine wpList_push _ rfl (.tmp 22) (.tmp 23) rfl w.heap.size _ _ _ 92 rfl rfl hown rfl (by omega) hbs ?_; intro v1 w1 ho1 hg1; have hb1 := hb.grown hg1 hbs (OwnsB.from hown); have hbs1 := hb1.size) | (at_builtin; refine wpList_push _ rfl (.tmp 25) (.tmp 29) rfl w.heap.size _ _ _ s[k] rfl rfl ho1 rfl (by simp; omega) hbs1 ?_; intro v2 w2 ho2 hg2))
          go_roundw
          case rel => exact ⟨k + 1, by omega, by go_num, by rw [← HE.out]; exact ho2, hb1.grown hg2 hbs1 (OwnsB.from ho1)⟩
          case measure => simp [intOf]; omega
        · have HE : Hid (quoTo s k ++ [s[k]] = quoTo s (k + 1)) := quoTo_plain hlt (by omega)
          have hq2 := beq_no h92
          clear h34 h92
          go_wp2_with (at_builtin; refine wpList_push _ rfl (.tmp 25) (.tmp 29) rfl w.heap.size _ _ _ s[k] rfl rfl hown rfl (by omega) hbs ?_; intro v2 w2 ho2 hg2)
          go_roundw
          case rel => exact ⟨k + 1, by omega, by go_num, by rw [← HE.out]; exact ho2, hb.grown hg2 hbs (OwnsB.from hown)⟩
          case measure => simp [intOf]; omega
    · have HE : Hid ((⟨(quoTo s k ++ [34]).toArray⟩ : ByteArray) = quoS s) := quoTo_end hlt
      go_wp2_with (at_builtin; refine wpList_push _ rfl (.tmp 31) (.tmp 32) rfl w.heap.size _ _ _ 34 rfl rfl hown rfl (by omega) hbs ?_; intro v2 w2 ho2 hg2; have hback := ho2.text)
      go_ret
      exact ⟨ret_str HE.out, hb.grown hg2 hbs (OwnsB.from hown)⟩

theorem specQuoted (s : ByteArray) (w : World) (hs : s.size ≤ maxLen) :
    Calls Tryd.prog 14 #[.string s] w fun e w' => e = .returned (.string (quoA s)) ∧ Below w.heap.size w w' := by
  by_cases hv : visB s = true
  · have HA : Hid (quoS s = quoA s) := quoA_yes hv
    have hz := vis_size hv
    go_enter Tryd.func14, Tryd.ntmps14
    go_wp2_with (first | (go_at_call 16; refine (specVis _ _ hs).mono ?_; rintro e w' ⟨rfl, rfl⟩) | (go_at_call 52; refine (specQuo _ _ hz).mono ?_; rintro e w' ⟨rfl, hb⟩))
    go_ret
    exact ⟨ret_str HA.out, hb⟩
  · have hv' : visB s = false := by simpa using hv
    clear hv
    have HA : Hid ((⟨#[]⟩ : ByteArray) = quoA s) := quoA_no hv'
    go_enter Tryd.func14, Tryd.ntmps14
    go_wp2_with (go_at_call 16; refine (specVis _ _ hs).mono ?_; rintro e w' ⟨rfl, rfl⟩)
    go_ret
    exact ⟨ret_str HA.out, Below.refl _ _⟩
end Go.Proofs.YthadmhleibhlgaaDoor

/-
  The contract of the specification's Unquoted.
-/
import Derived.Test.YthadmhleibhlgaaDoorPlain5
import Derived.Laws.Strings
namespace Go.Proofs.YthadmhleibhlgaaDoor
open Go.RowKit

theorem drop_at (s : ByteArray) (i : Nat) (h : i < s.size) : s.data.toList.drop i = s[i] :: s.data.toList.drop (i + 1) := by
  rw [List.drop_eq_getElem_cons (by simpa using h)]; rfl
theorem drop_past (s : ByteArray) (i : Nat) (h : ¬ i < s.size) : s.data.toList.drop i = [] :=
  List.drop_of_length_le (by have e : s.data.toList.length = s.size := by simp
                             omega)
theorem spL_end (s : ByteArray) (i : Nat) (h : ¬ i + 1 < s.size) : spL (s.data.toList.drop i) = [] := by
  by_cases h1 : i < s.size
  · rw [drop_at s i h1, drop_past s (i + 1) h]; rfl
  · rw [drop_past s i h1]; rfl
theorem sp_two {s : ByteArray} {i : Nat} {t : List UInt8} (h : i + 1 < s.size) (hc : (s[i].toNat : Int) = 92) (hs : spL (s.data.toList.drop 1) = t ++ spL (s.data.toList.drop i)) : spL (s.data.toList.drop 1) = (t ++ [s[i + 1]]) ++ spL (s.data.toList.drop (i + 1 + 1)) := by
  rw [hs, drop_at s i (by omega), drop_at s (i + 1) h, spL_two _ _ (by omega)]
  simp
theorem sp_one {s : ByteArray} {i : Nat} {t : List UInt8} (h : i + 1 < s.size) (hc : (s[i].toNat : Int) ≠ 92) (hs : spL (s.data.toList.drop 1) = t ++ spL (s.data.toList.drop i)) : spL (s.data.toList.drop 1) = (t ++ [s[i]]) ++ spL (s.data.toList.drop (i + 1)) := by
  rw [hs, drop_at s i (by omega), drop_at s (i + 1) h, spL_one _ _ (by omega)]
  simp
theorem sp_done {s : ByteArray} {i : Nat} {t : List UInt8} (h : ¬ i + 1 < s.size) (hs : spL (s.data.toList.drop 1) = t ++ spL (s.data.toList.drop i)) : unqT0 s = ⟨t.toArray⟩ := by
  unfold unqT0; rw [hs, spL_end s i h, List.append_nil]
theorem bytes_ext {a b : ByteArray} (h : a.data.toList = b.data.toList) : a = b := by
  have : a.data = b.data := Array.ext' h
  cases a; cases b; exact congrArg _ this
theorem text_eq {a b : ByteArray} (h : a = b) : (a.toList == b.toList) = true := by subst h; simp
theorem text_ne {a b : ByteArray} (h : ¬ a = b) : (a.toList == b.toList) = false := by
  cases hk : (a.toList == b.toList) with
  | false => rfl
  | true =>
    have := eq_of_beq hk
    rw [ByteArray.toList_eq, ByteArray.toList_eq] at this
    exact absurd (bytes_ext this) h
theorem unq_is_ok {s t : ByteArray} (h : unqT0 s = t) (hv : visB t = true) (hq : quoS t = s) : unqOk s = true := by
  unfold unqOk; rw [h, hv, hq]; simp
theorem unq_not_ok {s t : ByteArray} (h : unqT0 s = t) (hq : ¬ quoS t = s) : unqOk s = false := by
  unfold unqOk; rw [h, decide_eq_false hq]; simp
theorem OwnsB.none (w : World) : OwnsB (w.alloc (.cells #[] 5)) w.heap.size (.slice (some ⟨w.heap.size, 0, Option.none⟩) 0 0) [] :=
  World.ownsRow_lit w #[] 0 (Nat.le_refl _) (by unfold maxLen; decide) rfl

set_option maxRecDepth 100000 in
set_option maxHeartbeats 400000 in
theorem specUnq (s : ByteArray) (w : World) (hs : s.size ≤ 1048576) :
    Calls Tryd.prog 21 #[.string s] w fun e w' => e = .returned (unqE s) ∧ Below w.heap.size w w' := by
  go_enter Tryd.func21, Tryd.ntmps21
  go_wp2
  go_loopw [4, 5] (fun v i wr => ∃ (k : Nat) (t : List UInt8), 1 ≤ k ∧ k ≤ s.size + 1 ∧ i = .int .i64 k ∧ OwnsB wr w.heap.size v t ∧ Below w.heap.size w wr ∧ t.length ≤ k ∧ Hid (spL (s.data.toList.drop 1) = t ++ spL (s.data.toList.drop k))) (fun _ i _ => s.size + 1 - (intOf i).toNat)
  case atStart => exact ⟨1, [], Nat.le_refl _, by omega, rfl, OwnsB.none w, (Below.refl _ w).alloc (Nat.le_refl _) _, Nat.zero_le _, rfl⟩
  case round =>
    obtain ⟨k, t, hk1, hk2, rfl, hown, hb, htl, hsp⟩ := hrel
    have hbs := hb.size
    by_cases hlt : k + 1 < s.size
    · have hlt1 : k < s.size := by omega
      by_cases h92 : (s[k].toNat : Int) = 92
      · have HS : Hid _ := sp_two hlt h92 hsp.out
        have hq := beq_yes h92
        clear h92
        go_wp2_with (at_builtin; refine wpList_push _ rfl (.tmp 21) (.tmp 25) rfl w.heap.size _ _ _ s[k + 1] rfl rfl hown rfl (by omega) hbs ?_; intro v2 w2 ho2 hg2)
        go_roundw
        case rel => exact ⟨k + 1 + 1, _, by omega, by omega, by go_num, ho2, hb.grown hg2 hbs (OwnsB.from hown), by simp; omega, HS⟩
        case measure => simp [intOf]; omega
      · have HS : Hid _ := sp_one hlt h92 hsp.out
        have hq := beq_no h92
        clear h92
        go_wp2_with (at_builtin; refine wpList_push _ rfl (.tmp 21) (.tmp 25) rfl w.heap.size _ _ _ s[k] rfl rfl hown rfl (by omega) hbs ?_; intro v2 w2 ho2 hg2)
        go_roundw
        case rel => exact ⟨k + 1, _, by omega, by omega, by go_num, ho2, hb.grown hg2 hbs (OwnsB.from hown), by simp; omega, HS⟩
        case measure => simp [intOf]; omega
    · have HT : Hid (unqT0 s = ⟨t.toArray⟩) := sp_done hlt hsp.out
      have hback := hown.text
      have htz : (⟨t.toArray⟩ : ByteArray).size ≤ maxLen := by
        show t.toArray.size ≤ maxLen
        unfold maxLen
        simp
        omega
      by_cases hv : visB ⟨t.toArray⟩ = true
      · have hvz := vis_size hv
        by_cases hqs : quoS ⟨t.toArray⟩ = s
        · have hqe : ((quoS ⟨t.toArray⟩).toList == s.toList) = true := text_eq hqs
          have HF : Hid (unqOk s = true) := unq_is_ok HT.out hv hqs
          clear hqs
          go_wp2_with (first | (go_at_call 16; refine (specVis _ _ htz).mono ?_; rintro e w' ⟨rfl, rfl⟩) | (go_at_call 52; refine (specQuo _ _ hvz).mono ?_; rintro e w' ⟨rfl, hb2⟩))
          go_ret2
          exact ⟨unqE_yes HF.out HT.out.symm, hb.trans (hb2.mono hb.size)⟩
        · have hqe : ((quoS ⟨t.toArray⟩).toList == s.toList) = false := text_ne hqs
          have HF : Hid (unqOk s = false) := unq_not_ok HT.out hqs
          clear hqs
          go_wp2_with (first | (go_at_call 16; refine (specVis _ _ htz).mono ?_; rintro e w' ⟨rfl, rfl⟩) | (go_at_call 52; refine (specQuo _ _ hvz).mono ?_; rintro e w' ⟨rfl, hb2⟩))
          go_ret2
          exact ⟨unqE_no HF.out, hb.trans (hb2.mono hb.size)⟩
      · have hv' : visB ⟨t.toArray⟩ = false := by simpa using hv
        have HF : Hid (unqOk s = false) := by
          show unqOk s = false
          unfold unqOk
          rw [HT.out, hv']
          rfl
        clear hv
        go_wp2_with (go_at_call 16; refine (specVis _ _ htz).mono ?_; rintro e w' ⟨rfl, rfl⟩)
        go_ret2
        exact ⟨unqE_no HF.out, hb⟩
end Go.Proofs.YthadmhleibhlgaaDoor

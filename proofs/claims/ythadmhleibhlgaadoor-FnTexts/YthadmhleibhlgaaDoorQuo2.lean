/-
  The contract of the program's Quoted.
-/
import Derived.Test.YthadmhleibhlgaaDoorQuo
namespace Go.Proofs.YthadmhleibhlgaaDoor
open Go.RowKit

theorem visN_ascii {r : Int} (h : visN r = true) : r < 128 := by
  have := of_decide_eq_true h
  omega

theorem iterPos_is {w : World} {k : Nat} {s : ByteArray} {p : Nat} (h : w.heap[k]? = some (.stringIter s p)) : w.iterPos k = p := by simp [World.iterPos, h]

/-- The iterator's block stands where a row is appended to. -/
theorem iter_grown {w w' : World} {B k pos : Nat} {v : Value} {l : List UInt8} {s : ByteArray} (hit : w.heap[k]? = some (.stringIter s pos)) (hown : OwnsB w B v l) (hg : w.grownBy w' v.ownBlock) : w'.heap[k]? = some (.stringIter s pos) :=
  (hg.block k (Array.getElem?_eq_some_iff.1 hit).1 (hown.noIter hit)).trans hit

set_option maxHeartbeats 800000 in
theorem implQuoted (s : ByteArray) (w : World) (hs : s.size ≤ maxLen) :
    Calls Tryd.prog 12 #[.string s] w fun e w' => e = .returned (.string (quoA s)) ∧ Below w.heap.size w w' := by
  by_cases hv : visB s = true
  · have HA : Hid (quoS s = quoA s) := quoA_yes hv
    have hz := vis_size hv
    go_enter Tryd.func12, Tryd.ntmps12
    go_wp2_with (go_at_call 15; refine (implVis _ _ hs).mono ?_; rintro e w1 ⟨rfl, hb1⟩)
    go_loopw [3] (fun v wr => ∃ pos : Nat, pos ≤ s.size ∧ OwnsB wr w1.heap.size v (quoTo s pos) ∧ wr.heap[w1.heap.size + 1]? = some (.stringIter s pos) ∧ Below w1.heap.size w1 wr) (fun _ wr => s.size - wr.iterPos (w1.heap.size + 1))
    case atStart =>
      refine ⟨0, Nat.zero_le _, (OwnsB.one w1 34).alloc _, ?_, ((Below.refl _ w1).alloc (Nat.le_refl _) _).alloc (by simp) _⟩
      have := World.iter_heap (w1.alloc (.cells #[.int .u8 34] 5)) s 0
      simpa using this
    case round =>
      obtain ⟨pos, hpos, hown, hit, hb⟩ := hrel
      have hl := quoTo_length pos hz
      have hM : Hid (wr.iterPos (w1.heap.size + 1) = pos) := iterPos_is hit
      by_cases hp : pos < s.size
      · have hvis := vis_at hv hp
        have hasc : s[pos].toNat < 128 := by have := visN_ascii hvis; omega
        clear hvis
        have hnx : ∀ ty, (Instr.next (.pointer (some ⟨w1.heap.size + 1, 0, none⟩)) true ty).run Tryd.prog wr = _ := fun ty => Lib.run_next_ascii_at wr (w1.heap.size + 1) s pos ty hit hp hasc
        have hit2 := Lib.iterAt_heap wr (w1.heap.size + 1) s pos (pos + 1) hit
        have hown2 := hown.iterAt hit (pos + 1)
        have hb2 := Lib.below_iterAt hb (Nat.le_succ w1.heap.size) s (pos + 1)
        clear hown hb hit
        obtain ⟨W, hWd⟩ : ∃ W, wr.iterAt (w1.heap.size + 1) s (pos + 1) = W := ⟨_, rfl⟩
        rw [hWd] at hnx hit2 hown2 hb2
        clear hWd
        have HI : Hid (W.heap[w1.heap.size + 1]? = some (.stringIter s (pos + 1))) := hit2
        clear hit2
        have hbs := hb2.size
        by_cases h34 : (s[pos].toNat : Int) = 34
        · have HE : Hid (quoTo s pos ++ [92] ++ [s[pos]] = quoTo s (pos + 1)) := quoTo_two hp (by omega)
          have hq := beq_yes h34
          clear h34
          go_wp2_with (first | (at_builtin; refine wpList_push _ rfl (.tmp 22) (.tmp 23) rfl w1.heap.size _ _ _ 92 rfl rfl hown2 rfl (by omega) hbs ?_; intro v3 w3 ho3 hg3; have hb3 := hb2.grown hg3 hbs (OwnsB.from hown2); have hbs3 := hb3.size) | (at_builtin; refine wpList_push _ rfl (.tmp 25) (.tmp 29) rfl w1.heap.size _ _ _ s[pos] rfl rfl ho3 rfl (by simp; omega) hbs3 ?_; intro v4 w4 ho4 hg4))
          go_roundw
          case rel => exact ⟨pos + 1, by omega, by rw [← HE.out]; exact ho4, iter_grown (iter_grown HI.out hown2 hg3) ho3 hg4, hb3.grown hg4 hbs3 (OwnsB.from ho3)⟩
          case measure => rw [iterPos_is (iter_grown (iter_grown HI.out hown2 hg3) ho3 hg4), hM.out]; omega
        · have hq := beq_no h34
          by_cases h92 : (s[pos].toNat : Int) = 92
          · have HE : Hid (quoTo s pos ++ [92] ++ [s[pos]] = quoTo s (pos + 1)) := quoTo_two hp (by omega)
            have hq2 := beq_yes h92
            clear h34 h92
            go_wp2_with (first | (at_builtin; refine wpList_push _ rfl (.tmp 22) (.tmp 23) rfl w1.heap.size _ _ _ 92 rfl rfl hown2 rfl (by omega) hbs ?_; intro v3 w3 ho3 hg3; have hb3 := hb2.grown hg3 hbs (OwnsB.from hown2); have hbs3 := hb3.size) | (at_builtin; refine wpList_push _ rfl (.tmp 25) (.tmp 29) rfl w1.heap.size _ _ _ s[pos] rfl rfl ho3 rfl (by simp; omega) hbs3 ?_; intro v4 w4 ho4 hg4))
            go_roundw
            case rel => exact ⟨pos + 1, by omega, by rw [← HE.out]; exact ho4, iter_grown (iter_grown HI.out hown2 hg3) ho3 hg4, hb3.grown hg4 hbs3 (OwnsB.from ho3)⟩
            case measure => rw [iterPos_is (iter_grown (iter_grown HI.out hown2 hg3) ho3 hg4), hM.out]; omega
          · have HE : Hid (quoTo s pos ++ [s[pos]] = quoTo s (pos + 1)) := quoTo_plain hp (by omega)
            have hq2 := beq_no h92
            clear h34 h92
            go_wp2_with (at_builtin; refine wpList_push _ rfl (.tmp 25) (.tmp 29) rfl w1.heap.size _ _ _ s[pos] rfl rfl hown2 rfl (by omega) hbs ?_; intro v4 w4 ho4 hg4)
            go_roundw
            case rel => exact ⟨pos + 1, by omega, by rw [← HE.out]; exact ho4, iter_grown HI.out hown2 hg4, hb2.grown hg4 hbs (OwnsB.from hown2)⟩
            case measure => rw [iterPos_is (iter_grown HI.out hown2 hg4), hM.out]; omega
      · have hnx : ∀ ty, (Instr.next (.pointer (some ⟨w1.heap.size + 1, 0, none⟩)) true ty).run Tryd.prog wr = _ := fun ty => Lib.run_next_end_at wr (w1.heap.size + 1) s pos ty hit hp
        have HE : Hid ((⟨(quoTo s pos ++ [34]).toArray⟩ : ByteArray) = quoS s) := quoTo_end hp
        have hbs := hb.size
        clear hit
        go_wp2_with (at_builtin; refine wpList_push _ rfl (.tmp 31) (.tmp 32) rfl w1.heap.size _ _ _ 34 rfl rfl hown rfl (by omega) hbs ?_; intro v2 w2 ho2 hg2; have hback := ho2.text)
        go_ret
        exact ⟨ret_str (HE.out.trans HA.out), hb1.trans ((hb.grown hg2 hbs (OwnsB.from hown)).mono hb1.size)⟩
  · have hv' : visB s = false := by simpa using hv
    clear hv
    have HA : Hid ((⟨#[]⟩ : ByteArray) = quoA s) := quoA_no hv'
    go_enter Tryd.func12, Tryd.ntmps12
    go_wp2_with (go_at_call 15; refine (implVis _ _ hs).mono ?_; rintro e w1 ⟨rfl, hb1⟩)
    go_ret
    exact ⟨ret_str HA.out, hb1⟩
end Go.Proofs.YthadmhleibhlgaaDoor

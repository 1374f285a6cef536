/-
  The contracts of what splits a text at a byte: the specification's own, and the library's strings.Split at a text of one byte.
-/
import Derived.Test.YthadmhleibhlgaaDoorStr
import Derived.Test.YthadmhleibhlgaaDoorShelfA
namespace Go.Proofs.YthadmhleibhlgaaDoor
open Go.RowKit

theorem index_byte (c : UInt8) : ∀ s : List UInt8, Lib.index s [c] = Lib.indexByte s c
  | [] => rfl
  | b :: l => by
    rw [Lib.index, Lib.indexByte, index_byte c l]
    by_cases h : b = c
    · subst h; simp [List.isPrefixOf]
    · have h2 : ([c] : List UInt8).isPrefixOf (b :: l) = false := by simp [List.isPrefixOf, Ne.symm h]
      have h3 : (b == c) = false := by simp [h]
      rw [h2, h3]
theorem genSplit1 (s : ByteArray) (c : UInt8) (w : World) (hs : s.size ≤ 1048576) :
    Calls Tryd.prog 87 #[.string s, .string ⟨#[c]⟩, .int .i64 0, .int .i64 (-1)] w fun e w' =>
      e = .returned (.slice (some ⟨w.heap.size, 0, none⟩) (splL c s.data.toList).length (splL c s.data.toList).length) ∧ w' = w.alloc (.cells (((splL c s.data.toList).map txt).map Value.string).toArray 9) := by
  have hle := Lib.countB_le ⟨#[c]⟩ (Nat.le_refl 1) s.size s (Nat.le_refl _)
  have hlen := Lib.splitB_all ⟨#[c]⟩ (Nat.le_refl 1) 0 _ s rfl
  have k := Any.strings_genSplit_core Tryd.lays221 (by kernel_rfl) s ⟨#[c]⟩ 0 (-1) (Lib.countB s ⟨#[c]⟩ + 1) w (by omega) (Nat.le_refl 1) (Nat.zero_le _)
    (fun x C hx => (Tryd.strings_Index_one x c _).mono fun e w' ⟨he, hw⟩ => ⟨by rw [he]; show _ = Ending.returned (.int .i64 (Lib.index x.data.toList [c])); rw [index_byte], hw⟩)
    ((Tryd.strings_Count_one s c w).mono fun e w' ⟨he, hw⟩ => ⟨by rw [he]; show _ = Ending.returned (Value.int .i64 ((Lib.count s.data.toList [c] : Nat) : Int)); rw [Lib.count_one]; rfl, hw⟩)
    (by decide) (by decide) (by rw [if_pos (by decide)]; omega)
  rw [Nat.add_sub_cancel] at k
  have e2 : Lib.cellsOf (Lib.splitB ⟨#[c]⟩ 0 (Lib.countB s ⟨#[c]⟩) s) (Lib.countB s ⟨#[c]⟩ + 1) = ((Lib.splitB ⟨#[c]⟩ 0 (Lib.countB s ⟨#[c]⟩) s).map Value.string).toArray := by rw [← hlen]; exact Lib.cellsOf_full _
  rw [e2, hlen, splitB_is, countB_is] at k
  exact k
set_option maxHeartbeats 1000000 in
theorem split1 (s : ByteArray) (c : UInt8) (w : World) (hs : s.size ≤ 1048576) :
    Calls Tryd.prog 66 #[.string s, .string ⟨#[c]⟩] w fun e w' =>
      e = .returned (.slice (some ⟨w.heap.size, 0, none⟩) (splL c s.data.toList).length (splL c s.data.toList).length) ∧ w' = w.alloc (.cells (((splL c s.data.toList).map txt).map Value.string).toArray 9) := by
  have k := genSplit1 s c w hs
  generalize (splL c s.data.toList).length = n at k
  generalize (((splL c s.data.toList).map txt).map Value.string).toArray = C at k
  go_enter Tryd.func66, Tryd.ntmps66
  go_wp2_with (go_at_call 87; refine k.mono ?_; rintro e w' ⟨rfl, hw⟩; rw [hw])
  go_ret
  exact ⟨rfl, rfl⟩
/-- What strings.Split lays is owned. -/
theorem split_owns (w : World) (ps : List (List UInt8)) (h : ps.length ≤ maxLen) : OwnsT (w.alloc (.cells ((ps.map txt).map Value.string).toArray 9)) w.heap.size (.slice (some ⟨w.heap.size, 0, none⟩) ps.length ps.length) (ps.map txt) := by
  have := World.ownsRow_lit (base := w.heap.size) (size := 1) (e := 9) w ((ps.map txt).map Value.string).toArray ps.length (Nat.le_refl _) h (by simp)
  unfold OwnsT
  simp only [List.length_map] at this ⊢
  exact this

set_option maxHeartbeats 1000000 in
theorem specSplit (s : ByteArray) (n : Int) (d : UInt8) (hn : n = (d.toNat : Int)) (w : World) (hs : s.size ≤ 1048576) :
    Calls Tryd.prog 71 #[.string s, .int .u8 n] w fun e w' => ∃ v, e = .returned v ∧ OwnsT w' w.heap.size v ((splL d s.data.toList).map txt) ∧ Below w.heap.size w w' := by
  subst hn
  go_enter Tryd.func71, Tryd.ntmps71
  go_wp2
  go_loopw [5, 6, 7] (fun v f i wr => ∃ (done : List (List UInt8)) (a k : Nat), f = .int .i64 a ∧ i = .int .i64 k ∧ OwnsT wr w.heap.size v (done.map txt) ∧ Below w.heap.size w wr ∧ done.length ≤ k ∧ a ≤ k ∧ ((k ≤ s.size ∧ Hid (SpAt d s done a k)) ∨ (k = s.size + 1 ∧ Hid (done = splL d s.data.toList)))) (fun _ _ i _ => s.size + 2 - (intOf i).toNat)
  case atStart => exact ⟨[], 0, 0, rfl, rfl, OwnsT.born w, (Below.refl _ w).alloc (Nat.le_refl _) _, Nat.le_refl _, Nat.le_refl _, Or.inl ⟨Nat.zero_le _, SpAt.start d s⟩⟩
  case round =>
    obtain ⟨done, a, k, rfl, rfl, hown, hb, hdl, hak, hst⟩ := hrel
    have hml : (done.map txt).length = done.length := by simp
    have hbs := hb.size
    rcases hst with ⟨hk, hat⟩ | ⟨hk, hout⟩
    · by_cases hend : k < s.size
      · have hqe : ((k : Int) == (s.size : Int)) = false := beq_no3 (by omega)
        by_cases hc : (s[k].toNat : Int) = (d.toNat : Int)
        · have hq := beq_yes3 hc
          have HN : Hid (SpAt d s (done ++ [cutL s.data.toList a k]) (k + 1) (k + 1)) := hat.out.hit hend (byte_eq hc)
          have HX : Hid ((done ++ [cutL s.data.toList a k]).map txt = done.map txt ++ [s.extract a k]) := by
            show (done ++ [cutL s.data.toList a k]).map txt = done.map txt ++ [s.extract a k]
            rw [map_txt_snoc, cut_text]
          clear hc
          go_wp2_with (at_builtin; refine wpList_pushT _ rfl (.tmp 26) (.tmp 31) rfl w.heap.size _ _ _ rfl hown rfl (by omega) hbs ?_; intro v2 w2 ho2 hg2)
          go_roundw
          case rel => exact ⟨_, k + 1, k + 1, by go_num, by go_num, by rw [HX.out]; exact ho2, hb.grown hg2 hbs (OwnsT.from hown), by simp; omega, Nat.le_refl _, Or.inl ⟨by omega, HN⟩⟩
          case measure => simp [intOf]; omega
        · have hq := beq_no3 hc
          have HN : Hid (SpAt d s done a (k + 1)) := hat.out.miss hend hak (fun e => hc (by rw [e]))
          clear hc
          go_wp2
          go_roundw
          case rel => exact ⟨_, a, k + 1, rfl, by go_num, hown, hb, by omega, by omega, Or.inl ⟨by omega, HN⟩⟩
          case measure => simp [intOf]; omega
      · have hqe : ((k : Int) == (s.size : Int)) = true := beq_yes3 (by omega)
        have HN : Hid (done ++ [cutL s.data.toList a k] = splL d s.data.toList) := hat.out.done hend
        have HX : Hid ((done ++ [cutL s.data.toList a k]).map txt = done.map txt ++ [s.extract a k]) := by
          show (done ++ [cutL s.data.toList a k]).map txt = done.map txt ++ [s.extract a k]
          rw [map_txt_snoc, cut_text]
        go_wp2_with (at_builtin; refine wpList_pushT _ rfl (.tmp 26) (.tmp 31) rfl w.heap.size _ _ _ rfl hown rfl (by omega) hbs ?_; intro v2 w2 ho2 hg2)
        go_roundw
        case rel => exact ⟨_, k + 1, k + 1, by go_num, by go_num, by rw [HX.out]; exact ho2, hb.grown hg2 hbs (OwnsT.from hown), by simp; omega, Nat.le_refl _, Or.inr ⟨by omega, HN⟩⟩
        case measure => simp [intOf]; omega
    · subst hk
      go_wp2
      go_ret
      exact ⟨_, rfl, by rw [← hout.out]; exact hown, hb⟩
end Go.Proofs.YthadmhleibhlgaaDoor

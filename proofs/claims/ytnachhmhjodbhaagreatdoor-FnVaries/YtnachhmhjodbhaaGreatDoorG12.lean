/-
  The contract of the specification's Items.
-/
import Derived.Test.YtnachhmhjodbhaaGreatDoorG05
namespace Go.Proofs.YtnachhmhjodbhaaGreatDoor
open Go.RowKit

theorem vis_sizeI {s : ByteArray} (h : visB s = true) : s.size ≤ 400 := by
  unfold visB at h; rw [Bool.and_eq_true] at h; exact of_decide_eq_true h.1
theorem ieq_yes {a b : Int} (h : a = b) : (a == b) = true := by simp [h]
theorem ieq_no {a b : Int} (h : a ≠ b) : (a == b) = false := by simp [h]
theorem ext_size (s : ByteArray) (a i : Nat) : (s.extract a i).size ≤ s.size := by
  have : (s.extract a i).size = min i s.size - a := by simp
  omega

/-- Spec: at the end of a part: the trimmed part is appended where it is not empty. -/
theorem At.comma' {s : ByteArray} {out : List ByteArray} {a i : Nat} (h : At s out a i false) (hi : i < s.size) (hc : (s[i].toNat : Int) = 44) : At s (out ++ one (s.extract a i)) (i + 1) (i + 1) false := by
  rw [cut_text s a i (by omega)]; exact h.comma hi hc

set_option maxRecDepth 100000 in
set_option maxHeartbeats 1000000 in
theorem specItems (s : ByteArray) (w : World) (hs : s.size ≤ maxLen) :
    Calls Tryz.prog 60 #[.string s] w fun e w' => ∃ v, e = .returned v ∧ OwnsS w' w.heap.size v (itemsA s) ∧ Below w.heap.size w w' := by
  by_cases hv : visB s = true
  · have hz := vis_sizeI hv
    have HA : Hid (itemsT s = itemsA s) := itemsA_yes hv
    go_enter Tryz.func60, Tryz.ntmps60
    go_wp2_with (go_at_call 80; refine (specVis _ _ hs).mono ?_; rintro e w' ⟨rfl, rfl⟩)
    go_loopw [3, 4, 5, 6] (fun v f o i wr => ∃ (out : List ByteArray) (a k : Nat) (op : Bool), f = .int .i64 a ∧ o = .bool op ∧ i = .int .i64 k ∧ OwnsS wr w.heap.size v out ∧ Below w.heap.size w wr ∧ out.length ≤ k ∧ a ≤ k ∧ ((k ≤ s.size ∧ Hid (At s out a k op)) ∨ (k = s.size + 1 ∧ Hid (out = itemsT s)))) (fun _ _ _ i _ => s.size + 2 - (intOf i).toNat)
    case atStart => exact ⟨[], 0, 0, false, rfl, rfl, rfl, OwnsS.born w, (Below.refl _ w).alloc (Nat.le_refl _) _, Nat.le_refl _, Nat.le_refl _, Or.inl ⟨Nat.zero_le _, At.start s⟩⟩
    case round =>
      obtain ⟨out, a, k, op, rfl, rfl, rfl, hown, hb, hol, hak, hst⟩ := hrel
      clear hv
      rcases hst with ⟨hk, hat⟩ | ⟨hk, hout⟩
      · by_cases hend : k < s.size
        · have hqe : ((k : Int) == (s.size : Int)) = false := ieq_no (by omega)
          by_cases h44 : (s[k].toNat : Int) = 44
          · have hq44 := ieq_yes h44
            cases op with
            | false =>
              have HN : Hid (At s (out ++ one (s.extract a k)) (k + 1) (k + 1) false) := hat.out.comma' hend h44
              clear h44
              have hxz : (s.extract a k).size ≤ 1048576 := by have := ext_size s a k; omega
              by_cases ht : 0 < (trimB (s.extract a k)).size
              · have hfull := full ht
                have hfe : (trimB (s.extract a k)).toList.isEmpty = false := by simpa using hfull
                have HO : Hid (one (s.extract a k) = [trimB (s.extract a k)]) := one_yes ht
                clear ht
                go_wp2_with (first | (go_at_call 81; refine (specTrim _ _ hxz).mono ?_; rintro e w' ⟨rfl, rfl⟩) | (at_builtin; refine wpList_pushS _ rfl (.tmp 40) (.tmp 42) rfl w.heap.size _ _ _ rfl hown rfl (by omega) hb.size ?_; intro v2 w2 ho2 hg2))
                go_roundw
                case rel => exact ⟨_, k + 1, k + 1, false, by go_num, rfl, by go_num, ho2, (hb.grown hg2 hb.size (OwnsS.from hown)), by simp; omega, Nat.le_refl _, Or.inl ⟨by omega, by have := HN.out; rw [HO.out] at this; first | exact this | (rw [List.append_nil] at this; exact this)⟩⟩
                case measure => simp [intOf]; omega
              · have hnil := void ht
                have HO : Hid (one (s.extract a k) = []) := one_no ht
                clear ht
                go_wp2_with (go_at_call 81; refine (specTrim _ _ hxz).mono ?_; rintro e w' ⟨rfl, rfl⟩)
                go_roundw
                case rel => exact ⟨_, k + 1, k + 1, false, by go_num, rfl, by go_num, hown, hb, by omega, Nat.le_refl _, Or.inl ⟨by omega, by have := HN.out; rw [HO.out] at this; first | exact this | (rw [List.append_nil] at this; exact this)⟩⟩
                case measure => simp [intOf]; omega
            | true =>
              have HN : Hid (At s out a (k + 1) true) := hat.out.plain hend hak (by simp) (by omega) (by omega)
              have hq34 : ((s[k].toNat : Int) == 34) = false := ieq_no (by omega)
              have hq92 : ((s[k].toNat : Int) == 92) = false := ieq_no (by omega)
              clear h44
              go_wp2
              go_roundw
              case rel => exact ⟨out, a, k + 1, true, rfl, rfl, by go_num, hown, hb, by omega, by omega, Or.inl ⟨by omega, HN⟩⟩
              case measure => simp [intOf]; omega
          · have hq44 := ieq_no h44
            by_cases h34 : (s[k].toNat : Int) = 34
            · have hq34 := ieq_yes h34
              have HN : Hid (At s out a (k + 1) (!op)) := hat.out.quote hend hak h34
              clear h44 h34
              go_wp2
              go_roundw
              case rel => exact ⟨out, a, k + 1, !op, rfl, rfl, by go_num, hown, hb, by omega, by omega, Or.inl ⟨by omega, HN⟩⟩
              case measure => simp [intOf]; omega
            · have hq34 := ieq_no h34
              by_cases h92 : (s[k].toNat : Int) = 92
              · have hq92 := ieq_yes h92
                cases op with
                | false =>
                  have HN : Hid (At s out a (k + 1) false) := hat.out.plain hend hak (by omega) h34 (by simp)
                  clear h44 h34 h92
                  go_wp2
                  go_roundw
                  case rel => exact ⟨out, a, k + 1, false, rfl, rfl, by go_num, hown, hb, by omega, by omega, Or.inl ⟨by omega, HN⟩⟩
                  case measure => simp [intOf]; omega
                | true =>
                  by_cases hl : k + 1 < s.size
                  · have HN : Hid (At s out a (k + 2) true) := hat.out.take hend hak h92
                    have hq1 : ((k : Int) + 1 == (s.size : Int)) = false := ieq_no (by omega)
                    clear h44 h34 h92
                    go_wp2
                    go_roundw
                    case rel => exact ⟨out, a, k + 2, true, rfl, rfl, by go_num, hown, hb, by omega, by omega, Or.inl ⟨by omega, HN⟩⟩
                    case measure => simp [intOf]; omega
                  · have HN : Hid (At s out a (k + 1) true) := hat.out.last hend hak h92 hl
                    have hq1 : ((k : Int) + 1 == (s.size : Int)) = true := ieq_yes (by omega)
                    clear h44 h34 h92
                    go_wp2
                    go_roundw
                    case rel => exact ⟨out, a, k + 1, true, rfl, rfl, by go_num, hown, hb, by omega, by omega, Or.inl ⟨by omega, HN⟩⟩
                    case measure => simp [intOf]; omega
              · have hq92 := ieq_no h92
                have HN : Hid (At s out a (k + 1) op) := hat.out.plain hend hak (fun x => h44 x.2) h34 (fun x => h92 x.2)
                clear h44 h34 h92
                go_wp2
                go_roundw
                case rel => exact ⟨out, a, k + 1, op, rfl, rfl, by go_num, hown, hb, by omega, by omega, Or.inl ⟨by omega, HN⟩⟩
                case measure => simp [intOf]; omega
        · obtain rfl : k = s.size := by omega
          have hqe : ((s.size : Int) == (s.size : Int)) = true := ieq_yes rfl
          have HN : Hid (out ++ one (s.extract a s.size) = itemsT s) := hat.out.done hend
          have hxz : (s.extract a s.size).size ≤ 1048576 := by have := ext_size s a s.size; omega
          by_cases ht : 0 < (trimB (s.extract a s.size)).size
          · have hfull := full ht
            have hfe : (trimB (s.extract a s.size)).toList.isEmpty = false := by simpa using hfull
            have HO : Hid (one (s.extract a s.size) = [trimB (s.extract a s.size)]) := one_yes ht
            clear ht
            go_wp2_with (first | (go_at_call 81; refine (specTrim _ _ hxz).mono ?_; rintro e w' ⟨rfl, rfl⟩) | (at_builtin; refine wpList_pushS _ rfl (.tmp 40) (.tmp 42) rfl w.heap.size _ _ _ rfl hown rfl (by omega) hb.size ?_; intro v2 w2 ho2 hg2))
            go_roundw
            case rel => exact ⟨_, s.size + 1, s.size + 1, op, by go_num, rfl, by go_num, ho2, (hb.grown hg2 hb.size (OwnsS.from hown)), by simp; omega, Nat.le_refl _, Or.inr ⟨rfl, by have := HN.out; rw [HO.out] at this; first | exact this | (rw [List.append_nil] at this; exact this)⟩⟩
            case measure => simp [intOf]
          · have hnil := void ht
            have HO : Hid (one (s.extract a s.size) = []) := one_no ht
            clear ht
            go_wp2_with (go_at_call 81; refine (specTrim _ _ hxz).mono ?_; rintro e w' ⟨rfl, rfl⟩)
            go_roundw
            case rel => exact ⟨_, s.size + 1, s.size + 1, op, by go_num, rfl, by go_num, hown, hb, by omega, Nat.le_refl _, Or.inr ⟨rfl, by have := HN.out; rw [HO.out] at this; first | exact this | (rw [List.append_nil] at this; exact this)⟩⟩
            case measure => simp [intOf]
      · subst hk
        go_wp2
        go_ret
        exact ⟨_, rfl, by rw [← HA.out, ← hout.out]; exact hown, hb⟩
  · have hv' : visB s = false := by simpa using hv
    clear hv
    have HA : Hid ([] = itemsA s) := itemsA_no hv'
    go_enter Tryz.func60, Tryz.ntmps60
    go_wp2_with (go_at_call 80; refine (specVis _ _ hs).mono ?_; rintro e w' ⟨rfl, rfl⟩)
    go_ret
    exact ⟨_, rfl, by rw [← HA.out]; exact OwnsS.born _, (Below.refl _ _).alloc (Nat.le_refl _) _⟩
end Go.Proofs.YtnachhmhjodbhaaGreatDoor

/-
  The specification's number into a list that rises.
-/
import Derived.Test.YtdoolnaekmffbaaSkA
import Derived.Test.YtdoolnaekmffbaaRomB
namespace Go.Proofs.Ytdoolnaekmffbaa
open Go.RowKit Go.Sort Ow Sk
set_option linter.unusedVariables false
set_option linter.unusedSimpArgs false

theorem belDrewK {B : Nat} {w w' : World} (h : Below B w w') : Below B w w'.drew := ⟨h.os, h.tape, h.output, h.size, h.block⟩
set_option maxRecDepth 100000 in
set_option maxHeartbeats 4000000 in
theorem specPut (g cap : Nat) (l : List Int) (z : Int) (B : Nat) (w : World) (ho : OwnsN w B (.slice (some ⟨g, 0, none⟩) l.length cap) l) (hris : l.Pairwise (· < ·)) (hl : l.length ≤ 2000) (hBw : B ≤ w.heap.size) :
    Calls Try.prog 47 #[.slice (some ⟨g, 0, none⟩) l.length cap, .int .i64 z] w fun e w' => ∃ g' c', e = .returned (.slice (some ⟨g', 0, none⟩) (put z l).length c') ∧ OwnsN w' B (.slice (some ⟨g', 0, none⟩) (put z l).length c') (put z l) ∧ Below w.heap.size w w' := by
  have HR : Hid (l.Pairwise (· < ·)) := hris
  have HO : Hid (OwnsN w B (.slice (some ⟨g, 0, none⟩) l.length cap) l) := ho
  have hSc : l.length ≤ cap := by obtain ⟨_, _, e, h4, _⟩ := ho.form; injection e with _ _ e3; omega
  have HCm : Hid (cap ≤ maxLen) := by obtain ⟨_, _, e, _, h4, _⟩ := ho.form; injection e with _ _ e3; subst e3; exact h4
  have hg := ho.under g rfl
  have hcl : Hid (∀ j (hj : j < l.length), w.cell? ⟨g, j, none⟩ = some (.int .i64 l[j])) := (show ∀ _, _ from fun j hj => ownsN_at ho j hj)
  clear ho hris
  go_enter Try.func47, Try.ntmps47
  go_wp2
  go_loopw [5] (fun i wr => ∃ k : Nat, k ≤ l.length ∧ i = .int .i64 k ∧ Hid (∀ j (hj : j < l.length), j < k → l[j] < z) ∧ w = wr) (fun i _ => l.length - (intOf i).toNat)
  case atStart => exact ⟨0, Nat.zero_le _, rfl, (show ∀ _, _ from fun j hj h => by omega), rfl⟩
  case round =>
    obtain ⟨k, hk, rfl, hlt, rfl⟩ := hrel
    obtain ⟨B1, HBt, HBf⟩ : ∃ B : Bool, Hid (B = true → ∃ h : k < l.length, l[k] < z) ∧ Hid (B = false → ∀ h : k < l.length, ¬ l[k] < z) := by
      by_cases h : ∃ h : k < l.length, l[k] < z
      · exact ⟨true, (show Hid _ from fun _ => h), (show Hid _ from fun e => by cases e)⟩
      · exact ⟨false, (show Hid _ from fun e => by cases e), (show Hid _ from fun _ hj hle => h ⟨hj, hle⟩)⟩
    go_upto_region 2 with fail
    go_cut [18] from 7 to 18 (fun s wx => s = .bool B1 ∧ w = wx)
    case first =>
      by_cases hlk : k < l.length
      · have hki : (k : Int) < (l.length : Int) := by omega
        have c1 := hcl.out k hlk
        have hB : B1 = decide (l[k] < z) := by
          cases B1 with
          | true => obtain ⟨_, h⟩ := HBt.out rfl; exact (decide_eq_true h).symm
          | false => exact (decide_eq_false (HBf.out rfl hlk)).symm
        generalize l[k] = y at c1 hB
        subst hB
        go_wp2_with fail
        go_meet
        exact ⟨rfl, rfl⟩
      · have hki : ¬ (k : Int) < (l.length : Int) := by omega
        have hB : B1 = false := by
          cases B1 with
          | true => obtain ⟨h, _⟩ := HBt.out rfl; exact absurd h hlk
          | false => rfl
        subst hB
        go_wp2_with fail
        go_meet
        exact ⟨rfl, rfl⟩
    case rest =>
      obtain ⟨rfl, rfl⟩ := hcut
      cases B1 with
      | true =>
        obtain ⟨hlk, hlz⟩ := HBt.out rfl
        have HG : Hid (∀ j (hj : j < l.length), j < k + 1 → l[j] < z) := (show ∀ _, _ from fun j hj h => by
          by_cases e : j = k
          · subst e; exact hlz
          · exact hlt.out j hj (by omega))
        clear hlz
        go_wp2
        go_roundw
        case rel => exact ⟨k + 1, by omega, by go_num, HG, trivial⟩
        case measure => simp [intOf]; omega
      | false =>
        have HGe : Hid (∀ h : k < l.length, z ≤ l[k]) := (show ∀ _, _ from fun h => Int.not_lt.1 (HBf.out rfl h))
        clear HBt HBf
        obtain ⟨B2, HCt, HCf⟩ : ∃ B : Bool, Hid (B = true → ∃ h : k < l.length, l[k] = z) ∧ Hid (B = false → ∀ h : k < l.length, ¬ l[k] = z) := by
          by_cases h : ∃ h : k < l.length, l[k] = z
          · exact ⟨true, (show Hid _ from fun _ => h), (show Hid _ from fun e => by cases e)⟩
          · exact ⟨false, (show Hid _ from fun e => by cases e), (show Hid _ from fun _ hj hle => h ⟨hj, hle⟩)⟩
        go_upto_region 4 with fail
        go_cut [32] from 21 to 32 (fun s wx => s = .bool B2 ∧ w = wx)
        case first =>
          by_cases hlk : k < l.length
          · have hki : (k : Int) < (l.length : Int) := by omega
            have c1 := hcl.out k hlk
            have hB : B2 = (l[k] == z) := by
              cases B2 with
              | true => obtain ⟨_, h⟩ := HCt.out rfl; rw [h]; simp
              | false => have := HCf.out rfl hlk; simp [this]
            generalize l[k] = y at c1 hB
            subst hB
            go_wp2_with fail
            go_meet
            exact ⟨rfl, rfl⟩
          · have hki : ¬ (k : Int) < (l.length : Int) := by omega
            have hB : B2 = false := by
              cases B2 with
              | true => obtain ⟨h, _⟩ := HCt.out rfl; exact absurd h hlk
              | false => rfl
            subst hB
            go_wp2_with fail
            go_meet
            exact ⟨rfl, rfl⟩
        case rest =>
          obtain ⟨rfl, rfl⟩ := hcut
          cases B2 with
          | true =>
            obtain ⟨hlk, hlz⟩ := HCt.out rfl
            have HE : Hid (put z l = l) := put_there HR.out (by rw [← hlz]; exact List.getElem_mem hlk)
            clear hlz
            go_wp2
            go_ret
            exact ⟨g, cap, by rw [HE.out]; rfl, by rw [HE.out]; exact HO.out, Below.refl _ _⟩
          | false =>
            have HE : Hid (put z l = l.take k ++ [z] ++ l.drop k) := by
              show _ = _
              rw [put_at z l k hk (fun j hj h => hlt.out j hj h) (fun h => by have h1 := HGe.out h; have h2 := HCf.out rfl h; omega)]
              simp
            obtain ⟨A, hA, hAn⟩ := cutN HO.out rfl (k := k) hk
            have hAH : Hid _ := hAn
            have hm : (l.drop k).length = l.length - k := List.length_drop
            have ht : (l.take k).length = k := by rw [List.length_take]; omega
            have hki : (k : Int) ≤ (l.length : Int) := by omega
            have hkc : (k : Int) ≤ (cap : Int) := by omega
            clear hAn HCt HCf HGe hlt
            go_wp2_with (at_builtin; refine wpList_rowE (E := intE) _ rfl (.tmp 34) (.tmp 37) 24 2 (.int .i64 0) 8 Try.underlying24 Try.infoN2 rfl rfl w.heap.size (.slice (some ⟨w.heap.size, 0, Option.none⟩) 0 0) [] rfl (OwnsE.born w) ⟨g, 0, none⟩ cap (l.take k) (by simp [Act.eval, ht]) (World.ownsRow.cells ((OwnsE.alloc HO.out _).less rfl k hk) (g := g) rfl) (by rw [ht]; simp only [List.length_nil]; unfold maxLen; omega) (by rw [ht]; simp only [List.length_nil]; omega) (by simp) ?_; intro v7 w7 ho7 hg7 hn7)
            rw [List.nil_append] at ho7
            have B7 : Hid (Below w.heap.size w w7) := (show Hid _ from belowE ((Below.refl _ w).alloc (Nat.le_refl _) _) hg7 (by simp) (fun q hq => by simp [Value.ownBlock] at hq; omega))
            have O7 : Hid (OwnsN w7 w.heap.size v7 (l.take k)) := ho7
            obtain ⟨a7, c7, hv7, _⟩ := ho7.form
            subst hv7
            rw [ht] at O7 ⊢
            have hb7 := B7.out.block g hg
            have hz7 := B7.out.size
            have F7 : Hid (∀ q, (Value.slice a7 k c7).ownBlock = some q → w.heap.size ≤ q) := (show ∀ _, _ from fun q hq => O7.out.from q hq)
            have HB7 : Hid (w7.heap[g]? = w.heap[g]?) := hb7
            have hg7' : g < w7.heap.size := by omega
            clear hg7 hn7 ho7 hb7
            go_wp2_with fail
            go_region_law (first
              | (refine step_rowE (E := intE) rfl (.tmp 39) (.tmp 41) 24 2 (.int .i64 0) 8 Try.underlying24 Try.infoN2 rfl rfl w.heap.size (.slice a7 k c7) (l.take k) (by simp [Act.eval]) (OwnsE.alloc (by exact O7.out) _) ⟨w7.heap.size, 0, none⟩ 1 [z] (by simp [Act.eval]) (fresh_cell _ z #[.int .i64 z] 2 rfl) (by rw [ht]; unfold maxLen; simp; omega) (by rw [ht]; simp; omega) (by simp; omega) ?_; intro v8 w8 ho8 hg8 hn8)
              | (refine step_rowE (E := intE) rfl (.tmp 42) (.tmp 45) 24 2 (.int .i64 0) 8 Try.underlying24 Try.infoN2 rfl rfl w.heap.size v8 (l.take k ++ [z]) (by simp [Act.eval]) ho8 A (cap - k) (l.drop k) (by simp [Act.eval, hm]) (hAH.out _ (by rw [hg8.block g (by simp; omega) (fun e => by have := F7.out g e.symm; omega)]; exact (Below.heap_alloc w7 _ g hg7').trans HB7.out)) (by rw [List.length_append, ht, hm]; unfold maxLen; simp; omega) (by rw [List.length_append, ht, hm]; simp; omega) (by have := hg8.size; simp at this; omega) ?_; intro v9 w9 ho9 hg9 hn9))
            all_goals
              have hl9 : (l.take k ++ [z] ++ l.drop k).length = l.length + 1 := by rw [List.length_append, List.length_append, ht, hm]; simp; omega
              obtain ⟨g9, c9, rfl⟩ : ∃ g9 c9, v9 = .slice (some ⟨g9, 0, none⟩) (l.length + 1) c9 := by
                obtain ⟨a9, c9, e9, _⟩ := ho9.form
                subst e9
                obtain ⟨g9, e⟩ := ownsN_some ho9 (by omega)
                exact ⟨g9, c9, by rw [e, hl9]⟩
              have HO9 : Hid (OwnsN w9 B (.slice (some ⟨g9, 0, none⟩) (l.length + 1) c9) (l.take k ++ [z] ++ l.drop k)) := (show Hid _ from ho9.low hBw)
              have HB9 : Hid (Below w.heap.size w w9) := by
                have e1 : Below w.heap.size w w8 := belowE (B7.out.trans (belDrewK ((Below.refl _ w7).alloc (by omega) _))) hg8 (by simp; omega) (fun q hq => F7.out q hq)
                exact (show Hid _ from belowE e1 hg9 e1.size (OwnsE.from ho8))
              clear ho8 hg8 hn8 ho9 hg9 hn9 O7 B7
              go_wp2
              go_ret
              exact ⟨g9, c9, by rw [HE.out, hl9]; rfl, by rw [HE.out, hl9]; exact HO9.out, HB9.out⟩
end Go.Proofs.Ytdoolnaekmffbaa

/-
  The contracts of the draw of items, and of the comparison of texts.
-/
import Derived.Test.YtcibdipdnmlhhaaDoorDraw3
import Derived.Test.YtcibdipdnmlhhaaDoorQuo
import Derived.Test.YtcibdipdnmlhhaaDoorItl
namespace Go.Proofs.YtcibdipdnmlhhaaDoor
open Go.RowKit

theorem quoA_size (s : ByteArray) : (quoA s).size ≤ 2 * s.size + 2 := by
  unfold quoA
  split
  · have h := quoL_length s.data.toList
    have h2 : s.data.toList.length = s.size := by simp
    have h3 : (quoS s).size = (34 :: quoL s.data.toList ++ [34]).length := by show (34 :: quoL s.data.toList ++ [34]).toArray.size = _; simp
    rw [h3]
    simp only [List.length_append, List.length_cons, List.length_nil]
    omega
  · show 0 ≤ _; omega
theorem size_add (a b : ByteArray) (n m : Nat) (ha : a.size ≤ n) (hb : b.size ≤ m) : (a ++ b).size ≤ n + m := by
  rw [ByteArray.size_append]; omega

set_option maxHeartbeats 1000000 in
theorem drawItems (sa : Option Addr) (sl sc : Nat) (w : World) (hc : Code8 w w.heap.size sa sl) (hl : sl ≤ 4096) :
    Calls Tryd.prog 9 #[.slice sa sl sc] w fun e w' => ∃ t : ByteArray, e = .returned (.string t) ∧ t.size ≤ 1000 ∧ Below w.heap.size w w' := by
  go_enter Tryd.func9, Tryd.ntmps9
  go_wp2_with fail
  refine (l1New sa sl sc _ hc hl).mono ?_
  rintro e w1 ⟨rfl, hc1, hb1⟩
  go_wp2_with fail
  refine (l1Below _ sa sl sc _ (by decide) (by decide) _ hc1).mono ?_
  rintro e w2 ⟨x, rfl, hx0, hx1, hc2, hb2⟩
  obtain ⟨x, rfl⟩ := Int.eq_ofNat_of_zero_le hx0
  have hb3 : Below w.heap.size w w2 := hb1.trans (hb2.low (Nat.le_refl _) hb1.size)
  clear hb2 hb1 hc1 hc
  go_wp2_with fail
  go_loopw [4, 5] (fun s n wr => ∃ (k : Nat) (t : ByteArray), n = .int .i64 k ∧ s = .string t ∧ t.size + 11 * k ≤ 55 ∧ Cur wr w.heap.size sa sl sc ∧ Below w.heap.size w wr) (fun _ n _ => (intOf n).toNat)
  case atStart => exact ⟨x, _, rfl, rfl, by show 0 + 11 * x ≤ 55; omega, hc2, hb3⟩
  case round =>
    clear hc2 hb3
    obtain ⟨k, t, rfl, rfl, hk, hc, hb⟩ := hrel
    by_cases hk0 : 0 < k
    · go_wp2_with fail
      refine (l1Once _ sa sl sc _ (by decide) (by decide) _ hc).mono ?_
      rintro e w3 ⟨b, rfl, hc3, hb3'⟩
      have hb3 : Below w.heap.size w w3 := hb.trans (hb3'.low (Nat.le_refl _) hb.size)
      clear hb3' hb hc
      cases b with
      | true =>
        go_wp2_with fail
        refine (l1DrawText _ sa sl sc _ 4 (by decide) (by decide) (by decide) _ hc3).mono ?_
        rintro e w4 ⟨u, rfl, hu, hc4, hb4'⟩
        have hb4 : Below w.heap.size w w4 := hb3.trans (hb4'.low (Nat.le_refl _) hb3.size)
        clear hb4' hb3 hc3
        go_wp2_with fail
        refine (specQuoted u _ (by unfold maxLen; omega)).mono ?_
        rintro e w5 ⟨rfl, hb5'⟩
        have hz4 : w.heap.size < w4.heap.size := hc4.2.2.1
        have hc5 := hc4.kept hb5' hz4
        have hb5 : Below w.heap.size w w5 := hb4.trans (hb5'.mono hb4.size)
        have hq := quoA_size u
        have hT : Hid ((t ++ quoA u).size ≤ t.size + 10) := size_add t (quoA u) t.size 10 (Nat.le_refl _) (by omega)
        clear hb5' hb4 hc4
        go_wp2_with fail
        refine (l1Once _ sa sl sc _ (by decide) (by decide) _ hc5).mono ?_
        rintro e w6 ⟨b, rfl, hc6, hb6'⟩
        have hb6 : Below w.heap.size w w6 := hb5.trans (hb6'.low (Nat.le_refl _) hb5.size)
        clear hb6' hb5 hc5
        cases b with
        | true =>
          go_wp2
          go_roundw
          case rel =>
            have := hT.out
            exact ⟨k - 1, _, by go_num, rfl, by omega, hc6, hb6⟩
          case measure => simp [intOf]; omega
        | false =>
          go_wp2
          go_roundw
          case rel =>
            have := size_add _ ⟨#[44]⟩ _ 1 hT.out (by decide)
            exact ⟨k - 1, _, by go_num, rfl, by omega, hc6, hb6⟩
          case measure => simp [intOf]; omega
      | false =>
        go_wp2_with fail
        refine (l1DrawText _ sa sl sc _ 4 (by decide) (by decide) (by decide) _ hc3).mono ?_
        rintro e w4 ⟨u, rfl, hu, hc4, hb4'⟩
        have hb4 : Below w.heap.size w w4 := hb3.trans (hb4'.low (Nat.le_refl _) hb3.size)
        have hT : Hid ((t ++ u).size ≤ t.size + 10) := size_add t u t.size 10 (Nat.le_refl _) (by omega)
        clear hb4' hb3 hc3
        go_wp2_with fail
        refine (l1Once _ sa sl sc _ (by decide) (by decide) _ hc4).mono ?_
        rintro e w6 ⟨b, rfl, hc6, hb6'⟩
        have hb6 : Below w.heap.size w w6 := hb4.trans (hb6'.low (Nat.le_refl _) hb4.size)
        clear hb6' hb4 hc4
        cases b with
        | true =>
          go_wp2
          go_roundw
          case rel =>
            have := hT.out
            exact ⟨k - 1, _, by go_num, rfl, by omega, hc6, hb6⟩
          case measure => simp [intOf]; omega
        | false =>
          go_wp2
          go_roundw
          case rel =>
            have := size_add _ ⟨#[44]⟩ _ 1 hT.out (by decide)
            exact ⟨k - 1, _, by go_num, rfl, by omega, hc6, hb6⟩
          case measure => simp [intOf]; omega
    · obtain rfl : k = 0 := by omega
      go_wp2
      go_ret
      exact ⟨t, rfl, by omega, hb⟩

theorem likeS (va vb : Value) (la lb : List ByteArray) (Ba Bb : Nat) (w : World) (ha : OwnsS w Ba va la) (hb : OwnsS w Bb vb lb) (hl : la.length ≤ 1048576) (heq : la = lb) :
    Calls Tryd.prog 11 #[va, vb] w fun e w' => e = .returned (.bool true) ∧ ∃ n, w' = w.drewN n := by
  subst heq
  have ha' := ha
  have hb' := hb
  obtain ⟨⟨ga, ca, rfl, _, _⟩, _⟩ := ha
  obtain ⟨⟨gb, cb, rfl, _, _⟩, _⟩ := hb
  have ca1 := ha'.at rfl
  have cb1 := hb'.at rfl
  clear ha' hb'
  have HA : Hid (∀ j (hj : j < la.length), w.cell? ⟨ga, j, none⟩ = some (.string la[j])) := ca1
  have HB : Hid (∀ j (hj : j < la.length), w.cell? ⟨gb, j, none⟩ = some (.string la[j])) := cb1
  clear ca1 cb1
  go_enter Tryd.func11, Tryd.ntmps11
  go_wp2
  go_loopw [5] (fun i wr => ∃ (k q : Nat), k ≤ la.length ∧ i = .int .i64 k ∧ wr = w.drewN q) (fun i _ => la.length - (intOf i).toNat)
  case atStart => exact ⟨0, 0, Nat.zero_le _, rfl, rfl⟩
  case round =>
    obtain ⟨k, q, hk, rfl, rfl⟩ := hrel
    by_cases hlt : k < la.length
    · have c1 := HA.out k hlt
      have c2 := HB.out k hlt
      go_wp2
      go_quiet (fail)
      go_wp2
      go_roundw
      case rel => exact ⟨k + 1, q + nq, by omega, by go_num, rfl⟩
      case measure => simp [intOf]; omega
    · go_wp2
      go_ret
      exact ⟨rfl, q, rfl⟩
end Go.Proofs.YtcibdipdnmlhhaaDoor

/-
  Drawn control and texts of it: whatever the code, some control, two of them, a short text.
-/
import Derived.Test.YtccnkmffadmfhaaGreatDoorCtlL
import Derived.Test.YtccnkmffadmfhaaGreatDoorCtlG
import Derived.Test.YtccnkmffadmfhaaGreatDoorCtlR
import Derived.Test.YtccnkmffadmfhaaGreatDoorBend
namespace Go.Proofs.YtccnkmffadmfhaaGreatDoor
open Go.RowKit Go.Sort
set_option linter.unusedVariables false
set_option linter.unusedSimpArgs false

def isT9 (n : Nat) (v : Value) : Bool := match v with | .string s => decide (s.size ≤ n) | _ => false
theorem isT9_out {n : Nat} {v : Value} (h : isT9 n v = true) : ∃ s : ByteArray, v = .string s ∧ s.size ≤ n := by
  unfold isT9 at h
  split at h
  · exact ⟨_, rfl, of_decide_eq_true h⟩
  · cases h
theorem tabT9 {b : Nat} {w w' : World} {C : Array Value} {t : TypeId} (n : Nat) (hb : Beside b (w.alloc (.cells C t)) w') (hne : w.heap.size ≠ b) (y : Nat) (hy : y < C.size) (hall : C.toList.all (isT9 n) = true) : ∃ s : ByteArray, w'.cell? ⟨w.heap.size, y, Option.none⟩ = some (.string s) ∧ s.size ≤ n := by
  have hm : C[y] ∈ C.toList := by simp
  obtain ⟨s, hz, hs⟩ := isT9_out (List.all_eq_true.1 hall _ hm)
  refine ⟨s, besideCell hb hne ?_, hs⟩
  rw [World.cell?_alloc_mark, Array.getElem?_eq_getElem hy, hz]
set_option maxRecDepth 100000 in
set_option maxHeartbeats 4000000 in
theorem l9DrawText (b : Nat) (sa : Option Addr) (sl sc : Nat) (w : World) (hc : Cur w b sa sl sc) :
    Calls Tryz.prog 21 #[.pointer (some ⟨b, 0, Option.none⟩)] w fun e w' => (∃ s : ByteArray, e = .returned (.string s) ∧ s.size ≤ 84) ∧ Cur w' b sa sl sc ∧ Beside b w w' := by
  have hbz : b < w.heap.size := hc.2.2.1
  go_enter Tryz.func21, Tryz.ntmps21
  go_wp2_with fail
  refine (l1Below b sa sl sc 5 (by decide) (by decide) _ hc).mono ?_
  rintro e w1 ⟨x, rfl, hx0, hx1, hc1, hb1⟩
  obtain ⟨x, rfl⟩ := Int.eq_ofNat_of_zero_le hx0
  have C1 : Hid (Cur w1 b sa sl sc) := hc1
  have B1 : Hid (Beside b w w1) := hb1
  clear hb1 hc hc1
  go_wp2_with fail
  go_loopw [3, 4] (fun u n wr => ∃ (k : Nat) (s : ByteArray), n = .int .i64 k ∧ u = .string s ∧ s.size + 21 * k ≤ 84 ∧ Hid (Cur wr b sa sl sc) ∧ Hid (Beside b w wr)) (fun _ n _ => (intOf n).toNat)
  case atStart => exact ⟨x, ⟨#[]⟩, rfl, rfl, by show 0 + _ ≤ _; omega, C1, B1⟩
  case round =>
    clear C1 B1
    obtain ⟨k, s, rfl, rfl, hz, hc, hb⟩ := hrel
    by_cases hk : 0 < k
    · have hbr : b < wr.heap.size := hc.out.2.2.1
      go_wp2_with fail
      refine (l1Below b sa sl sc 13 (by decide) (by decide) _ (hc.out.more9 _)).mono ?_
      rintro e w2 ⟨y, rfl, hy0, hy1, hc2, hb2⟩
      obtain ⟨y, rfl⟩ := Int.eq_ofNat_of_zero_le hy0
      obtain ⟨t, ht, htz⟩ := tabT9 19 hb2 (by omega) y (by simp; omega) (by decide)
      have C2 : Hid (Cur w2 b sa sl sc) := hc2
      have B2 : Hid (Beside b w w2) := (hb.out.more9 _).trans hb2
      have y1 : (s ++ t).size = s.size + t.size := ByteArray.size_append
      have y2 : (s ++ t ++ (⟨#[44, 32]⟩ : ByteArray)).size = s.size + t.size + 2 := by rw [ByteArray.size_append, y1]; rfl
      clear hb2 hc2 hc hb
      go_wp2
      go_roundw
      case rel => exact ⟨k - 1, _, by go_num, rfl, by rw [y2]; omega, C2, B2⟩
      case measure => simp [intOf]; omega
    · go_wp2
      go_ret
      exact ⟨⟨s, rfl, by omega⟩, hc.out, hb.out⟩
/-- The cursor's birth behind one block, and behind two. -/
theorem born9 (o : Obj) (sa : Option Addr) (sl sc : Nat) (w : World) (hc : Code8 w w.heap.size sa sl) (hl : sl ≤ 4096) :
    Calls Tryz.prog 20 #[.slice sa sl sc] (w.alloc o) fun e w' => e = .returned (.pointer (some ⟨w.heap.size + 1, 0, Option.none⟩)) ∧ Cur w' (w.heap.size + 1) sa sl sc ∧ Below (w.heap.size + 1) (w.alloc o) w' := by
  have b0 : Below w.heap.size w (w.alloc o) := (Below.refl _ w).alloc (Nat.le_refl _) _
  have h1 : Code8 (w.alloc o) (w.alloc o).heap.size sa sl := fun j hj => by
    obtain ⟨g, q, z, h1, h2, h3⟩ := (hc.kept b0 (Nat.le_refl _)) j hj
    exact ⟨g, q, z, h1, Nat.lt_of_lt_of_le h2 b0.size, h3⟩
  have := l1New sa sl sc (w.alloc o) h1 hl
  simp only [World.size_alloc] at this
  exact this
theorem born9b (o o2 : Obj) (sa : Option Addr) (sl sc : Nat) (w : World) (hc : Code8 w w.heap.size sa sl) (hl : sl ≤ 4096) :
    Calls Tryz.prog 20 #[.slice sa sl sc] ((w.alloc o).alloc o2) fun e w' => e = .returned (.pointer (some ⟨w.heap.size + 1 + 1, 0, Option.none⟩)) ∧ Cur w' (w.heap.size + 1 + 1) sa sl sc ∧ Below (w.heap.size + 1 + 1) ((w.alloc o).alloc o2) w' := by
  have b0 : Below w.heap.size w (w.alloc o) := (Below.refl _ w).alloc (Nat.le_refl _) _
  have h1 : Code8 (w.alloc o) (w.alloc o).heap.size sa sl := fun j hj => by
    obtain ⟨g, q, z, h1, h2, h3⟩ := (hc.kept b0 (Nat.le_refl _)) j hj
    exact ⟨g, q, z, h1, Nat.lt_of_lt_of_le h2 b0.size, h3⟩
  have := born9 o2 sa sl sc (w.alloc o) h1 hl
  simp only [World.size_alloc] at this
  exact this
theorem drawRdC (sa : Option Addr) (sl sc : Nat) (w : World) (hc : Code8 w w.heap.size sa sl) (hl : sl ≤ 4096) :
    Calls Tryz.prog 7 #[.slice sa sl sc] w fun e w' => (∃ s : ByteArray, e = .returned (.string s) ∧ s.size ≤ 302) ∧ Below w.heap.size w w' := by
  have hN := l1New sa sl sc w hc hl
  clear hc
  go_enter Tryz.func7, Tryz.ntmps7
  go_wp2_with fail
  refine hN.mono ?_
  rintro e w1 ⟨rfl, hc1, hb1⟩
  have C1 : Hid (Cur w1 w.heap.size sa sl sc) := hc1
  have B1 : Hid (Below w.heap.size w w1) := hb1
  have z1 : w.heap.size < w1.heap.size := hc1.2.2.1
  clear hN hc1 hb1
  go_wp2_with fail
  refine (l9DrawText w.heap.size sa sl sc _ C1.out).mono ?_
  rintro e w2 ⟨⟨s, rfl, hs⟩, c2, b2⟩
  have C2 : Hid (Cur w2 w.heap.size sa sl sc) := c2
  have T2 : Hid (Beside w.heap.size w1 w2) := b2
  clear c2 b2 C1
  go_wp2_with fail
  refine (l1Once w.heap.size sa sl sc 3 (by decide) (by decide) _ C2.out).mono ?_
  rintro e w3 ⟨t1, rfl, c3, b3⟩
  have C3 : Hid (Cur w3 w.heap.size sa sl sc) := c3
  have T3 : Hid (Beside w.heap.size w1 w3) := T2.out.trans b3
  clear c3 b3 C2 T2
  cases t1 with
  | false =>
    have hs3 : s.size ≤ 300 := by omega
    go_wp2_with fail
    refine (l1Once w.heap.size sa sl sc 4 (by decide) (by decide) _ C3.out).mono ?_
    rintro e w4 ⟨t2, rfl, c4, b4⟩
    have C4 : Hid (Cur w4 w.heap.size sa sl sc) := c4
    have T4 : Hid (Beside w.heap.size w1 w4) := T3.out.trans b4
    clear c4 b4 C3 T3
    cases t2 with
    | false =>
      go_wp2
      go_ret
      exact ⟨⟨s, rfl, by omega⟩, B1.out.trans (T4.out.low (Nat.le_refl _) (Nat.le_of_lt z1))⟩
    | true =>
      go_wp2_with fail
      refine (l1Bend w.heap.size sa sl sc s ⟨#[97, 45, 44, 61, 57, 10]⟩ (by omega) (by decide) (by decide) _ C4.out).mono ?_
      rintro e w5 ⟨t, rfl, ht, c5, b5⟩
      have T5 : Hid (Beside w.heap.size w1 w5) := T4.out.trans b5
      clear c5 b5 C4 T4
      go_wp2
      go_ret
      exact ⟨⟨t, rfl, by omega⟩, B1.out.trans (T5.out.low (Nat.le_refl _) (Nat.le_of_lt z1))⟩
  | true =>
    go_wp2_with fail
    refine (l9Draw w.heap.size sa sl sc _ C3.out).mono ?_
    rintro e wa ⟨⟨x, rfl⟩, ca, ba⟩
    have CA : Hid (Cur wa w.heap.size sa sl sc) := ca
    have TA : Hid (Beside w.heap.size w1 wa) := T3.out.trans ba
    clear ca ba C3 T3
    go_wp2_with fail
    refine (specShC x wa).mono ?_
    rintro e wb ⟨rfl, hbb⟩
    have za : w.heap.size < wa.heap.size := CA.out.2.2.1
    have CB : Hid (Cur wb w.heap.size sa sl sc) := CA.out.kept hbb za
    have TB : Hid (Beside w.heap.size w1 wb) := TA.out.below hbb
    have hs3 : (shC x).size ≤ 300 := shC_size x
    generalize shC x = s at hs3
    clear hbb CA TA
    go_wp2_with fail
    refine (l1Once w.heap.size sa sl sc 4 (by decide) (by decide) _ CB.out).mono ?_
    rintro e w4 ⟨t2, rfl, c4, b4⟩
    have C4 : Hid (Cur w4 w.heap.size sa sl sc) := c4
    have T4 : Hid (Beside w.heap.size w1 w4) := TB.out.trans b4
    clear c4 b4 CB TB
    cases t2 with
    | false =>
      go_wp2
      go_ret
      exact ⟨⟨s, rfl, by omega⟩, B1.out.trans (T4.out.low (Nat.le_refl _) (Nat.le_of_lt z1))⟩
    | true =>
      go_wp2_with fail
      refine (l1Bend w.heap.size sa sl sc s ⟨#[97, 45, 44, 61, 57, 10]⟩ (by omega) (by decide) (by decide) _ C4.out).mono ?_
      rintro e w5 ⟨t, rfl, ht, c5, b5⟩
      have T5 : Hid (Beside w.heap.size w1 w5) := T4.out.trans b5
      clear c5 b5 C4 T4
      go_wp2
      go_ret
      exact ⟨⟨t, rfl, by omega⟩, B1.out.trans (T5.out.low (Nat.le_refl _) (Nat.le_of_lt z1))⟩
end Go.Proofs.YtccnkmffadmfhaaGreatDoor

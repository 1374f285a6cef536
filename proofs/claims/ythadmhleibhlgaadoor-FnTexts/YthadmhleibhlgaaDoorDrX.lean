/-
  The drawing functions of small texts: whatever the code, they answer some text, and it is not long.
-/
import Derived.Test.YthadmhleibhlgaaDoorBend
import Derived.Test.YthadmhleibhlgaaDoorQuo
namespace Go.Proofs.YthadmhleibhlgaaDoor
open Go.RowKit

theorem Code8.up {w : World} {b b' : Nat} {sa : Option Addr} {sl : Nat} (h : Code8 w b sa sl) (hb : b ≤ b') : Code8 w b' sa sl := by
  intro j hj
  obtain ⟨g, o, z, h1, h2, h3⟩ := h j hj
  exact ⟨g, o, z, h1, by omega, h3⟩
theorem Code8.on {w w' : World} {sa : Option Addr} {sl : Nat} (h : Code8 w w.heap.size sa sl) (hb : Below w.heap.size w w') : Code8 w' w'.heap.size sa sl := (h.kept hb (Nat.le_refl _)).up hb.size
/-- What make([]byte, n) lays. -/
theorem make_owns (w : World) (n : Nat) (hn : n ≤ 1000) : ∃ w', (Instr.makeSlice 22 (.int .i64 (n : Int)) (.int .i64 (n : Int))).run Tryd.prog w = .ok (.slice (some ⟨w.heap.size, 0, none⟩) n n) w' ∧ Below w.heap.size w w' ∧ ∃ l : List UInt8, l.length = n ∧ OwnsB w' w.heap.size (.slice (some ⟨w.heap.size, 0, none⟩) n n) l := by
  obtain ⟨i0, hi, hz0, hz1, hz2⟩ := info_parts Tryd.info5
  obtain ⟨w', h1, h2, h3⟩ := run_makeSlice_full (P := Tryd.prog) w w.heap.size 22 5 i0 (.int .u8 0) 1 Tryd.underlying22 hi hz0 hz1 .i64 .i64 n (by omega) (by rw [hz2]; omega) (by unfold maxLen; omega) (Nat.le_refl _)
  have hl : (madeCells (Value.int IntKind.u8 0).cells (n * 1)).toList = bytesV (List.replicate n 0) := by
    have e := toList_madeCells_one (.int .u8 0) (n * 1)
    rw [show (Value.int IntKind.u8 0).cells = #[.int .u8 0] from rfl, e, Nat.mul_one]
    unfold bytesV
    rw [List.map_replicate]
    rfl
  rw [hl] at h2
  refine ⟨w', h1, ⟨h3.os, h3.tape, h3.output, h3.size, fun k hk => h3.block k hk (by simp)⟩, List.replicate n 0, by simp, ?_⟩
  unfold OwnsB
  rw [List.length_replicate]
  exact h2

theorem drawLower (sa : Option Addr) (sl sc : Nat) (w : World) (hc : Code8 w w.heap.size sa sl) (hl : sl ≤ 4096) :
    Calls Tryd.prog 24 #[.slice sa sl sc] w fun e w' => ∃ t : ByteArray, e = .returned (.string t) ∧ t.size ≤ 1000 ∧ Below w.heap.size w w' := by
  go_enter Tryd.func24, Tryd.ntmps24
  go_wp2_with fail
  refine (l1New sa sl sc _ hc hl).mono ?_
  rintro e w1 ⟨rfl, hc1, hb1⟩
  go_wp2_with fail
  refine (l1DrawText _ sa sl sc _ 9 (by decide) (by decide) (by decide) _ hc1).mono ?_
  rintro e w3 ⟨t, rfl, ht, hc3, hb3⟩
  go_wp2
  go_ret
  exact ⟨t, rfl, by omega, hb1.trans (hb3.low (Nat.le_refl _) hb1.size)⟩
theorem drawTrimmed (sa : Option Addr) (sl sc : Nat) (w : World) (hc : Code8 w w.heap.size sa sl) (hl : sl ≤ 4096) :
    Calls Tryd.prog 22 #[.slice sa sl sc] w fun e w' => ∃ t : ByteArray, e = .returned (.string t) ∧ t.size ≤ 1000 ∧ Below w.heap.size w w' := by
  go_enter Tryd.func22, Tryd.ntmps22
  go_wp2_with fail
  refine (l1New sa sl sc _ hc hl).mono ?_
  rintro e w1 ⟨rfl, hc1, hb1⟩
  go_wp2_with fail
  refine (l1DrawText _ sa sl sc _ 7 (by decide) (by decide) (by decide) _ hc1).mono ?_
  rintro e w3 ⟨t, rfl, ht, hc3, hb3⟩
  go_wp2
  go_ret
  exact ⟨t, rfl, by omega, hb1.trans (hb3.low (Nat.le_refl _) hb1.size)⟩

set_option maxRecDepth 100000 in
set_option maxHeartbeats 1000000 in
theorem drawVisible (sa : Option Addr) (sl sc : Nat) (w : World) (hc : Code8 w w.heap.size sa sl) (hl : sl ≤ 4096) :
    Calls Tryd.prog 47 #[.slice sa sl sc] w fun e w' => ∃ t : ByteArray, e = .returned (.string t) ∧ t.size ≤ 401 ∧ Below w.heap.size w w' := by
  go_enter Tryd.func47, Tryd.ntmps47
  go_wp2_with fail
  refine (l1New sa sl sc _ hc hl).mono ?_
  rintro e w1 ⟨rfl, hc1, hb1⟩
  go_wp2_with fail
  refine (l1Once _ sa sl sc _ (by decide) (by decide) _ hc1).mono ?_
  rintro e w2 ⟨t, rfl, hc2, hb2⟩
  cases t with
  | true =>
    go_wp2_with fail
    refine (l1Below _ sa sl sc _ (by decide) (by decide) _ hc2).mono ?_
    rintro e w3 ⟨y, rfl, hy0, hy1, hc3, hb3⟩
    obtain ⟨y, rfl⟩ := Int.eq_ofNat_of_zero_le hy0
    obtain ⟨w4, hm, hb4, l0, hll, hown⟩ := make_owns w3 (400 + y) (by omega)
    have hall : Below w.heap.size w w3 := hb1.trans ((hb2.trans hb3).low (Nat.le_refl _) hb1.size)
    have hall4 : Below w.heap.size w w4 := hall.trans (hb4.mono hall.size)
    obtain ⟨m, hmm⟩ : ∃ m : Nat, 400 + y = m := ⟨_, rfl⟩
    have e1 : 200 + 200 + (y : Int) = (m : Int) := by omega
    rw [hmm] at hm hll hown
    have hmi : 400 + (y : Int) = (m : Int) := by omega
    have hm5 : m ≤ 401 := by omega
    have h34 : w.heap.size ≤ w3.heap.size := hall.size
    clear hc1 hb1 hc2 hb2 hc3 hb3 hc hb4 e1 hmm hall
    go_wp2
    go_loopw [5] (fun i wr => ∃ (k : Nat) (l : List UInt8), k ≤ m ∧ i = .int .i64 k ∧ l.length = m ∧ OwnsB wr w3.heap.size (.slice (some ⟨w3.heap.size, 0, none⟩) m m) l ∧ Below w.heap.size w wr) (fun i _ => m - (intOf i).toNat)
    case atStart => exact ⟨0, l0, Nat.zero_le _, rfl, hll, hown, hall4⟩
    case round =>
      clear hown hall4 hll
      obtain ⟨k, l, hk, rfl, hlm, ho, hb⟩ := hrel
      by_cases hlt : k < m
      · obtain ⟨hcc, hff, hgb⟩ := ho.at hlm.symm k (by omega)
        have hput := ho.put hlm.symm k 97
        have hbp : Below w.heap.size w (wr.setCell ⟨w3.heap.size, k, none⟩ (.int .u8 97)) := hb.setCell (show w.heap.size ≤ (⟨w3.heap.size, k, none⟩ : Addr).block from h34) _
        have HP : Hid (OwnsB (wr.setCell ⟨w3.heap.size, k, none⟩ (.int .u8 97)) w3.heap.size (.slice (some ⟨w3.heap.size, 0, none⟩) m m) (l.set k 97)) := hput
        obtain ⟨cz, hcz⟩ : ∃ cz, wr.cell? ⟨w3.heap.size, k, none⟩ = some cz := ⟨_, hcc⟩
        have HL : Hid ((l.set k 97).length = m) := by
          show (l.set k 97).length = m
          rw [List.length_set]; exact hlm
        clear hcc hput hgb ho hm hlm
        go_wp2
        go_roundw
        case rel => exact ⟨k + 1, l.set k 97, by omega, by go_num, HL.out, HP.out, hbp⟩
        case measure => simp [intOf]; omega
      · have hback := ho.text
        clear ho hm
        go_wp2
        go_ret
        exact ⟨_, rfl, by show l.toArray.size ≤ 401; simp; omega, hb⟩
  | false =>
    go_wp2_with fail
    refine (l1DrawText _ sa sl sc _ 12 (by decide) (by decide) (by decide) _ hc2).mono ?_
    rintro e w3 ⟨t, rfl, ht, hc3, hb3⟩
    go_wp2
    go_ret
    exact ⟨t, rfl, by omega, hb1.trans ((hb2.trans hb3).low (Nat.le_refl _) hb1.size)⟩
theorem drawQuoted (sa : Option Addr) (sl sc : Nat) (w : World) (hc : Code8 w w.heap.size sa sl) (hl : sl ≤ 4096) :
    Calls Tryd.prog 11 #[.slice sa sl sc] w fun e w' => ∃ t : ByteArray, e = .returned (.string t) ∧ t.size ≤ 401 ∧ Below w.heap.size w w' := by
  go_enter Tryd.func11, Tryd.ntmps11
  go_wp2_with fail
  refine (drawVisible sa sl sc _ hc hl).mono ?_
  rintro e w1 ⟨t, rfl, htz, hb⟩
  go_wp2
  go_ret
  exact ⟨t, rfl, htz, hb⟩

theorem quoA_size (s : ByteArray) : (quoA s).size ≤ 802 := by
  unfold quoA
  split
  · rename_i h
    have hz := vis_size h
    have h1 := quoL_length s.data.toList
    have h3 : s.data.toList.length = s.size := by simp
    show (34 :: quoL s.data.toList ++ [34]).toArray.size ≤ 802
    simp
    omega
  · show 0 ≤ 802
    omega

set_option maxRecDepth 100000 in
set_option maxHeartbeats 1000000 in
theorem drawUnquoted (sa : Option Addr) (sl sc : Nat) (w : World) (hc : Code8 w w.heap.size sa sl) (hl : sl ≤ 4096) :
    Calls Tryd.prog 20 #[.slice sa sl sc] w fun e w' => ∃ t : ByteArray, e = .returned (.string t) ∧ t.size ≤ 1000 ∧ Below w.heap.size w w' := by
  go_enter Tryd.func20, Tryd.ntmps20
  go_wp2_with fail
  refine (l1New sa sl sc _ hc hl).mono ?_
  rintro e w1 ⟨rfl, hc1, hb1⟩
  have hz1 : w.heap.size < w1.heap.size := hc1.2.2.1
  go_wp2_with fail
  refine (drawVisible sa sl sc _ (hc.on hb1) hl).mono ?_
  rintro e w2 ⟨s, rfl, hsz, hb2⟩
  go_wp2_with fail
  refine (specQuoted s _ (by unfold maxLen; omega)).mono ?_
  rintro e w3 ⟨rfl, hb3⟩
  have hcz := quoA_size s
  generalize quoA s = c at hcz ⊢
  have B2 : Below w1.heap.size w1 w3 := hb2.trans (hb3.mono hb2.size)
  have hc3 := hc1.kept B2 hz1
  have B3 : Below w.heap.size w w3 := hb1.trans (B2.mono hb1.size)
  clear hb1 hb2 hb3 hc1 B2
  go_wp2_with fail
  refine (l1Once _ sa sl sc _ (by decide) (by decide) _ hc3).mono ?_
  rintro e w4 ⟨t, rfl, hc4, hb4⟩
  have B4 : Below w.heap.size w w4 := B3.trans (hb4.low (Nat.le_refl _) B3.size)
  clear hb4 hc3 B3
  cases t with
  | false =>
    go_wp2
    go_ret
    exact ⟨c, rfl, by omega, B4⟩
  | true =>
    go_wp2_with fail
    refine (l1Bend _ sa sl sc c _ (by omega) (by decide) (by decide) _ hc4).mono ?_
    rintro e w5 ⟨t, rfl, htz, hc5, hb5⟩
    have B5 : Below w.heap.size w w5 := B4.trans (hb5.low (Nat.le_refl _) B4.size)
    clear hb5 hc5 hc4 B4
    go_wp2
    go_ret
    exact ⟨t, rfl, by omega, B5⟩

set_option maxRecDepth 100000 in
set_option maxHeartbeats 1000000 in
theorem drawToken (sa : Option Addr) (sl sc : Nat) (w : World) (hc : Code8 w w.heap.size sa sl) (hl : sl ≤ 4096) :
    Calls Tryd.prog 13 #[.slice sa sl sc] w fun e w' => ∃ t : ByteArray, e = .returned (.string t) ∧ t.size ≤ 1000 ∧ Below w.heap.size w w' := by
  go_enter Tryd.func13, Tryd.ntmps13
  go_wp2_with fail
  refine (l1New sa sl sc _ hc hl).mono ?_
  rintro e w1 ⟨rfl, hc1, hb1⟩
  go_wp2_with fail
  refine (l1Once _ sa sl sc _ (by decide) (by decide) _ hc1).mono ?_
  rintro e w2 ⟨t, rfl, hc2, hb2⟩
  have B2 : Below w.heap.size w w2 := hb1.trans (hb2.low (Nat.le_refl _) hb1.size)
  clear hb1 hb2 hc1
  cases t with
  | true =>
    obtain ⟨w4, hm, hb4, l0, hll, hown⟩ := make_owns w2 64 (by decide)
    rw [show ((64 : Nat) : Int) = 64 from rfl] at hm
    have hback := hown.text
    have B4 : Below w.heap.size w w4 := B2.trans (hb4.mono B2.size)
    have hls : (⟨l0.toArray⟩ : ByteArray).size = 64 := by show l0.toArray.size = 64; simp [hll]
    generalize (⟨l0.toArray⟩ : ByteArray) = z at hback hls
    have hzs : z.size ≤ 64 := by omega
    have HS : Hid ((z ++ ⟨#[97]⟩ : ByteArray).size ≤ 1000) := by
      show (z ++ ⟨#[97]⟩ : ByteArray).size ≤ 1000
      rw [ByteArray.size_append]; show z.size + 1 ≤ 1000; omega
    clear hown hb4 hls hc2 hc
    go_wp2
    go_ret
    exact ⟨_, rfl, HS.out, B4⟩
  | false =>
    go_wp2_with fail
    refine (l1Once _ sa sl sc _ (by decide) (by decide) _ hc2).mono ?_
    rintro e w3 ⟨t, rfl, hc3, hb3⟩
    have B3 : Below w.heap.size w w3 := B2.trans (hb3.low (Nat.le_refl _) B2.size)
    clear hb3 hc2 B2
    cases t with
    | true =>
      go_wp2_with fail
      go_loopw [4] (fun v wr => ∃ (s : ByteArray), v = .string s ∧ s.size ≤ 66 ∧ Cur wr w.heap.size sa sl sc ∧ Below w.heap.size w wr) (fun v _ => 66 - (match v with | .string s => s.size | _ => 0))
      case atStart => exact ⟨⟨#[]⟩, rfl, Nat.zero_le _, hc3, B3⟩
      case round =>
        clear hc3 B3
        obtain ⟨s, rfl, hsz, hc4, hb4⟩ := hrel
        go_wp2_with fail
        refine (l1Below _ sa sl sc _ (by decide) (by decide) _ hc4).mono ?_
        rintro e w5 ⟨y, rfl, hy0, hy1, hc5, hb5⟩
        have B5 : Below w.heap.size w w5 := hb4.trans (hb5.low (Nat.le_refl _) hb4.size)
        have hs1 : (s ++ ⟨#[120]⟩ : ByteArray).size = s.size + 1 := by rw [ByteArray.size_append]; rfl
        have HS : Hid ((s ++ ⟨#[120]⟩ : ByteArray).size = s.size + 1) := hs1
        clear hs1 hb5 hb4 hc4
        by_cases hlt : (s.size : Int) < 64 + y
        · go_wp2
          go_roundw
          case rel => exact ⟨_, rfl, by rw [HS.out]; omega, hc5, B5⟩
          case measure =>
            show 66 - (s ++ ⟨#[120]⟩ : ByteArray).size < 66 - s.size
            rw [HS.out]; omega
        · go_wp2
          go_ret
          exact ⟨s, rfl, by omega, B5⟩
    | false =>
      go_wp2_with fail
      refine (l1DrawText _ sa sl sc _ 8 (by decide) (by decide) (by decide) _ hc3).mono ?_
      rintro e w4 ⟨t, rfl, ht, hc4, hb4⟩
      go_wp2
      go_ret
      exact ⟨t, rfl, by omega, B3.trans (hb4.low (Nat.le_refl _) B3.size)⟩
end Go.Proofs.YthadmhleibhlgaaDoor

/-
  The contracts of the drawing functions that lean on one drawn byte: a number below a bound, a chance, a text.
-/
import Derived.Test.YtamfgjgmnnnjpaaDoorDraw
import Derived.Test.YtamfgjgmnnnjpaaDoorOwn2
namespace Go.Proofs.YtamfgjgmnnnjpaaDoor
open Go.RowKit

theorem byte_back {x : Int} (h0 : 0 ≤ x) (h1 : x ≤ 255) : x = ((UInt8.ofNat x.toNat).toNat : Int) := by
  rw [UInt8.toNat_ofNat', Nat.mod_eq_of_lt (by omega)]
  omega


theorem OwnsB.beside {w w' : World} {B b : Nat} {v : Value} {l : List UInt8} (h : OwnsB w B v l) (hb : Beside b w w') (hB : b < B) : OwnsB w' B v l := by
  refine ⟨h.1, ?_⟩
  rcases h.2 with h0 | ⟨g, cap, cur, hv, hbg, hg, rest⟩
  · exact .inl h0
  · exact .inr ⟨g, cap, cur, hv, hbg, by rw [hb.2.2.2.2 g (Array.getElem?_eq_some_iff.1 hg).1 (by omega)]; exact hg, rest⟩
theorem OwnsB.shape {w : World} {B : Nat} {v : Value} {l : List UInt8} (h : OwnsB w B v l) (hl : 0 < l.length) : ∃ g cap, v = .slice (some ⟨g, 0, none⟩) l.length cap := by
  rcases h.2 with ⟨_, h0⟩ | ⟨g, cap, cur, hv, _⟩
  · omega
  · exact ⟨g, cap, hv⟩
theorem Beside.grow {b B : Nat} {w wr w2 : World} (h : Beside b w wr) (hb : Below B wr w2) (hB : w.heap.size ≤ B) : Beside b w w2 :=
  ⟨hb.os.trans h.1, hb.tape.trans h.2.1, hb.output.trans h.2.2.1, Nat.le_trans h.2.2.2.1 hb.size, fun k hk hg => (hb.block k (by omega)).trans (h.2.2.2.2 k hk hg)⟩
/-- A byte stored into an owned row. -/
theorem OwnsB.put {w : World} {B g cap n : Nat} {l : List UInt8} (hn : n = l.length) (h : OwnsB w B (.slice (some ⟨g, 0, none⟩) n cap) l) (k : Nat) (c : UInt8) : OwnsB (w.setCell ⟨g, k, none⟩ (.int .u8 (c.toNat : Int))) B (.slice (some ⟨g, 0, none⟩) n cap) (l.set k c) := by
  subst hn
  have h2 := (World.ownsRow.stored h k (.int .u8 (c.toNat : Int))).1
  unfold OwnsB
  have e : bytesV (l.set k c) = (bytesV l).set k (.int .u8 (c.toNat : Int)) := by unfold bytesV; rw [List.map_set]
  rw [List.length_set, e]
  exact h2
theorem OwnsB.at {w : World} {B g cap n : Nat} {l : List UInt8} (hn : n = l.length) (h : OwnsB w B (.slice (some ⟨g, 0, none⟩) n cap) l) (j : Nat) (hj : j < l.length) : w.cell? ⟨g, j, none⟩ = some (.int .u8 (l[j].toNat : Int)) ∧ w.frozen? ⟨g, j, none⟩ = false ∧ B ≤ g := by
  subst hn
  refine ⟨?_, World.ownsRow.frozenAt h j, (World.ownsRow.lt h g rfl).1⟩
  rw [World.ownsRow.cellAt h j (by omega)]
  simp [bytesV, hj]
set_option maxHeartbeats 1000000 in
theorem l1DrawText (b : Nat) (sa : Option Addr) (sl sc : Nat) (signs : ByteArray) (most : Nat) (hs1 : 1 ≤ signs.size) (hs2 : signs.size ≤ 1000) (hm : most ≤ 1000) (w : World) (hc : Cur w b sa sl sc) :
    Calls Tryd.prog 33 #[.pointer (some ⟨b, 0, none⟩), .string signs, .int .i64 most] w fun e w' => ∃ t : ByteArray, e = .returned (.string t) ∧ t.size ≤ most ∧ Cur w' b sa sl sc ∧ Beside b w w' := by
  have hbz : b < w.heap.size := hc.2.2.1
  have hc0 : Cur (w.alloc (.cells #[] 5)) b sa sl sc := hc.kept ((Below.refl _ w).alloc (Nat.le_refl _) _) hbz
  clear hc
  go_enter Tryd.func33, Tryd.ntmps33
  go_wp2_with fail
  refine (l1Below b sa sl sc _ (by omega) (by omega) _ hc0).mono ?_
  rintro e w1 ⟨x, rfl, hx0, hx1, hc1, hb1⟩
  have ho1 := (OwnsB.empty w).beside hb1 hbz
  have hb2 : Beside b w w1 := ((Beside.refl b w).below ((Below.refl _ w).alloc (Nat.le_refl _) _)).trans hb1
  obtain ⟨x, rfl⟩ := Int.eq_ofNat_of_zero_le hx0
  clear hb1 hc0
  go_wp2_with fail
  go_loopw [7, 8] (fun v n wr => ∃ (k : Nat) (l : List UInt8) (g cap : Nat), n = .int .i64 k ∧ v = .slice (some ⟨g, 0, none⟩) l.length cap ∧ OwnsB wr w.heap.size (.slice (some ⟨g, 0, none⟩) l.length cap) l ∧ Cur wr b sa sl sc ∧ Beside b w wr ∧ l.length + k ≤ most) (fun _ n _ => (intOf n).toNat)
  case atStart => exact ⟨x, [], w.heap.size, 0, rfl, rfl, ho1, hc1, hb2, by simp; omega⟩
  case round =>
    clear ho1 hc1 hb2
    obtain ⟨k, l, g, cap, rfl, rfl, ho, hc, hb, hlk⟩ := hrel
    by_cases hk : 0 < k
    · go_wp2_with fail
      refine (l1Below b sa sl sc _ (by omega) (by omega) _ hc).mono ?_
      rintro e w2 ⟨y, rfl, hy0, hy1, hc2, hb2⟩
      obtain ⟨y, rfl⟩ := Int.eq_ofNat_of_zero_le hy0
      have ho2 := ho.beside hb2 hbz
      have hb3 := hb.trans hb2
      have hz2 : w.heap.size ≤ w2.heap.size := hb3.2.2.2.1
      have hys : y < signs.size := by omega
      clear ho hc hb hb2
      go_wp2_with (at_builtin; refine wpList_push _ rfl (.tmp 18) (.tmp 25) rfl w.heap.size _ _ _ signs[y] rfl rfl ho2 rfl (by omega) hz2 ?_; intro v3 w3 ho3 hg3)
      go_roundw
      case rel =>
        have hbl : Below w.heap.size w2 w3 := (Below.refl _ w2).grown hg3 hz2 (OwnsB.from ho2)
        obtain ⟨g3, cap3, rfl⟩ := ho3.shape (by simp)
        exact ⟨k - 1, _, g3, cap3, by go_num, rfl, ho3, hc2.kept hbl hbz, hb3.grow hbl (Nat.le_refl _), by simp; omega⟩
      case measure => simp [intOf]; omega
    · obtain rfl : k = 0 := by omega
      go_wp2_with fail
      refine (l1Once b sa sl sc _ (by decide) (by decide) _ hc).mono ?_
      rintro e w2 ⟨t, rfl, hc2, hb2⟩
      have ho2 := ho.beside hb2 hbz
      have hb3 := hb.trans hb2
      clear ho hc hb hb2
      cases t with
      | false =>
        have hback := ho2.text
        go_wp2
        go_ret
        exact ⟨_, rfl, by show l.toArray.size ≤ most; simp; omega, hc2, hb3⟩
      | true =>
        by_cases hl : 0 < l.length
        · go_wp2_with fail
          refine (l1Below b sa sl sc _ (by omega) (by omega) _ hc2).mono ?_
          rintro e w4 ⟨y, rfl, hy0, hy1, hc4, hb4⟩
          obtain ⟨y, rfl⟩ := Int.eq_ofNat_of_zero_le hy0
          have ho4 := ho2.beside hb4 hbz
          have hb5 := hb3.trans hb4
          clear ho2 hc2 hb3 hb4
          go_wp2_with fail
          refine (l1Byte b sa sl sc _ hc4).mono ?_
          rintro e w6 ⟨z, rfl, hz0, hz1, hc6, hb6⟩
          have ho6 := ho4.beside hb6 hbz
          have hb7 := hb5.trans hb6
          clear ho4 hc4 hb5 hb6
          obtain ⟨hcell, hfz, hgB⟩ := ho6.at rfl y (by omega)
          obtain ⟨c, hcz⟩ : ∃ c : UInt8, z = (c.toNat : Int) := ⟨_, byte_back hz0 hz1⟩
          subst hcz
          have ho8 := ho6.put rfl y c
          have hback := ho8.text
          have hbl : Below w.heap.size w6 (w6.setCell ⟨g, y, none⟩ (.int .u8 (c.toNat : Int))) := (Below.refl _ w6).setCell hgB _
          have hc8 := hc6.kept hbl hbz
          have hb8 := hb7.grow hbl (Nat.le_refl _)
          clear ho6 hc6 hb7 hbl ho8
          go_wp2
          go_ret
          exact ⟨_, rfl, by show (l.set y c).toArray.size ≤ most; simp; omega, hc8, hb8⟩
        · have hback := ho2.text
          go_wp2
          go_ret
          exact ⟨_, rfl, by show l.toArray.size ≤ most; simp; omega, hc2, hb3⟩
end Go.Proofs.YtamfgjgmnnnjpaaDoor

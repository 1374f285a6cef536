/-
  A row of bytes that a call makes, writes into and cuts; and append of a part of such a row, as one step of a region that draws.
  A text bent in a few places: whatever is drawn, some text not much longer.
  Drawn control and texts of it: whatever the code, some control, two of them, a short text.
  Drawn requests' fields for policy.
-/
import Derived.Test.YtemmgfnepdgpbaaGreatDoorK31
import Derived.Lib.OthersKept
import Derived.Deep.RegionLaw
import Derived.Laws.Strings
import Derived.Deep.LoopGhost
import Derived.Deep.RegionWith
import Derived.Test.YtemmgfnepdgpbaaGreatDoorK32
import Derived.Test.YtemmgfnepdgpbaaGreatDoorK23
namespace Go.Proofs.YtemmgfnepdgpbaaGreatDoor
open Go.RowKit

/-- A row of bytes l in a block from B on, which v is. -/
def Rw (w : World) (B : Nat) (v : Value) (l : List UInt8) : Prop := ∃ g cap, v = .slice (some ⟨g, 0, none⟩) l.length cap ∧ B ≤ g ∧ g < w.heap.size ∧ l.length ≤ cap ∧ cap ≤ maxLen ∧ RowIs w g l
theorem RowIs.same {w w' : World} {g : Nat} {l : List UInt8} (h : RowIs w g l) (hb : w'.heap[g]? = w.heap[g]?) : RowIs w' g l := fun j hj =>
  ⟨(World.cell?_of_block (w := w) (a := ⟨g, j, none⟩) hb).trans (h j hj).1, (World.frozen?_of_block (w := w) (a := ⟨g, j, none⟩) hb).trans (h j hj).2⟩
theorem Rw.beside {w w' : World} {B b : Nat} {v : Value} {l : List UInt8} (h : Rw w B v l) (hb : Beside b w w') (hB : b < B) : Rw w' B v l := by
  obtain ⟨g, cap, rfl, h1, h2, h3, h4, h5⟩ := h
  exact ⟨g, cap, rfl, h1, Nat.lt_of_lt_of_le h2 hb.2.2.2.1, h3, h4, h5.same (hb.2.2.2.2 g h2 (by omega))⟩
theorem RowIs.take {w : World} {g : Nat} {l : List UInt8} (h : RowIs w g l) (k : Nat) : RowIs w g (l.take k) := fun j hj => by
  have hj' : j < l.length := by rw [List.length_take] at hj; omega
  have := h j hj'
  rw [List.getElem_take]
  exact this
theorem Rw.text {w : World} {B : Nat} {v : Value} {l : List UInt8} (h : Rw w B v l) : (convert 22 9 v).run Tryz.prog w = .ok (.string ⟨l.toArray⟩) w := by
  obtain ⟨g, cap, rfl, h1, h2, h3, h4, h5⟩ := h
  exact run_convert_bytes_back (P := Tryz.prog) w 22 9 5 ⟨g, 0, none⟩ cap l Tryz.underlying22 Tryz.underlying5 Tryz.underlying9 (fun j hj => by
    rw [addr_add, Nat.zero_add]
    exact (h5 j hj).1)
theorem Rw.of {w : World} {B : Nat} {v : Value} {l : List UInt8} (h : OwnsB w B v l) (hv : v ≠ .slice none 0 0) : Rw w B v l := by
  have hh := h
  rcases h.2 with ⟨h0, _⟩ | ⟨g, cap, cur, rfl, hb, hg, hc, hm, rest⟩
  · exact absurd h0 hv
  · refine ⟨g, cap, rfl, hb, (Array.getElem?_eq_some_iff.1 hg).1, hc, hm, fun j hj => ⟨?_, World.ownsRow.frozenAt hh j⟩⟩
    have := World.ownsRow.cells hh (g := g) rfl j (.int .u8 (l[j].toNat : Int)) (by simp [bytesV, hj])
    rw [addr_add, Nat.zero_add] at this
    exact this
end Go.Proofs.YtemmgfnepdgpbaaGreatDoor
namespace Go.Proofs.YtemmgfnepdgpbaaGreatDoor
open Go.RowKit

theorem bytes_rw (w : World) (s : ByteArray) (hz : s.size ≤ 10000) : ∃ (cap : Nat) (C : Array Value), (convert 9 22 (.string s)).run Tryz.prog w = .ok (.slice (some ⟨w.heap.size, 0, none⟩) s.size cap) (w.drew.alloc (.cells C 5 (C.size, C.size + 1))) ∧
    Rw (w.drew.alloc (.cells C 5 (C.size, C.size + 1))) w.heap.size (.slice (some ⟨w.heap.size, 0, none⟩) s.size cap) s.data.toList := by
  have hl : s.data.toList.length = s.size := by simp
  refine ⟨_, _, run_bytes_of_string w 9 22 5 s Tryz.underlying9 Tryz.underlying22 Tryz.underlying5, w.heap.size, _, by rw [hl], Nat.le_refl _, ?_, ?_, grownCap_le_maxLen w _ _ _ (by unfold maxLen; omega), ?_⟩
  · show w.heap.size < (w.heap.push _).size
    simp
  · rw [hl]; exact grownCap_ge w _ _ _
  · intro j hj
    have hj' : j < s.data.size := by simpa using hj
    have hz : j < (bytesRow s (grownCap w s.size 0 5)).size := by
      have : (bytesRow s (grownCap w s.size 0 5)).size = s.data.size + (grownCap w s.size 0 5 - s.size) := by simp [bytesRow]
      omega
    refine ⟨?_, ?_⟩
    · have := World.cell?_alloc_mark w (bytesRow s (grownCap w s.size 0 5)) 5 ((bytesRow s (grownCap w s.size 0 5)).size, (bytesRow s (grownCap w s.size 0 5)).size + 1) j
      rw [bytesRow_at s _ j hj'] at this
      exact this
    · show (w.alloc (.cells (bytesRow s (grownCap w s.size 0 5)) 5 ((bytesRow s (grownCap w s.size 0 5)).size, (bytesRow s (grownCap w s.size 0 5)).size + 1))).frozen? ⟨w.heap.size, j, none⟩ = false
      rw [World.frozen?_alloc_mark]
      simp
      omega
theorem Rw.low {w : World} {B B' : Nat} {v : Value} {l : List UInt8} (h : Rw w B v l) (hB : B' ≤ B) : Rw w B' v l := by
  obtain ⟨g, cap, rfl, h1, h2, h3, h4, h5⟩ := h
  exact ⟨g, cap, rfl, by omega, h2, h3, h4, h5⟩
theorem RowIs.put' {w : World} {g : Nat} {l : List UInt8} (h : RowIs w g l) (k : Nat) (c : UInt8) : RowIs (w.setCell ⟨g, k, none⟩ (.int .u8 (c.toNat : Int))) g (l.set k c) := by
  intro j hj
  have hj' : j < l.length := by simpa using hj
  obtain ⟨h1, h2⟩ := h j hj'
  refine ⟨?_, by rw [World.frozen?_setCell]; exact h2⟩
  by_cases e : k = j
  · subst e
    rw [World.cell?_setCell_same _ _ _ h1]
    simp
  · rw [World.cell?_setCell_other _ _ _ _ (by simp), h1]
    simp [e]

theorem cutAddr {g cp p : Nat} {l : List UInt8} (hlc : l.length ≤ cp) : ∃ A : Addr, (if cp = p then some (⟨g, 0, none⟩ : Addr) else some ⟨g, p, none⟩) = some A ∧ ∀ x, RowIs x g l → ∀ j (h : j < (l.drop p).length), x.cell? (A.add j) = some (.int .u8 ((l.drop p)[j].toNat : Int)) := by
  by_cases e : cp = p
  · refine ⟨⟨g, 0, none⟩, by rw [if_pos e], fun x _ j hj => ?_⟩
    rw [List.length_drop] at hj
    omega
  · refine ⟨⟨g, p, none⟩, by rw [if_neg e], fun x hx j hj => ?_⟩
    have hj' : p + j < l.length := by rw [List.length_drop] at hj; omega
    rw [addr_add, List.getElem_drop]
    exact (hx (p + j) hj').1
theorem grownAt {w3 w4 : World} {o : Obj} {g : Nat} (hg : (w3.alloc o).drew.grownBy w4 (some w3.heap.size)) (h : g < w3.heap.size) : w4.heap[g]? = w3.heap[g]? :=
  (hg.block g (by show g < (w3.heap.push o).size; simp; omega) (by intro e; have := Option.some.inj e; omega)).trans (show (w3.heap.push o)[g]? = w3.heap[g]? from Below.heap_alloc w3 o g h)
theorem oneCell (w : World) (c : UInt8) : ∀ j (h : j < [c].length), (w.alloc (.cells #[.int .u8 (c.toNat : Int)] 5)).cell? ((⟨w.heap.size, 0, none⟩ : Addr).add j) = some (.int .u8 ([c][j].toNat : Int)) := fun j hj => by
  have e : j = 0 := by simp at hj; omega
  subst e
  rw [addr_add, World.cell?_alloc_mark]
  rfl
theorem oneGrown {w3 w4 : World} {o : Obj} {B : Nat} (hg4 : (w3.alloc o).drew.grownBy w4 (some w3.heap.size)) (hB : B ≤ w3.heap.size) : Below B w3 w4 := by
  have hz : (w3.heap.push o).size ≤ w4.heap.size := hg4.size
  simp at hz
  exact ⟨hg4.os, hg4.tape, hg4.output, by omega, fun k hk => grownAt hg4 (by omega)⟩
theorem grown6 {w5 w6 : World} {o : Obj} {g B : Nat} {v : Value} (hg : (w5.alloc o).grownBy w6 v.ownBlock) (h : g < w5.heap.size) (hv : ∀ k, v.ownBlock = some k → B ≤ k) (hB : g < B) : w6.heap[g]? = w5.heap[g]? :=
  (hg.block g (by simp; omega) (fun e => by have := hv g e.symm; omega)).trans (Below.heap_alloc w5 o g h)
theorem grownSize6 {w5 w6 : World} {o : Obj} {n : Nat} {r : Option Nat} (hg : (w5.alloc o).grownBy w6 r) (h : n ≤ w5.heap.size) : n ≤ w6.heap.size := by
  have := hg.size
  simp at this
  omega
theorem lastGrown {w5 w6 w7 : World} {o : Obj} {m B : Nat} {v v' : Value} (hg6 : (w5.alloc o).grownBy w6 v.ownBlock) (hg7 : w6.grownBy w7 v'.ownBlock) (hv : ∀ k, v.ownBlock = some k → m ≤ k) (hv' : ∀ k, v'.ownBlock = some k → m ≤ k) (hB : B ≤ m) (hn : m ≤ w5.heap.size) : Below B w5 w7 := by
  have hz := hg6.size
  simp at hz
  refine ⟨hg7.os.trans hg6.os, hg7.tape.trans hg6.tape, hg7.output.trans hg6.output, Nat.le_trans (by omega) hg7.size, fun k hk => ?_⟩
  rw [hg7.block k (by omega) (fun e => by have := hv' k e.symm; omega)]
  exact grown6 hg6 (by omega) hv (by omega)
theorem twoGrown {w3 w4 w5 : World} {o : Obj} {B : Nat} {v : Value} (hg4 : (w3.alloc o).drew.grownBy w4 (some w3.heap.size)) (hg5 : w4.grownBy w5 v.ownBlock) (hv : ∀ k, v.ownBlock = some k → w3.heap.size ≤ k) (hB : B ≤ w3.heap.size) : Below B w3 w5 := by
  have hz : (w3.heap.push o).size ≤ w4.heap.size := hg4.size
  simp at hz
  refine ⟨hg5.os.trans hg4.os, hg5.tape.trans hg4.tape, hg5.output.trans hg4.output, Nat.le_trans (by omega) hg5.size, fun k hk => ?_⟩
  rw [hg5.block k (by omega) (fun e => by have := hv k e.symm; omega)]
  exact grownAt hg4 (by omega)
theorem grownSize {w3 w4 : World} {o : Obj} {r : Option Nat} (hg : (w3.alloc o).drew.grownBy w4 r) : w3.heap.size ≤ w4.heap.size := by
  have : (w3.heap.push o).size ≤ w4.heap.size := hg.size
  simp at this
  omega

set_option maxRecDepth 100000 in
set_option maxHeartbeats 4000000 in
theorem l1Bend (b : Nat) (sa : Option Addr) (sl sc : Nat) (s signs : ByteArray) (hs : s.size ≤ 10000) (hg1 : 1 ≤ signs.size) (hg2 : signs.size ≤ 1000) (w : World) (hc : Cur w b sa sl sc) :
    Calls Tryz.prog 43 #[.pointer (some ⟨b, 0, none⟩), .string s, .string signs] w fun e w' => ∃ t : ByteArray, e = .returned (.string t) ∧ t.size ≤ s.size + 2 ∧ Cur w' b sa sl sc ∧ Beside b w w' := by
  have hbz : b < w.heap.size := hc.2.2.1
  obtain ⟨cap, C, hconv, hrow⟩ := bytes_rw w s hs
  have hbl : Below w.heap.size w (w.drew.alloc (.cells C 5 (C.size, C.size + 1))) := (show Below w.heap.size w w.drew from ⟨rfl, rfl, rfl, Nat.le_refl _, fun _ _ => rfl⟩).alloc (Nat.le_refl _) _
  go_enter Tryz.func43, Tryz.ntmps43
  go_wp2_with fail
  refine (l1Below b sa sl sc _ (by omega) (by omega) _ (hc.kept hbl hbz)).mono ?_
  rintro e w1 ⟨x, rfl, hx0, hx1, hc1, hb1⟩
  have ho1 := hrow.beside hb1 hbz
  have hb2 : Beside b w w1 := ((Beside.refl b w).below hbl).trans hb1
  obtain ⟨x, rfl⟩ := Int.eq_ofNat_of_zero_le hx0
  clear hb1 hrow hconv hbl
  go_wp2_with fail
  go_loopw [7, 8] (fun v n wr => ∃ (k : Nat) (l : List UInt8), n = .int .i64 k ∧ Rw wr w.heap.size v l ∧ Cur wr b sa sl sc ∧ Beside b w wr ∧ l.length + k ≤ s.size + 2) (fun _ n _ => (intOf n).toNat)
  case atStart => exact ⟨x, _, rfl, ho1, hc1, hb2, by simp; omega⟩
  case round =>
    clear ho1 hc1 hb2
    obtain ⟨k, l, rfl, ho, hc, hb, hlk⟩ := hrel
    by_cases hk : 0 < k
    · by_cases hl : 0 < l.length
      · have hlen : l.length ≤ 10002 := by omega
        obtain ⟨g, cp, rfl, hBg, hgz, hlc, hcm, hR⟩ := id ho
        go_wp2_with fail
        refine (l1Below b sa sl sc _ (by omega) (by omega) _ hc).mono ?_
        rintro e w2 ⟨y, rfl, hy0, hy1, hc2, hb2⟩
        obtain ⟨y, rfl⟩ := Int.eq_ofNat_of_zero_le hy0
        go_wp2_with fail
        refine (l1Below b sa sl sc _ (by decide) (by decide) _ hc2).mono ?_
        rintro e w3 ⟨z, rfl, hz0, hz1, hc3, hb3⟩
        have ho3 := (ho.beside hb2 hbz).beside hb3 hbz
        have hb4 := (hb.trans hb2).trans hb3
        have hR3 := (hR.same (hb2.2.2.2.2 g hgz (by omega))).same (hb3.2.2.2.2 g (Nat.lt_of_lt_of_le hgz hb2.2.2.2.1) (by omega))
        have hgz3 : g < w3.heap.size := Nat.lt_of_lt_of_le (Nat.lt_of_lt_of_le hgz hb2.2.2.2.1) hb3.2.2.2.1
        clear ho hc hb hb2 hb3 hc2 hR hgz
        have hyl : y < l.length := by omega
        rcases (show z = 0 ∨ z = 1 ∨ z = 2 ∨ z = 3 from by omega) with rfl | rfl | rfl | rfl
        · go_wp2_with fail
          refine (l1Below b sa sl sc _ (by omega) (by omega) _ hc3).mono ?_
          rintro e w4 ⟨q, rfl, hq0, hq1, hc4, hb5⟩
          obtain ⟨q, rfl⟩ := Int.eq_ofNat_of_zero_le hq0
          have hqs : q < signs.size := by omega
          have hR4 := hR3.same (hb5.2.2.2.2 g hgz3 (by omega))
          obtain ⟨c1, c2⟩ := hR4 y hyl
          have hb6 := hb4.trans hb5
          have hgz4 : g < w4.heap.size := Nat.lt_of_lt_of_le hgz3 hb5.2.2.2.1
          have hput : Below w.heap.size w4 (w4.setCell ⟨g, y, none⟩ (.int .u8 (signs[q].toNat : Int))) := (Below.refl w.heap.size w4).setCell (show w.heap.size ≤ (⟨g, y, none⟩ : Addr).block from hBg) _
          clear ho3 hc3 hb4 hb5 hR3 hgz3
          go_wp2
          go_roundw
          case rel => exact ⟨k - 1, l.set y signs[q], by go_num, ⟨g, cp, by simp, hBg, by simpa [World.setCell] using hgz4, by simpa using hlc, hcm, hR4.put' y _⟩, hc4.kept hput hbz, hb6.grow hput (Nat.le_refl _), by simp; omega⟩
          case measure => simp [intOf]; omega
        · go_wp2
          go_roundw
          case rel => exact ⟨k - 1, l.take y, by go_num, ⟨g, cp, by simp; omega, hBg, hgz3, by simp; omega, hcm, hR3.take y⟩, hc3, hb4, by simp; omega⟩
          case measure => simp [intOf]; omega
        · obtain ⟨A, hA, hAn⟩ := cutAddr (g := g) (p := y + 1) hlc
          have e1 : y ≤ cp := by omega
          have e2 : y + 1 ≤ l.length := hyl
          have e3 : (y : Int) + 1 ≤ (l.length : Int) := by omega
          have e4 : IntKind.i64.wrap ((y : Int) + 1) = (y : Int) + 1 := by rw [IntKind.wrap_i64]; omega
          have e6 : ((y : Int) + 1).toNat = y + 1 := by omega
          have e7 : 0 ≤ (y : Int) + 1 := by omega
          have hty : (l.take y).length = y := by rw [List.length_take]; omega
          have hdy : (l.drop (y + 1)).length = l.length - (y + 1) := List.length_drop
          have HE : Hid (OwnsB (w3.alloc (.cells #[] 5)).drew w3.heap.size (.slice (some ⟨w3.heap.size, 0, none⟩) 0 0) []) := OwnsB.drew (OwnsB.empty w3)
          have HN : Hid (∀ j (h : j < (l.take y).length), (w3.alloc (.cells #[] 5)).drew.cell? ((⟨g, 0, none⟩ : Addr).add j) = some (.int .u8 ((l.take y)[j].toNat : Int))) := fun j hj => by
            rw [addr_add, Nat.zero_add]
            exact ((hR3.take y).same (show (w3.alloc (.cells #[] 5)).drew.heap[g]? = w3.heap[g]? from Below.heap_alloc _ _ _ hgz3) j hj).1
          have HR : Hid (RowIs w3 g l ∧ g < w3.heap.size) := ⟨hR3, hgz3⟩
          have HA : Hid (∀ x, RowIs x g l → ∀ j (h : j < (l.drop (y + 1)).length), x.cell? (A.add j) = some (.int .u8 ((l.drop (y + 1))[j].toNat : Int))) := hAn
          clear hR3 ho3 hAn
          go_wp2_with fail
          go_region_law (first | (refine step_own rfl (.tmp 47) (.tmp 50) rfl w3.heap.size _ [] (by simp [Act.eval]) HE.out ⟨g, 0, none⟩ cp (l.take y) (by simp [Act.eval, hty]) HN.out (by simp; omega) (by simp) ?_; intro v4 w4 ho4 hg4 hn4) | (refine step_own rfl (.tmp 51) (.tmp 55) rfl w3.heap.size v4 _ (by simp [Act.eval]) ho4 A (cp - (y + 1)) (l.drop (y + 1)) (by simp [Act.eval]) (HA.out w4 (HR.out.1.same (grownAt hg4 HR.out.2))) (by simp; omega) (grownSize hg4) ?_; intro v5 w5 ho5 hg5 hn5))
          have hbel : Below w.heap.size w3 w5 := twoGrown hg4 hg5 ho4.from hb4.2.2.2.1
          go_wp2
          go_roundw
          case rel => exact ⟨k - 1, _, by go_num, (Rw.of ho5 (hn5 (hn4 (by simp)))).low hb4.2.2.2.1, hc3.kept hbel hbz, hb4.grow hbel (Nat.le_refl _), by simp; omega⟩
          case measure => simp [intOf]; omega
        · obtain ⟨A, hA, hAn⟩ := cutAddr (g := g) (p := y) hlc
          have e1 : y ≤ cp := by omega
          have e2 : y ≤ l.length := by omega
          have hty : (l.take y).length = y := by rw [List.length_take]; omega
          have hdy : (l.drop y).length = l.length - y := List.length_drop
          have HE : Hid (OwnsB (w3.alloc (.cells #[] 5)).drew w3.heap.size (.slice (some ⟨w3.heap.size, 0, none⟩) 0 0) []) := OwnsB.drew (OwnsB.empty w3)
          have HN : Hid (∀ j (h : j < (l.take y).length), (w3.alloc (.cells #[] 5)).drew.cell? ((⟨g, 0, none⟩ : Addr).add j) = some (.int .u8 ((l.take y)[j].toNat : Int))) := fun j hj => by
            rw [addr_add, Nat.zero_add]
            exact ((hR3.take y).same (show (w3.alloc (.cells #[] 5)).drew.heap[g]? = w3.heap[g]? from Below.heap_alloc _ _ _ hgz3) j hj).1
          have HR : Hid (RowIs w3 g l ∧ g < w3.heap.size) := ⟨hR3, hgz3⟩
          have HA : Hid (∀ x, RowIs x g l → ∀ j (h : j < (l.drop y).length), x.cell? (A.add j) = some (.int .u8 ((l.drop y)[j].toNat : Int))) := hAn
          clear hR3 ho3 hAn
          go_wp2_with fail
          go_region_law (first | (refine step_own rfl (.tmp 59) (.tmp 62) rfl w3.heap.size _ [] (by simp [Act.eval]) HE.out ⟨g, 0, none⟩ cp (l.take y) (by simp [Act.eval, hty]) HN.out (by simp; omega) (by simp) ?_; intro v4 w4 ho4 hg4 hn4) | (refine step_own rfl (.tmp 63) (.tmp 70) rfl w3.heap.size v4 _ (by simp [Act.eval]) (OwnsB.alloc ho5 _) ⟨w5.heap.size, 0, none⟩ 1 [signs[q]] (by simp [Act.eval]) (oneCell w5 signs[q]) (by simp <;> omega) hz5 ?_; intro v6 w6 ho6 hg6 hn6) | (refine step_own rfl (.tmp 71) (.tmp 74) rfl w3.heap.size v6 _ (by simp [Act.eval]) ho6 A (cp - y) (l.drop y) (by simp [Act.eval]) (HA.out w6 (((HR.out.1.same (grownAt hg4 HR.out.2)).same (hb5.2.2.2.2 g (Nat.lt_of_lt_of_le HR.out.2 (grownSize hg4)) (by omega))).same (grown6 hg6 (Nat.lt_of_lt_of_le HR.out.2 hz5') ho4.from HR.out.2))) (by simp <;> omega) (grownSize6 hg6 hz5') ?_; intro v7 w7 ho7 hg7 hn7) | (go_simp; go_at_call 75; refine (l1Below b sa sl sc _ (by omega) (by omega) _ (hc3.kept (oneGrown hg4 hb4.2.2.2.1) hbz)).mono ?_; rintro e w5 ⟨q, rfl, hq0, hq1, hc5, hb5⟩; obtain ⟨q, rfl⟩ := Int.eq_ofNat_of_zero_le hq0; have hqs : q < signs.size := Int.ofNat_lt.1 hq1; have ho5 := ho4.beside hb5 (by omega); have hz5' : w3.heap.size ≤ w5.heap.size := Nat.le_trans (grownSize hg4) hb5.2.2.2.1; have hz5 : w3.heap.size ≤ (w5.alloc (.cells #[.int .u8 (signs[q].toNat : Int)] 5)).heap.size := by simp <;> omega))
          have hbl : Below w.heap.size w5 w7 := lastGrown hg6 hg7 ho4.from ho6.from hb4.2.2.2.1 hz5'
          go_wp2
          go_roundw
          case rel => exact ⟨k - 1, _, by go_num, (Rw.of ho7 (hn7 (hn6 (hn4 (by simp))))).low hb4.2.2.2.1, hc5.kept hbl hbz, ((hb4.grow (oneGrown hg4 hb4.2.2.2.1) (Nat.le_refl _)).trans hb5).grow hbl (Nat.le_refl _), by simp; omega⟩
          case measure => simp [intOf]; omega
      · obtain ⟨g, cp, rfl, hBg, hgz, hlc, hcm, hR⟩ := id ho
        have hback := ho.text
        have hd : decide (0 < (l.length : Int)) = false := decide_eq_false (by omega)
        clear hR
        go_wp2
        go_ret
        exact ⟨_, rfl, by show l.toArray.size ≤ s.size + 2; simp; omega, hc, hb⟩
    · obtain ⟨g, cp, rfl, hBg, hgz, hlc, hcm, hR⟩ := id ho
      have hback := ho.text
      clear hR
      go_wp2
      go_ret
      exact ⟨_, rfl, by show l.toArray.size ≤ s.size + 2; simp; omega, hc, hb⟩
end Go.Proofs.YtemmgfnepdgpbaaGreatDoor
namespace Go.Proofs.YtemmgfnepdgpbaaGreatDoor
open Go.RowKit Go.Sort
set_option linter.unusedVariables false
set_option linter.unusedSimpArgs false

def isT9 (n : Nat) (v : Value) : Bool := match v with | .string s => decide (s.size ≤ n) | _ => false
theorem isT9_out {n : Nat} {v : Value} (h : isT9 n v = true) : ∃ s : ByteArray, v = .string s ∧ s.size ≤ n := by
  unfold isT9 at h
  split at h
  · exact ⟨_, rfl, of_decide_eq_true h⟩
  · cases h
theorem tabT9 {b : Nat} {w w' : World} {C : Array Value} {t : TypeId} (n : Nat) (hb : Beside b (w.alloc (.cells C t)) w') (hne : w.heap.size ≠ b) (y : Nat) (hy : y < C.size) (hall : C.toList.all (isT9 n) = true) : ∃ s : ByteArray, w'.cell? ⟨w.heap.size, y, Option.none⟩ = some (.string s) ∧ s.size ≤ n := by
  have hm : C[y] ∈ C.toList := by simp
  obtain ⟨s, hz, hs⟩ := isT9_out (List.all_eq_true.1 hall _ hm)
  refine ⟨s, besideCell hb hne ?_, hs⟩
  rw [World.cell?_alloc_mark, Array.getElem?_eq_getElem hy, hz]
set_option maxRecDepth 100000 in
set_option maxHeartbeats 4000000 in
theorem l9DrawText (b : Nat) (sa : Option Addr) (sl sc : Nat) (w : World) (hc : Cur w b sa sl sc) :
    Calls Tryz.prog 157 #[.pointer (some ⟨b, 0, Option.none⟩)] w fun e w' => (∃ s : ByteArray, e = .returned (.string s) ∧ s.size ≤ 84) ∧ Cur w' b sa sl sc ∧ Beside b w w' := by
  have hbz : b < w.heap.size := hc.2.2.1
  go_enter Tryz.func157, Tryz.ntmps157
  go_wp2_with fail
  refine (l1Below b sa sl sc 5 (by decide) (by decide) _ hc).mono ?_
  rintro e w1 ⟨x, rfl, hx0, hx1, hc1, hb1⟩
  obtain ⟨x, rfl⟩ := Int.eq_ofNat_of_zero_le hx0
  have C1 : Hid (Cur w1 b sa sl sc) := hc1
  have B1 : Hid (Beside b w w1) := hb1
  clear hb1 hc hc1
  go_wp2_with fail
  go_loopw [3, 4] (fun u n wr => ∃ (k : Nat) (s : ByteArray), n = .int .i64 k ∧ u = .string s ∧ s.size + 21 * k ≤ 84 ∧ Hid (Cur wr b sa sl sc) ∧ Hid (Beside b w wr)) (fun _ n _ => (intOf n).toNat)
  case atStart => exact ⟨x, ⟨#[]⟩, rfl, rfl, by show 0 + _ ≤ _; omega, C1, B1⟩
  case round =>
    clear C1 B1
    obtain ⟨k, s, rfl, rfl, hz, hc, hb⟩ := hrel
    by_cases hk : 0 < k
    · have hbr : b < wr.heap.size := hc.out.2.2.1
      go_wp2_with fail
      refine (l1Below b sa sl sc 13 (by decide) (by decide) _ (hc.out.more9 _)).mono ?_
      rintro e w2 ⟨y, rfl, hy0, hy1, hc2, hb2⟩
      obtain ⟨y, rfl⟩ := Int.eq_ofNat_of_zero_le hy0
      obtain ⟨t, ht, htz⟩ := tabT9 19 hb2 (by omega) y (by simp; omega) (by decide)
      have C2 : Hid (Cur w2 b sa sl sc) := hc2
      have B2 : Hid (Beside b w w2) := (hb.out.more9 _).trans hb2
      have y1 : (s ++ t).size = s.size + t.size := ByteArray.size_append
      have y2 : (s ++ t ++ (⟨#[44, 32]⟩ : ByteArray)).size = s.size + t.size + 2 := by rw [ByteArray.size_append, y1]; rfl
      clear hb2 hc2 hc hb
      go_wp2
      go_roundw
      case rel => exact ⟨k - 1, _, by go_num, rfl, by rw [y2]; omega, C2, B2⟩
      case measure => simp [intOf]; omega
    · go_wp2
      go_ret
      exact ⟨⟨s, rfl, by omega⟩, hc.out, hb.out⟩
end Go.Proofs.YtemmgfnepdgpbaaGreatDoor
namespace Go.Proofs.YtemmgfnepdgpbaaGreatDoor
open Go.RowKit Go.Sort
set_option linter.unusedVariables false

theorem OwnsF.beside10 {w w' : World} {B b : Nat} {v : Value} {l : List Fl} (h : OwnsF w B v l) (hb : Beside b w w') (hB : b < B) : OwnsF w' B v l := by
  refine ⟨h.1, ?_⟩
  rcases h.2 with h0 | ⟨g, cap, cur, hv, hbg, hg, rest⟩
  · exact .inl h0
  · exact .inr ⟨g, cap, cur, hv, hbg, (hb.2.2.2.2 g (Array.getElem?_eq_some_iff.1 hg).1 (by omega)).trans hg, rest⟩
theorem Beside.grown10 {b : Nat} {w x y : World} {r : Option Nat} (h : Beside b w x) (hg : x.grownBy y r) (hr : ∀ k, r = some k → w.heap.size ≤ k) : Beside b w y :=
  ⟨hg.os.trans h.1, hg.tape.trans h.2.1, hg.output.trans h.2.2.1, Nat.le_trans h.2.2.2.1 hg.size, fun k hk hne => (hg.block k (Nat.lt_of_lt_of_le hk h.2.2.2.1) (fun e => by have := hr k e.symm; omega)).trans (h.2.2.2.2 k hk hne)⟩
theorem grown_low10 {x y : World} {r : Option Nat} {B : Nat} (hg : x.grownBy y r) (hr : ∀ k, r = some k → B ≤ k) (hB : B ≤ x.heap.size) : Below B x y :=
  ⟨hg.os, hg.tape, hg.output, hg.size, fun k hk => hg.block k (by omega) (fun e => by have := hr k e.symm; omega)⟩
def FewF (n : Nat) (l : List Fl) : Prop := l.length ≤ n ∧ ∀ f ∈ l, f.1.size ≤ 13 ∧ f.2.size ≤ 84
/-- The fields that are drawn for a request. -/
def askL : List Fl := [(⟨#[99, 97, 99, 104, 101, 45, 99, 111, 110, 116, 114, 111, 108]⟩, ⟨#[109, 97, 120, 45, 115, 116, 97, 108, 101, 61, 53]⟩), (⟨#[99, 97, 99, 104, 101, 45, 99, 111, 110, 116, 114, 111, 108]⟩, ⟨#[110, 111, 45, 99, 97, 99, 104, 101]⟩), (⟨#[99, 97, 99, 104, 101, 45, 99, 111, 110, 116, 114, 111, 108]⟩, ⟨#[109, 97, 120, 45, 97, 103, 101, 61, 49, 50]⟩), (⟨#[97, 99, 99, 101, 112, 116]⟩, ⟨#[49]⟩), (⟨#[97]⟩, ⟨#[50]⟩), (⟨#[97, 117, 116, 104, 111, 114, 105, 122, 97, 116, 105, 111, 110]⟩, ⟨#[120]⟩), (⟨#[120, 45, 98]⟩, ⟨#[]⟩)]
def askC : Array Value := #[.string ⟨#[99, 97, 99, 104, 101, 45, 99, 111, 110, 116, 114, 111, 108]⟩, .string ⟨#[109, 97, 120, 45, 115, 116, 97, 108, 101, 61, 53]⟩, .string ⟨#[99, 97, 99, 104, 101, 45, 99, 111, 110, 116, 114, 111, 108]⟩, .string ⟨#[110, 111, 45, 99, 97, 99, 104, 101]⟩, .string ⟨#[99, 97, 99, 104, 101, 45, 99, 111, 110, 116, 114, 111, 108]⟩, .string ⟨#[109, 97, 120, 45, 97, 103, 101, 61, 49, 50]⟩, .string ⟨#[97, 99, 99, 101, 112, 116]⟩, .string ⟨#[49]⟩, .string ⟨#[97]⟩, .string ⟨#[50]⟩, .string ⟨#[97, 117, 116, 104, 111, 114, 105, 122, 97, 116, 105, 111, 110]⟩, .string ⟨#[120]⟩, .string ⟨#[120, 45, 98]⟩, .string ⟨#[]⟩]
theorem tabA10 {b : Nat} {w w' : World} {C : Array Value} {t : TypeId} (hb : Beside b (w.alloc (.cells C t)) w') (hne : w.heap.size ≠ b) (hC : C = askC) (y : Nat) (hy : y < 7) : ∃ t1 t2 : ByteArray, (t1, t2) ∈ askL ∧ (t1.size ≤ 13 ∧ t2.size ≤ 13) ∧ w'.cell? ⟨w.heap.size, y * 2, Option.none⟩ = some (.string t1) ∧ w'.cell? ⟨w.heap.size, y * 2 + 1, Option.none⟩ = some (.string t2) := by
  subst hC
  have k : ∀ (j : Nat) (v : Value), askC[j]? = some v → w'.cell? ⟨w.heap.size, j, Option.none⟩ = some v := fun j v hj => besideCell hb hne (by rw [World.cell?_alloc_mark]; exact hj)
  rcases (show y = 0 ∨ y = 1 ∨ y = 2 ∨ y = 3 ∨ y = 4 ∨ y = 5 ∨ y = 6 by omega) with rfl | rfl | rfl | rfl | rfl | rfl | rfl
  · exact ⟨⟨#[99, 97, 99, 104, 101, 45, 99, 111, 110, 116, 114, 111, 108]⟩, ⟨#[109, 97, 120, 45, 115, 116, 97, 108, 101, 61, 53]⟩, by unfold askL; simp, by decide, k _ _ rfl, k _ _ rfl⟩
  · exact ⟨⟨#[99, 97, 99, 104, 101, 45, 99, 111, 110, 116, 114, 111, 108]⟩, ⟨#[110, 111, 45, 99, 97, 99, 104, 101]⟩, by unfold askL; simp, by decide, k _ _ rfl, k _ _ rfl⟩
  · exact ⟨⟨#[99, 97, 99, 104, 101, 45, 99, 111, 110, 116, 114, 111, 108]⟩, ⟨#[109, 97, 120, 45, 97, 103, 101, 61, 49, 50]⟩, by unfold askL; simp, by decide, k _ _ rfl, k _ _ rfl⟩
  · exact ⟨⟨#[97, 99, 99, 101, 112, 116]⟩, ⟨#[49]⟩, by unfold askL; simp, by decide, k _ _ rfl, k _ _ rfl⟩
  · exact ⟨⟨#[97]⟩, ⟨#[50]⟩, by unfold askL; simp, by decide, k _ _ rfl, k _ _ rfl⟩
  · exact ⟨⟨#[97, 117, 116, 104, 111, 114, 105, 122, 97, 116, 105, 111, 110]⟩, ⟨#[120]⟩, by unfold askL; simp, by decide, k _ _ rfl, k _ _ rfl⟩
  · exact ⟨⟨#[120, 45, 98]⟩, ⟨#[]⟩, by unfold askL; simp, by decide, k _ _ rfl, k _ _ rfl⟩
set_option maxRecDepth 100000 in
set_option maxHeartbeats 4000000 in
theorem l10DrawAsksN (b : Nat) (sa : Option Addr) (sl sc : Nat) (w : World) (hc : Cur w b sa sl sc) :
    Calls Tryz.prog 107 #[.pointer (some ⟨b, 0, Option.none⟩)] w fun e w' => (∃ u l, e = .returned u ∧ OwnsF w' w.heap.size u l ∧ FewF 2 l ∧ ∀ f ∈ l, f ∈ askL) ∧ Cur w' b sa sl sc ∧ Beside b w w' := by
  have hbz : b < w.heap.size := hc.2.2.1
  have hb0 := (Below.refl w.heap.size w).alloc (Nat.le_refl _) (.cells #[] 83)
  go_enter Tryz.func107, Tryz.ntmps107
  go_wp2_with fail
  refine (l1Below b sa sl sc 3 (by decide) (by decide) (w.alloc (.cells #[] 83)) (hc.kept hb0 hbz)).mono ?_
  rintro e w1 ⟨z, rfl, hz0, hz1, hc1, hb1⟩
  obtain ⟨m, rfl⟩ : ∃ m : Nat, z = m := ⟨z.toNat, by omega⟩
  have ho1 := (OwnsF.born w).beside10 hb1 hbz
  have hbs1 := ((Beside.refl b w).below hb0).trans hb1
  go_wp2_with fail
  go_loopw [3, 4] (fun u i wr => ∃ (k : Nat) (l : List Fl), i = .int .i64 k ∧ l.length + k ≤ 2 ∧ Hid (∀ f ∈ l, f.1.size ≤ 13 ∧ f.2.size ≤ 84) ∧ Hid (∀ f ∈ l, f ∈ askL) ∧ Hid (OwnsF wr w.heap.size u l) ∧ Hid (Cur wr b sa sl sc) ∧ Hid (Beside b w wr)) (fun _ i _ => (intOf i).toNat)
  case atStart => exact ⟨m, [], rfl, by simp; omega, (fun f hf => by cases hf), (fun f hf => by cases hf), ho1, hc1, hbs1⟩
  case round =>
    clear ho1 hc1 hbs1 hb1
    obtain ⟨k, l, rfl, hlk, hsm, hsa, hown, hcur, hbes⟩ := hrel
    by_cases hk : 0 < k
    · have hbr : b < wr.heap.size := hcur.out.2.2.1
      go_wp2_with fail
      refine (l1Below b sa sl sc 7 (by decide) (by decide) _ (hcur.out.more9 _)).mono ?_
      rintro e w2 ⟨y, rfl, hy0, hy1, hc2, hb2⟩
      obtain ⟨y, rfl⟩ := Int.eq_ofNat_of_zero_le hy0
      obtain ⟨t1, t2, hmem, ⟨hz1, hz2⟩, ht1, ht2⟩ := tabA10 hb2 (by omega) rfl y (by omega)
      have M2 : Hid ((t1, t2) ∈ askL) := hmem
      clear hmem
      have C2 : Hid (Cur w2 b sa sl sc) := hc2
      have B2 : Hid (Beside b w w2) := (hbes.out.more9 _).trans hb2
      have O2 : Hid (OwnsF w2 w.heap.size _ l) := (hown.out.alloc _).beside10 hb2 hbz
      clear hb2 hc2 hcur hbes hown
      go_wp2_with (at_builtin; refine wpList_pushF _ rfl (.tmp 12) (.tmp 25) rfl w.heap.size _ _ (t1, t2) rfl O2.out rfl (by omega) B2.out.2.2.2.1 ?_; intro v3 w3 ho3 hg3)
      have O3 : Hid (OwnsF w3 w.heap.size v3 (l ++ [(t1, t2)])) := ho3
      have B3 : Hid (Beside b w w3) := B2.out.grown10 hg3 (OwnsF.from O2.out)
      have C3 : Hid (Cur w3 b sa sl sc) := C2.out.kept (grown_low10 hg3 (OwnsF.from O2.out) B2.out.2.2.2.1) hbz
      have S3 : Hid (∀ f ∈ l ++ [(t1, t2)], f.1.size ≤ 13 ∧ f.2.size ≤ 84) := fun g hg => by
        rcases List.mem_append.1 hg with hg | hg
        · exact hsm.out g hg
        · rw [List.mem_singleton.1 hg]; exact ⟨hz1, by show t2.size ≤ 84; omega⟩
      have A3 : Hid (∀ f ∈ l ++ [(t1, t2)], f ∈ askL) := fun g hg => by
        rcases List.mem_append.1 hg with hg | hg
        · exact hsa.out g hg
        · rw [List.mem_singleton.1 hg]; exact M2.out
      clear ho3 hg3 O2 B2 C2 hsm hsa M2 ht1 ht2
      go_roundw
      case rel => exact ⟨k - 1, l ++ [(t1, t2)], by go_num, by simp; omega, S3, A3, O3, C3, B3⟩
      case measure => simp [intOf]; omega
    · go_wp2
      go_ret
      exact ⟨⟨_, l, rfl, hown.out, ⟨by omega, hsm.out⟩, hsa.out⟩, hcur.out, hbes.out⟩
theorem l10DrawAsks (b : Nat) (sa : Option Addr) (sl sc : Nat) (w : World) (hc : Cur w b sa sl sc) :
    Calls Tryz.prog 107 #[.pointer (some ⟨b, 0, Option.none⟩)] w fun e w' => (∃ u l, e = .returned u ∧ OwnsF w' w.heap.size u l ∧ FewF 2 l) ∧ Cur w' b sa sl sc ∧ Beside b w w' :=
  (l10DrawAsksN b sa sl sc w hc).mono fun e w' ⟨⟨u, l, h1, h2, h3, _⟩, h4, h5⟩ => ⟨⟨u, l, h1, h2, h3⟩, h4, h5⟩
end Go.Proofs.YtemmgfnepdgpbaaGreatDoor

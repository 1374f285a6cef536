/-
  The contracts of the drawing functions: whatever the code, they answer, and what they answer lies in its range.
  The contracts of the drawing functions that lean on one drawn byte: a number below a bound, a chance, a text.
  Drawn control: whatever the code, some control.
  A region that draws its order, whose operations only read but for one that makes a block and a few at its end that wait for all the others: walked once, whenever the block is made.
-/
import Derived.Test.YtemmgfnepdgpbaaGreatDoorRows
import Derived.WalkKit
import Derived.WalkSpells
import Derived.Laws.BitsLemmas
import Derived.Laws.Pointers
import Derived.Laws.IdiomStrings
import Derived.Deep.QuietTactic
import Derived.BigQuiet
import Derived.OpenShut
import Derived.Test.YtemmgfnepdgpbaaGreatDoorK04
import Derived.Test.YtemmgfnepdgpbaaGreatDoorK21
namespace Go.Proofs.YtemmgfnepdgpbaaGreatDoor
open Go.RowKit

theorem i64_and255 (n : Int) : bits .and .i64 n 255 = n % 256 := by
  have h255 : (BitVec.ofInt 64 255).toNat = 2 ^ 8 - 1 := by decide
  have key : (BitVec.ofInt 64 n &&& BitVec.ofInt 64 255).toNat = (n % ((2 ^ 64 : Nat) : Int)).toNat % 2 ^ 8 := by
    rw [BitVec.toNat_and, BitVec.toNat_ofInt, h255, Nat.and_two_pow_sub_one_eq_mod]
  show IntKind.i64.wrap ((BitVec.ofInt 64 n &&& BitVec.ofInt 64 255).toNat : Nat) = n % 256
  rw [key, IntKind.wrap_i64]
  omega
theorem i64_and30 (n : Int) : bits .and .i64 n 1073741823 = n % 1073741824 := by
  have h30 : (BitVec.ofInt 64 1073741823).toNat = 2 ^ 30 - 1 := by decide
  have key : (BitVec.ofInt 64 n &&& BitVec.ofInt 64 1073741823).toNat = (n % ((2 ^ 64 : Nat) : Int)).toNat % 2 ^ 30 := by
    rw [BitVec.toNat_and, BitVec.toNat_ofInt, h30, Nat.and_two_pow_sub_one_eq_mod]
  show IntKind.i64.wrap ((BitVec.ofInt 64 n &&& BitVec.ofInt 64 1073741823).toNat : Nat) = n % 1073741824
  rw [key, IntKind.wrap_i64]
  omega

/-- The bytes of a code that came in: they lie below block b. -/
def Code8 (w : World) (b : Nat) (sa : Option Addr) (sl : Nat) : Prop := ∀ j : Nat, j < sl → ∃ (g o : Nat) (z : Int), sa = some ⟨g, o, none⟩ ∧ g < b ∧ w.cell? ⟨g, o + j, none⟩ = some (.int .u8 z) ∧ 0 ≤ z ∧ z ≤ 255
/-- A cursor in block b over a code. -/
def Cur (w : World) (b : Nat) (sa : Option Addr) (sl sc : Nat) : Prop := (∃ i h : Int, w.cell? ⟨b, 0, none⟩ = some (.slice sa sl sc) ∧ w.cell? ⟨b, 1, none⟩ = some (.int .i64 i) ∧ w.cell? ⟨b, 2, none⟩ = some (.int .i64 h) ∧ 0 ≤ i ∧ i ≤ (sl : Int)) ∧ (∀ j, w.frozen? ⟨b, j, none⟩ = false) ∧ b < w.heap.size ∧ sl ≤ 4096 ∧ Code8 w b sa sl
/-- What holds of every block but g. -/
def Beside (g : Nat) (w w' : World) : Prop := w'.os = w.os ∧ w'.tape = w.tape ∧ w'.output = w.output ∧ w.heap.size ≤ w'.heap.size ∧ ∀ k, k < w.heap.size → k ≠ g → w'.heap[k]? = w.heap[k]?
theorem Beside.refl (g : Nat) (w : World) : Beside g w w := ⟨rfl, rfl, rfl, Nat.le_refl _, fun _ _ _ => rfl⟩
theorem Beside.trans {g : Nat} {a b c : World} (h : Beside g a b) (k : Beside g b c) : Beside g a c :=
  ⟨k.1.trans h.1, k.2.1.trans h.2.1, k.2.2.1.trans h.2.2.1, Nat.le_trans h.2.2.2.1 k.2.2.2.1, fun i hi hg => (k.2.2.2.2 i (Nat.lt_of_lt_of_le hi h.2.2.2.1) hg).trans (h.2.2.2.2 i hi hg)⟩
theorem Beside.put {g : Nat} {a w : World} (h : Beside g a w) (k : Nat) (v : Value) : Beside g a (w.setCell ⟨g, k, none⟩ v) :=
  ⟨h.1, h.2.1, h.2.2.1, by simpa [World.setCell] using h.2.2.2.1, fun j hj hg => (Below.heap_setCell _ _ _ _ hg).trans (h.2.2.2.2 j hj hg)⟩
theorem Beside.below {g : Nat} {a w w' : World} (h : Beside g a w) (hb : Below w.heap.size w w') : Beside g a w' :=
  ⟨hb.os.trans h.1, hb.tape.trans h.2.1, hb.output.trans h.2.2.1, Nat.le_trans h.2.2.2.1 hb.size, fun k hk hg => (hb.block k (by have := h.2.2.2.1; omega)).trans (h.2.2.2.2 k hk hg)⟩
theorem Beside.low {g B : Nat} {w w' : World} (h : Beside g w w') (hB : B ≤ g) (hs : B ≤ w.heap.size) : Below B w w' :=
  ⟨h.1, h.2.1, h.2.2.1, h.2.2.2.1, fun k hk => h.2.2.2.2 k (by omega) (by omega)⟩
theorem Code8.kept {w w' : World} {b B : Nat} {sa : Option Addr} {sl : Nat} (h : Code8 w b sa sl) (hb : Below B w w') (hB : b ≤ B) : Code8 w' b sa sl := by
  intro j hj
  obtain ⟨g, o, z, h1, h2, h3, h4⟩ := h j hj
  exact ⟨g, o, z, h1, h2, (hb.cell (p := ⟨g, o + j, none⟩) (by show g < B; omega)).trans h3, h4⟩
theorem Cur.kept {w w' : World} {b B : Nat} {sa : Option Addr} {sl sc : Nat} (h : Cur w b sa sl sc) (hb : Below B w w') (hB : b < B) : Cur w' b sa sl sc := by
  obtain ⟨⟨i, x, h0, h1, h2, h3⟩, hf, hz, hl, hc⟩ := h
  exact ⟨⟨i, x, (hb.cell (p := ⟨b, 0, none⟩) hB).trans h0, (hb.cell (p := ⟨b, 1, none⟩) hB).trans h1, (hb.cell (p := ⟨b, 2, none⟩) hB).trans h2, h3⟩, fun j => (hb.frozen (p := ⟨b, j, none⟩) hB).trans (hf j), Nat.lt_of_lt_of_le hz hb.size, hl, hc.kept hb (by omega)⟩
/-- The cursor behind two stores. -/
theorem Cur.put {w : World} {b : Nat} {sa : Option Addr} {sl sc : Nat} {i h : Int} (h0 : w.cell? ⟨b, 0, none⟩ = some (.slice sa sl sc)) (h1 : w.cell? ⟨b, 1, none⟩ = some (.int .i64 i)) (h2 : w.cell? ⟨b, 2, none⟩ = some (.int .i64 h)) (hi : 0 ≤ i ∧ i ≤ (sl : Int)) (hf : ∀ j, w.frozen? ⟨b, j, none⟩ = false) (hz : b < w.heap.size) (hl : sl ≤ 4096) (hc : Code8 w b sa sl) (x : Int) :
    Cur (w.setCell ⟨b, 2, none⟩ (.int .i64 x)) b sa sl sc ∧ ∀ y : Int, 0 ≤ y → y ≤ (sl : Int) → Cur ((w.setCell ⟨b, 2, none⟩ (.int .i64 x)).setCell ⟨b, 1, none⟩ (.int .i64 y)) b sa sl sc := by
  have k2 : (w.setCell ⟨b, 2, none⟩ (.int .i64 x)).cell? ⟨b, 2, none⟩ = some (.int .i64 x) := World.cell?_setCell_same _ _ _ h2
  have k1 : (w.setCell ⟨b, 2, none⟩ (.int .i64 x)).cell? ⟨b, 1, none⟩ = some (.int .i64 i) := by rw [World.cell?_setCell_other _ _ _ _ (by simp)]; exact h1
  have k0 : (w.setCell ⟨b, 2, none⟩ (.int .i64 x)).cell? ⟨b, 0, none⟩ = some (.slice sa sl sc) := by rw [World.cell?_setCell_other _ _ _ _ (by simp)]; exact h0
  have kb : Below b w (w.setCell ⟨b, 2, none⟩ (.int .i64 x)) := (Below.refl b w).setCell (Nat.le_refl _) _
  have kz : b < (w.setCell ⟨b, 2, none⟩ (.int .i64 x)).heap.size := by simpa [World.setCell] using hz
  refine ⟨⟨⟨i, x, k0, k1, k2, hi⟩, fun j => by rw [World.frozen?_setCell]; exact hf j, kz, hl, hc.kept kb (Nat.le_refl _)⟩, fun y y0 y1 => ?_⟩
  refine ⟨⟨y, x, ?_, World.cell?_setCell_same _ _ _ k1, ?_, y0, y1⟩, fun j => by rw [World.frozen?_setCell, World.frozen?_setCell]; exact hf j, by simpa [World.setCell] using hz, hl, hc.kept (kb.setCell (Nat.le_refl _) _) (Nat.le_refl _)⟩
  · rw [World.cell?_setCell_other _ _ _ _ (by simp)]; exact k0
  · rw [World.cell?_setCell_other _ _ _ _ (by simp)]; exact k2

theorem Cur.born (w : World) (sa : Option Addr) (sl sc : Nat) (x : Int) (ty : TypeId) (hc : Code8 w w.heap.size sa sl) (hl : sl ≤ 4096) : Cur (w.alloc (.cells #[.slice sa sl sc, .int .i64 0, .int .i64 x] ty)) w.heap.size sa sl sc := by
  refine ⟨⟨0, x, ?_, ?_, ?_, Int.le_refl _, by omega⟩, fun j => ?_, by simp, hl, hc.kept ((Below.refl _ w).alloc (Nat.le_refl _) _) (Nat.le_refl _)⟩
  · rw [World.cell?_alloc_mark]; rfl
  · rw [World.cell?_alloc_mark]; rfl
  · rw [World.cell?_alloc_mark]; rfl
  · rw [World.frozen?_alloc_mark]; simp

set_option maxHeartbeats 400000 in
theorem l1New (sa : Option Addr) (sl sc : Nat) (w : World) (hc : Code8 w w.heap.size sa sl) (hl : sl ≤ 4096) :
    Calls Tryz.prog 39 #[.slice sa sl sc] w fun e w' => e = .returned (.pointer (some ⟨w.heap.size, 0, none⟩)) ∧ Cur w' w.heap.size sa sl sc ∧ Below w.heap.size w w' := by
  have hand := i64_and30
  go_enter Tryz.func39, Tryz.ntmps39
  go_wp2
  go_loop [3, 4] (fun h i => ∃ (k : Nat) (x : Int), k ≤ sl ∧ i = .int .i64 k ∧ h = .int .i64 x ∧ 0 ≤ x ∧ x < 1073741824) (fun _ i => sl - (intOf i).toNat)
  case atStart => exact ⟨0, _, Nat.zero_le _, rfl, rfl, by omega, by omega⟩
  case round =>
    obtain ⟨k, x, hk, rfl, rfl, hx0, hx1⟩ := hrel
    by_cases hlt : k < sl
    · obtain ⟨g, o, z, rfl, hg, hcell, hz0, hz1⟩ := hc k hlt
      clear hc
      go_wp2
      go_round
      case rel => exact ⟨k + 1, _, by omega, by go_num, rfl, by omega, by omega⟩
      case measure => simp [intOf]; omega
    · go_wp2
      go_ret
      exact ⟨rfl, Cur.born w sa sl sc x _ hc hl, (Below.refl _ w).alloc (Nat.le_refl _) _⟩

set_option maxHeartbeats 400000 in
theorem l1Byte (b : Nat) (sa : Option Addr) (sl sc : Nat) (w : World) (hc : Cur w b sa sl sc) :
    Calls Tryz.prog 77 #[.pointer (some ⟨b, 0, none⟩)] w fun e w' => ∃ x : Int, e = .returned (.int .i64 x) ∧ 0 ≤ x ∧ x ≤ 255 ∧ Cur w' b sa sl sc ∧ Beside b w w' := by
  obtain ⟨⟨i, h, h0, h1, h2, hi0, hi1⟩, hf, hz, hl, hcode⟩ := hc
  have hand := i64_and255
  have f1 := hf 1
  have f2 := hf 2
  have HP := Cur.put h0 h1 h2 ⟨hi0, hi1⟩ hf hz hl hcode
  have HP' : Hid _ := HP
  clear HP
  have HC : Hid (Code8 w b sa sl) := hcode
  clear hcode hf
  by_cases hlt : i < (sl : Int)
  · obtain ⟨g, o, z, rfl, hg, hcell, hz0, hz1⟩ := HC.out i.toNat (by omega)
    have hB : ∀ X, (w.setCell ⟨b, 2, none⟩ X).cell? ⟨g, o + i.toNat, none⟩ = some (.int .u8 z) := fun X => by
      rw [World.cell?_setCell_other _ _ _ _ (by simp <;> omega)]; exact hcell
    clear hcell
    go_enter Tryz.func77, Tryz.ntmps77
    go_wp2
    go_quiet (fail)
    go_wp2
    go_quiet (fail)
    go_wp2
    go_quiet (fail)
    go_wp2
    go_ret
    exact ⟨_, rfl, by omega, by omega, (HP'.out _).2 _ (by omega) (by omega), ((Beside.refl b w).put 2 _).put 1 _⟩
  · have hd : decide (i < (sl : Int)) = false := by simpa using hlt
    go_enter Tryz.func77, Tryz.ntmps77
    go_wp2
    go_quiet (fail)
    go_wp2
    go_quiet (fail)
    go_wp2
    go_ret
    exact ⟨_, rfl, by omega, by omega, (HP'.out _).1, (Beside.refl b w).put 2 _⟩

theorem rem_in {x n : Int} (hx : 0 ≤ x) (hn : 1 ≤ n) : 0 ≤ x.tmod n ∧ x.tmod n < n := ⟨Int.tmod_nonneg n hx, Int.tmod_lt_of_pos x (by omega)⟩
theorem mod_in {x n : Int} (hn : 1 ≤ n) : 0 ≤ x % n ∧ x % n < n := ⟨Int.emod_nonneg x (by omega), Int.emod_lt_of_pos x (by omega)⟩

set_option maxHeartbeats 400000 in
theorem l1Below (b : Nat) (sa : Option Addr) (sl sc : Nat) (n : Int) (hn : 1 ≤ n) (hn2 : n ≤ 4294967296) (w : World) (hc : Cur w b sa sl sc) :
    Calls Tryz.prog 75 #[.pointer (some ⟨b, 0, none⟩), .int .i64 n] w fun e w' => ∃ x : Int, e = .returned (.int .i64 x) ∧ 0 ≤ x ∧ x < n ∧ Cur w' b sa sl sc ∧ Beside b w w' := by
  have hnz : (n == 0) = false := by simp; omega
  by_cases hs : n ≤ 256
  · go_enter Tryz.func75, Tryz.ntmps75
    go_wp2_with (go_at_call 77; refine (l1Byte b sa sl sc _ hc).mono ?_; rintro e w1 ⟨x, rfl, hx0, hx1, hc1, hb1⟩)
    go_ret
    refine ⟨_, rfl, ?_, ?_, hc1, hb1⟩
    · first | exact (mod_in hn).1 | exact (rem_in hx0 hn).1
    · first | exact (mod_in hn).2 | exact (rem_in hx0 hn).2
  · go_enter Tryz.func75, Tryz.ntmps75
    go_wp2_with fail
    refine (l1Byte b sa sl sc _ hc).mono ?_
    rintro e w1 ⟨x1, rfl, hx0, hx1, hc1, hb1⟩
    go_wp2_with fail
    refine (l1Byte b sa sl sc _ hc1).mono ?_
    rintro e w2 ⟨x2, rfl, hy0, hy1, hc2, hb2⟩
    go_wp2_with fail
    refine (l1Byte b sa sl sc _ hc2).mono ?_
    rintro e w3 ⟨x3, rfl, hz0, hz1, hc3, hb3⟩
    go_wp2_with fail
    refine (l1Byte b sa sl sc _ hc3).mono ?_
    rintro e w4 ⟨x4, rfl, hu0, hu1, hc4, hb4⟩
    go_wp2
    go_ret
    refine ⟨_, rfl, ?_, ?_, hc4, ((hb1.trans hb2).trans hb3).trans hb4⟩
    · first | exact (mod_in hn).1 | exact (rem_in (by omega) hn).1
    · first | exact (mod_in hn).2 | exact (rem_in (by omega) hn).2

theorem l1Once (b : Nat) (sa : Option Addr) (sl sc : Nat) (n : Int) (hn : 1 ≤ n) (hn2 : n ≤ 4294967296) (w : World) (hc : Cur w b sa sl sc) :
    Calls Tryz.prog 42 #[.pointer (some ⟨b, 0, none⟩), .int .i64 n] w fun e w' => ∃ t : Bool, e = .returned (.bool t) ∧ Cur w' b sa sl sc ∧ Beside b w w' := by
  go_enter Tryz.func42, Tryz.ntmps42
  go_wp2_with (go_at_call 75; refine (l1Below b sa sl sc _ hn hn2 _ hc).mono ?_; rintro e w1 ⟨x, rfl, hx0, hx1, hc1, hb1⟩)
  go_ret
  exact ⟨_, rfl, hc1, hb1⟩

theorem besideCell {b : Nat} {w w' : World} (h : Beside b w w') {g j : Nat} {v : Value} (hg : g ≠ b) (hc : w.cell? ⟨g, j, none⟩ = some v) : w'.cell? ⟨g, j, none⟩ = some v := by
  have hz : g < w.heap.size := World.block_lt_of_cell? w ⟨g, j, none⟩ hc
  rw [← hc]
  exact World.cell?_of_block (w := w) (a := ⟨g, j, none⟩) (h.2.2.2.2 g hz hg)
/-- The bytes of a code, told. -/
def CodeZ (w : World) (b : Nat) (sa : Option Addr) (sl : Nat) (zs : List Int) : Prop := ∀ j : Nat, j < sl → ∃ g o : Nat, sa = some ⟨g, o, none⟩ ∧ g < b ∧ w.cell? ⟨g, o + j, none⟩ = some (.int .u8 (zs.getD j 0)) ∧ 0 ≤ zs.getD j 0 ∧ zs.getD j 0 ≤ 255
theorem CodeZ.code {w : World} {b : Nat} {sa : Option Addr} {sl : Nat} {zs : List Int} (h : CodeZ w b sa sl zs) : Code8 w b sa sl := fun j hj => by
  obtain ⟨g, o, h1, h2, h3, h4⟩ := h j hj
  exact ⟨g, o, _, h1, h2, h3, h4⟩
/-- What a walk is told of a slice of bytes that came in: it is nil, or it leads to a row of its bytes. -/
def IsRow (w : World) (a : Option Addr) (len cap : Nat) (zs : List Int) : Prop :=
  (a = none ∧ len = 0 ∧ cap = 0 ∧ zs = []) ∨
  ∃ x, a = some x ∧ len ≤ cap ∧ cap ≤ maxLen ∧ zs.length = cap ∧ (∀ i, i < zs.length → w.cell? (x.add i) = some (.int .u8 (zs.getD i 0))) ∧ ∀ n ∈ zs, (Lit.int .u8 n).wf = true

theorem IsRow.code {w : World} {a : Option Addr} {len cap : Nat} {zs : List Int} (h : IsRow w a len cap zs) : CodeZ w w.heap.size a len zs := by
  intro j hj
  rcases h with ⟨rfl, rfl, _⟩ | ⟨x, rfl, h1, h2, h3, hcell, hwf⟩
  · omega
  · obtain ⟨b, off, rfl, hc⟩ := ints_at hcell (by omega)
    have hj' : j < zs.length := by omega
    have hcj := hc j hj'
    have hg : b < w.heap.size := World.block_lt_of_cell? w ⟨b, off + j, none⟩ hcj
    have hmem : zs.getD j 0 ∈ zs := by
      rw [List.getD_eq_getElem?_getD, List.getElem?_eq_getElem hj']
      exact List.getElem_mem hj'
    have hw := hwf _ hmem
    simp [Lit.wf, IntKind.min, IntKind.max, IntKind.signed, IntKind.bits] at hw
    exact ⟨b, off, rfl, hg, hcj, by simpa using hw.1, by simpa using hw.2⟩

theorem isBig (sa : Option Addr) (sl sc : Nat) (w : World) (h : 4096 < sl) (hl : sl ≤ maxLen) : Calls Tryz.prog 6 #[.slice sa sl sc] w fun e w' => e = .returned (.bool true) ∧ w = w' := by
  unfold maxLen at hl
  have d : decide (4096 < (sl : Int)) = true := by simp; omega
  go_enter Tryz.func6, Tryz.ntmps6
  go_wp2
  go_ret
  exact ⟨rfl, rfl⟩
theorem notBig (sa : Option Addr) (sl sc : Nat) (w : World) (h : sl ≤ 4096) : Calls Tryz.prog 6 #[.slice sa sl sc] w fun e w' => e = .returned (.bool false) ∧ w = w' := by
  have d : decide (4096 < (sl : Int)) = false := by simp; omega
  go_enter Tryz.func6, Tryz.ntmps6
  go_wp2
  go_ret
  exact ⟨rfl, rfl⟩
theorem IsRow.len {w : World} {a : Option Addr} {len cap : Nat} {zs : List Int} (h : IsRow w a len cap zs) : len ≤ maxLen := by
  rcases h with ⟨_, rfl, _⟩ | ⟨_, _, h1, h2, _⟩
  · exact Nat.zero_le _
  · omega
end Go.Proofs.YtemmgfnepdgpbaaGreatDoor
namespace Go.Proofs.YtemmgfnepdgpbaaGreatDoor
open Go.RowKit

theorem byte_back {x : Int} (h0 : 0 ≤ x) (h1 : x ≤ 255) : x = ((UInt8.ofNat x.toNat).toNat : Int) := by
  rw [UInt8.toNat_ofNat', Nat.mod_eq_of_lt (by omega)]
  omega


theorem OwnsB.beside {w w' : World} {B b : Nat} {v : Value} {l : List UInt8} (h : OwnsB w B v l) (hb : Beside b w w') (hB : b < B) : OwnsB w' B v l := by
  refine ⟨h.1, ?_⟩
  rcases h.2 with h0 | ⟨g, cap, cur, hv, hbg, hg, rest⟩
  · exact .inl h0
  · exact .inr ⟨g, cap, cur, hv, hbg, by rw [hb.2.2.2.2 g (Array.getElem?_eq_some_iff.1 hg).1 (by omega)]; exact hg, rest⟩
theorem OwnsB.shape {w : World} {B : Nat} {v : Value} {l : List UInt8} (h : OwnsB w B v l) (hl : 0 < l.length) : ∃ g cap, v = .slice (some ⟨g, 0, none⟩) l.length cap := by
  rcases h.2 with ⟨_, h0⟩ | ⟨g, cap, cur, hv, _⟩
  · omega
  · exact ⟨g, cap, hv⟩
theorem Beside.grow {b B : Nat} {w wr w2 : World} (h : Beside b w wr) (hb : Below B wr w2) (hB : w.heap.size ≤ B) : Beside b w w2 :=
  ⟨hb.os.trans h.1, hb.tape.trans h.2.1, hb.output.trans h.2.2.1, Nat.le_trans h.2.2.2.1 hb.size, fun k hk hg => (hb.block k (by omega)).trans (h.2.2.2.2 k hk hg)⟩
/-- A byte stored into an owned row. -/
theorem OwnsB.put {w : World} {B g cap n : Nat} {l : List UInt8} (hn : n = l.length) (h : OwnsB w B (.slice (some ⟨g, 0, none⟩) n cap) l) (k : Nat) (c : UInt8) : OwnsB (w.setCell ⟨g, k, none⟩ (.int .u8 (c.toNat : Int))) B (.slice (some ⟨g, 0, none⟩) n cap) (l.set k c) := by
  subst hn
  have h2 := (World.ownsRow.stored h k (.int .u8 (c.toNat : Int))).1
  unfold OwnsB
  have e : bytesV (l.set k c) = (bytesV l).set k (.int .u8 (c.toNat : Int)) := by unfold bytesV; rw [List.map_set]
  rw [List.length_set, e]
  exact h2
theorem OwnsB.at {w : World} {B g cap n : Nat} {l : List UInt8} (hn : n = l.length) (h : OwnsB w B (.slice (some ⟨g, 0, none⟩) n cap) l) (j : Nat) (hj : j < l.length) : w.cell? ⟨g, j, none⟩ = some (.int .u8 (l[j].toNat : Int)) ∧ w.frozen? ⟨g, j, none⟩ = false ∧ B ≤ g := by
  subst hn
  refine ⟨?_, World.ownsRow.frozenAt h j, (World.ownsRow.lt h g rfl).1⟩
  rw [World.ownsRow.cellAt h j (by omega)]
  simp [bytesV, hj]
set_option maxHeartbeats 1000000 in
theorem l1DrawText (b : Nat) (sa : Option Addr) (sl sc : Nat) (signs : ByteArray) (most : Nat) (hs1 : 1 ≤ signs.size) (hs2 : signs.size ≤ 1000) (hm : most ≤ 1000) (w : World) (hc : Cur w b sa sl sc) :
    Calls Tryz.prog 41 #[.pointer (some ⟨b, 0, none⟩), .string signs, .int .i64 most] w fun e w' => ∃ t : ByteArray, e = .returned (.string t) ∧ t.size ≤ most ∧ Cur w' b sa sl sc ∧ Beside b w w' := by
  have hbz : b < w.heap.size := hc.2.2.1
  have hc0 : Cur (w.alloc (.cells #[] 5)) b sa sl sc := hc.kept ((Below.refl _ w).alloc (Nat.le_refl _) _) hbz
  clear hc
  go_enter Tryz.func41, Tryz.ntmps41
  go_wp2_with fail
  refine (l1Below b sa sl sc _ (by omega) (by omega) _ hc0).mono ?_
  rintro e w1 ⟨x, rfl, hx0, hx1, hc1, hb1⟩
  have ho1 := (OwnsB.empty w).beside hb1 hbz
  have hb2 : Beside b w w1 := ((Beside.refl b w).below ((Below.refl _ w).alloc (Nat.le_refl _) _)).trans hb1
  obtain ⟨x, rfl⟩ := Int.eq_ofNat_of_zero_le hx0
  clear hb1 hc0
  go_wp2_with fail
  go_loopw [7, 8] (fun v n wr => ∃ (k : Nat) (l : List UInt8) (g cap : Nat), n = .int .i64 k ∧ v = .slice (some ⟨g, 0, none⟩) l.length cap ∧ OwnsB wr w.heap.size (.slice (some ⟨g, 0, none⟩) l.length cap) l ∧ Cur wr b sa sl sc ∧ Beside b w wr ∧ l.length + k ≤ most) (fun _ n _ => (intOf n).toNat)
  case atStart => exact ⟨x, [], w.heap.size, 0, rfl, rfl, ho1, hc1, hb2, by simp; omega⟩
  case round =>
    clear ho1 hc1 hb2
    obtain ⟨k, l, g, cap, rfl, rfl, ho, hc, hb, hlk⟩ := hrel
    by_cases hk : 0 < k
    · go_wp2_with fail
      refine (l1Below b sa sl sc _ (by omega) (by omega) _ hc).mono ?_
      rintro e w2 ⟨y, rfl, hy0, hy1, hc2, hb2⟩
      obtain ⟨y, rfl⟩ := Int.eq_ofNat_of_zero_le hy0
      have ho2 := ho.beside hb2 hbz
      have hb3 := hb.trans hb2
      have hz2 : w.heap.size ≤ w2.heap.size := hb3.2.2.2.1
      have hys : y < signs.size := by omega
      clear ho hc hb hb2
      go_wp2_with (at_builtin; refine wpList_push _ rfl (.tmp 18) (.tmp 25) rfl w.heap.size _ _ _ signs[y] rfl rfl ho2 rfl (by omega) hz2 ?_; intro v3 w3 ho3 hg3)
      go_roundw
      case rel =>
        have hbl : Below w.heap.size w2 w3 := (Below.refl _ w2).grown hg3 hz2 (OwnsB.from ho2)
        obtain ⟨g3, cap3, rfl⟩ := ho3.shape (by simp)
        exact ⟨k - 1, _, g3, cap3, by go_num, rfl, ho3, hc2.kept hbl hbz, hb3.grow hbl (Nat.le_refl _), by simp; omega⟩
      case measure => simp [intOf]; omega
    · obtain rfl : k = 0 := by omega
      go_wp2_with fail
      refine (l1Once b sa sl sc _ (by decide) (by decide) _ hc).mono ?_
      rintro e w2 ⟨t, rfl, hc2, hb2⟩
      have ho2 := ho.beside hb2 hbz
      have hb3 := hb.trans hb2
      clear ho hc hb hb2
      cases t with
      | false =>
        have hback := ho2.text
        go_wp2
        go_ret
        exact ⟨_, rfl, by show l.toArray.size ≤ most; simp; omega, hc2, hb3⟩
      | true =>
        by_cases hl : 0 < l.length
        · go_wp2_with fail
          refine (l1Below b sa sl sc _ (by omega) (by omega) _ hc2).mono ?_
          rintro e w4 ⟨y, rfl, hy0, hy1, hc4, hb4⟩
          obtain ⟨y, rfl⟩ := Int.eq_ofNat_of_zero_le hy0
          have ho4 := ho2.beside hb4 hbz
          have hb5 := hb3.trans hb4
          clear ho2 hc2 hb3 hb4
          go_wp2_with fail
          refine (l1Byte b sa sl sc _ hc4).mono ?_
          rintro e w6 ⟨z, rfl, hz0, hz1, hc6, hb6⟩
          have ho6 := ho4.beside hb6 hbz
          have hb7 := hb5.trans hb6
          clear ho4 hc4 hb5 hb6
          obtain ⟨hcell, hfz, hgB⟩ := ho6.at rfl y (by omega)
          obtain ⟨c, hcz⟩ : ∃ c : UInt8, z = (c.toNat : Int) := ⟨_, byte_back hz0 hz1⟩
          subst hcz
          have ho8 := ho6.put rfl y c
          have hback := ho8.text
          have hbl : Below w.heap.size w6 (w6.setCell ⟨g, y, none⟩ (.int .u8 (c.toNat : Int))) := (Below.refl _ w6).setCell hgB _
          have hc8 := hc6.kept hbl hbz
          have hb8 := hb7.grow hbl (Nat.le_refl _)
          clear ho6 hc6 hb7 hbl ho8
          go_wp2
          go_ret
          exact ⟨_, rfl, by show (l.set y c).toArray.size ≤ most; simp; omega, hc8, hb8⟩
        · have hback := ho2.text
          go_wp2
          go_ret
          exact ⟨_, rfl, by show l.toArray.size ≤ most; simp; omega, hc2, hb3⟩
end Go.Proofs.YtemmgfnepdgpbaaGreatDoor
namespace Go.Proofs.YtemmgfnepdgpbaaGreatDoor
open Go.RowKit Go.Sort
set_option linter.unusedVariables false
set_option linter.unusedSimpArgs false

theorem BlkE.bs {α : Type} {E : Enc α} {w w' : World} {b k : Nat} {x : α} (h : BlkE E w k x) (hb : Beside b w w') (hne : k ≠ b) : BlkE E w' k x := h.same (hb.2.2.2.2 k h.hi hne) hb.2.2.2.1
theorem Cur.more9 {w : World} {b : Nat} {sa : Option Addr} {sl sc : Nat} (h : Cur w b sa sl sc) (o : Obj) : Cur (w.alloc o) b sa sl sc := h.kept ((Below.refl _ w).alloc (Nat.le_refl _) _) h.2.2.1
theorem Beside.more9 {g : Nat} {a w : World} (h : Beside g a w) (o : Obj) : Beside g a (w.alloc o) := h.below ((Below.refl _ w).alloc (Nat.le_refl _) _)
end Go.Proofs.YtemmgfnepdgpbaaGreatDoor
namespace Go.Proofs.YtemmgfnepdgpbaaGreatDoor
open Go Go.RowKit Go.Sort
set_option linter.unusedVariables false

section
variable {P : Program} {ops : Array Oper} {md : Region.Mode} {ι : Type} {C : ι → World → Prop}
/-- It yields the same value in every class. -/
def Tells (P : Program) (ops : Array Oper) (C : ι → World → Prop) (i : Nat) (K : Act → ι → Prop) (a : Act) (c : ι) : Prop :=
  ∃ o v, ops[i]? = some o ∧ (∀ c, YieldsIn P ops (C c) o v a) ∧ K (a.put o.dst v) c
/-- It yields a value and leads into another class. -/
def Makes (P : Program) (ops : Array Oper) (C : ι → World → Prop) (i : Nat) (K : Act → ι → Prop) (a : Act) (c : ι) : Prop :=
  ∃ o, ops[i]? = some o ∧ Region.wanted o (yielded ops a.tmps) = true ∧ ∀ w, C c w → ∃ v w' c', (execOp a.eval o).run P w = .ok (.value v) w' ∧ C c' w' ∧ K (a.put o.dst v) c'
def Fam (P : Program) (md : Region.Mode) (ops : Array Oper) (C : ι → World → Prop) (n : Nat) (L : Array Bool → Act → ι → Prop) : Nat → Array Bool → Act → ι → Prop
  | 0, listed, a, c => L listed a c
  | f + 1, listed, a, c => ¬ Region.ready md ops listed = [] ∧ ∀ i ∈ Region.ready md ops listed, i < n ∧ (Tells P ops C i (fun a' c' => Fam P md ops C n L f (listed.setIfInBounds i true) a' c') a c ∨ Makes P ops C i (fun a' c' => Fam P md ops C n L f (listed.setIfInBounds i true) a' c') a c)
theorem Fam.any {n g : Nat} {L : Array Bool → Act → ι → Prop} {Q : Exit → Act → World → Prop} (hL : ∀ listed a c w, C c w → L listed a c → wpAny P md ops Q g listed a w) :
    ∀ (f : Nat) (listed : Array Bool) (a : Act) (c : ι) (w : World), C c w → Fam P md ops C n L f listed a c → wpAny P md ops Q (f + g) listed a w := by
  intro f
  induction f with
  | zero => intro listed a c w hw h; rw [Nat.zero_add]; exact hL _ _ _ _ hw h
  | succ f ih =>
    intro listed a c w hw h
    rw [show f + 1 + g = (f + g) + 1 by omega]
    refine ⟨fun h0 => absurd h0 h.1, fun i hi => ?_⟩
    rcases (h.2 i hi).2 with ⟨o, v, ho, hy, hK⟩ | ⟨o, ho, hwt, hmk⟩
    · exact wpOp_of_qOp hw (fun a' w' hw' h' => ih _ a' c w' hw' h') ((hy c).qOp ho hK)
    · obtain ⟨v, w', c', hr, hc', hK⟩ := hmk w hw
      unfold wpOp
      rw [ho]
      show if Region.wanted o (yielded ops a.tmps) = true then _ else _
      rw [if_pos hwt]
      refine .inl ?_
      unfold Oper.wp
      rw [hr]
      exact ih _ _ c' w' hc' hK
theorem Fam.first {n i : Nat} {oi : Oper} {v : Value} {L : Array Bool → Act → ι → Prop} (hi : ops[i]? = some oi) (hsel : ∀ (j : Nat) (o : Oper) cs b, ops[j]? = some o → o.op ≠ .select cs b)
    (hs : Region.sinkB md ops n = true) (hc : Region.chainB md ops n = true) (hn : n < ops.size) (hin : i < n) (hdone : ∀ listed a c, L listed a c → ∀ j ∈ Region.ready md ops listed, n ≤ j) :
    ∀ (f : Nat) (listed : Array Bool) (a : Act) (c : ι), HeadInv md ops n listed →
      (∀ j oj, ops[j]? = some oj → j ≠ i → listed.getD j true = false → (∀ e ∈ oj.after, Region.binds md e = true → e.on ≠ i) → oi.apart ops oj = true) →
      i ∈ Region.ready md ops listed → (∀ c, YieldsIn P ops (C c) oi v a) → Fam P md ops C n L f (listed.setIfInBounds i true) (a.put oi.dst v) c → Fam P md ops C n L (f + 1) listed a c := by
  intro f
  induction f with
  | zero =>
    intro listed a c inv _ hr hy H
    refine ⟨fun h => (by rw [h] at hr; cases hr), fun j hj => ⟨ahead_lt hs hc hn inv hin hr hj, ?_⟩⟩
    by_cases hji : j = i
    · subst hji; exact .inl ⟨oi, v, hi, hy, H⟩
    · have h1 := hdone _ _ _ H j (ready_mono hj hji)
      have h2 := ahead_lt hs hc hn inv hin hr hj
      omega
  | succ f ih =>
    intro listed a c inv hfree hr hy H
    have hun := (mem_ready.1 hr).1
    refine ⟨fun h => (by rw [h] at hr; cases hr), fun j hj => ⟨ahead_lt hs hc hn inv hin hr hj, ?_⟩⟩
    by_cases hji : j = i
    · subst hji; exact .inl ⟨oi, v, hi, hy, H⟩
    · have h1 := (H.2 j (ready_mono hj hji)).2
      obtain ⟨hjun, oj, hoj, hall⟩ := mem_ready.1 hj
      have hnot : ∀ e ∈ oj.after, Region.binds md e = true → e.on ≠ i := fun e he hb heq => by
        have h3 := hall e he hb
        rw [heq, getD_both hun] at h3
        cases h3
      obtain ⟨p1, p2, p3⟩ := Oper.apart_spec (hfree j oj hoj hji hjun hnot)
      have hsi : ∀ cs b, oi.op ≠ .select cs b := fun cs b => hsel i oi cs b hi
      have hsj : ∀ cs b, oj.op ≠ .select cs b := fun cs b => hsel j oj cs b hoj
      have keep : ∀ u, ∀ c, YieldsIn P ops (C c) oi v (a.put oj.dst u) := fun u c => (hy c).of_same (execOp_put oi hsi a oj.dst u p3) (wanted_put oi a oj.dst u p3)
      have go : ∀ (u : Value) (c' : ι), Fam P md ops C n L f ((listed.setIfInBounds i true).setIfInBounds j true) ((a.put oi.dst v).put oj.dst u) c' → Fam P md ops C n L (f + 1) (listed.setIfInBounds j true) (a.put oj.dst u) c' := fun u c' h3 => by
        refine ih (listed.setIfInBounds j true) _ c' (inv.set hj (ahead_lt hs hc hn inv hin hr hj)) (fun k ok hk hki hku hno => ?_) (ready_mono hr (Ne.symm hji)) (keep u) ?_
        · refine hfree k ok hk hki ?_ hno
          by_cases hjk : j = k
          · subst hjk; exact hjun
          · rw [getD_set_ne true hjk] at hku; exact hku
        · rw [Array.setIfInBounds_comm _ _ hji, ← Act.put_comm a v u p2]
          exact h3
      rcases h1 with ⟨o, u, ho, hyj, hK⟩ | ⟨o, ho, hwt, hmk⟩
      · have : o = oj := Option.some.inj (ho.symm.trans hoj)
        subst this
        exact .inl ⟨o, u, ho, fun c => (hyj c).of_same (execOp_put o hsj a oi.dst v p1).symm (wanted_put o a oi.dst v p1).symm, go u c hK⟩
      · have : o = oj := Option.some.inj (ho.symm.trans hoj)
        subst this
        refine .inr ⟨o, ho, by rw [← wanted_put o a oi.dst v p1]; exact hwt, fun w hw => ?_⟩
        obtain ⟨u, w', c', hrun, hc', hK⟩ := hmk w hw
        rw [execOp_put o hsj a oi.dst v p1] at hrun
        exact ⟨u, w', c', hrun, hc', go u c' hK⟩
end
end Go.Proofs.YtemmgfnepdgpbaaGreatDoor

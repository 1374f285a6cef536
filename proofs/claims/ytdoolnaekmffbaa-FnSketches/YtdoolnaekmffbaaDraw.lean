/-
  The contracts of the drawing functions: whatever the code, they answer, and what they answer lies in its range.
-/
import Derived.Test.YtdoolnaekmffbaaRows
import Derived.WalkKit
import Derived.WalkSpells
import Derived.Laws.BitsLemmas
import Derived.Laws.Pointers
import Derived.Laws.IdiomStrings
import Derived.Deep.QuietTactic
import Derived.BigQuiet
import Derived.OpenShut
namespace Go.Proofs.Ytdoolnaekmffbaa
open Go.RowKit

theorem i64_and255 (n : Int) : bits .and .i64 n 255 = n % 256 := by
  have h255 : (BitVec.ofInt 64 255).toNat = 2 ^ 8 - 1 := by decide
  have key : (BitVec.ofInt 64 n &&& BitVec.ofInt 64 255).toNat = (n % ((2 ^ 64 : Nat) : Int)).toNat % 2 ^ 8 := by
    rw [BitVec.toNat_and, BitVec.toNat_ofInt, h255, Nat.and_two_pow_sub_one_eq_mod]
  show IntKind.i64.wrap ((BitVec.ofInt 64 n &&& BitVec.ofInt 64 255).toNat : Nat) = n % 256
  rw [key, IntKind.wrap_i64]
  omega
theorem i64_and30 (n : Int) : bits .and .i64 n 1073741823 = n % 1073741824 := by
  have h30 : (BitVec.ofInt 64 1073741823).toNat = 2 ^ 30 - 1 := by decide
  have key : (BitVec.ofInt 64 n &&& BitVec.ofInt 64 1073741823).toNat = (n % ((2 ^ 64 : Nat) : Int)).toNat % 2 ^ 30 := by
    rw [BitVec.toNat_and, BitVec.toNat_ofInt, h30, Nat.and_two_pow_sub_one_eq_mod]
  show IntKind.i64.wrap ((BitVec.ofInt 64 n &&& BitVec.ofInt 64 1073741823).toNat : Nat) = n % 1073741824
  rw [key, IntKind.wrap_i64]
  omega

/-- The bytes of a code that came in: they lie below block b. -/
def Code8 (w : World) (b : Nat) (sa : Option Addr) (sl : Nat) : Prop := ∀ j : Nat, j < sl → ∃ (g o : Nat) (z : Int), sa = some ⟨g, o, none⟩ ∧ g < b ∧ w.cell? ⟨g, o + j, none⟩ = some (.int .u8 z) ∧ 0 ≤ z ∧ z ≤ 255
/-- A cursor in block b over a code. -/
def Cur (w : World) (b : Nat) (sa : Option Addr) (sl sc : Nat) : Prop := (∃ i h : Int, w.cell? ⟨b, 0, none⟩ = some (.slice sa sl sc) ∧ w.cell? ⟨b, 1, none⟩ = some (.int .i64 i) ∧ w.cell? ⟨b, 2, none⟩ = some (.int .i64 h) ∧ 0 ≤ i ∧ i ≤ (sl : Int)) ∧ (∀ j, w.frozen? ⟨b, j, none⟩ = false) ∧ b < w.heap.size ∧ sl ≤ 4096 ∧ Code8 w b sa sl
/-- What holds of every block but g. -/
def Beside (g : Nat) (w w' : World) : Prop := w'.os = w.os ∧ w'.tape = w.tape ∧ w'.output = w.output ∧ w.heap.size ≤ w'.heap.size ∧ ∀ k, k < w.heap.size → k ≠ g → w'.heap[k]? = w.heap[k]?
theorem Beside.refl (g : Nat) (w : World) : Beside g w w := ⟨rfl, rfl, rfl, Nat.le_refl _, fun _ _ _ => rfl⟩
theorem Beside.trans {g : Nat} {a b c : World} (h : Beside g a b) (k : Beside g b c) : Beside g a c :=
  ⟨k.1.trans h.1, k.2.1.trans h.2.1, k.2.2.1.trans h.2.2.1, Nat.le_trans h.2.2.2.1 k.2.2.2.1, fun i hi hg => (k.2.2.2.2 i (Nat.lt_of_lt_of_le hi h.2.2.2.1) hg).trans (h.2.2.2.2 i hi hg)⟩
theorem Beside.put {g : Nat} {a w : World} (h : Beside g a w) (k : Nat) (v : Value) : Beside g a (w.setCell ⟨g, k, none⟩ v) :=
  ⟨h.1, h.2.1, h.2.2.1, by simpa [World.setCell] using h.2.2.2.1, fun j hj hg => (Below.heap_setCell _ _ _ _ hg).trans (h.2.2.2.2 j hj hg)⟩
theorem Beside.below {g : Nat} {a w w' : World} (h : Beside g a w) (hb : Below w.heap.size w w') : Beside g a w' :=
  ⟨hb.os.trans h.1, hb.tape.trans h.2.1, hb.output.trans h.2.2.1, Nat.le_trans h.2.2.2.1 hb.size, fun k hk hg => (hb.block k (by have := h.2.2.2.1; omega)).trans (h.2.2.2.2 k hk hg)⟩
theorem Beside.low {g B : Nat} {w w' : World} (h : Beside g w w') (hB : B ≤ g) (hs : B ≤ w.heap.size) : Below B w w' :=
  ⟨h.1, h.2.1, h.2.2.1, h.2.2.2.1, fun k hk => h.2.2.2.2 k (by omega) (by omega)⟩
theorem Code8.kept {w w' : World} {b B : Nat} {sa : Option Addr} {sl : Nat} (h : Code8 w b sa sl) (hb : Below B w w') (hB : b ≤ B) : Code8 w' b sa sl := by
  intro j hj
  obtain ⟨g, o, z, h1, h2, h3, h4⟩ := h j hj
  exact ⟨g, o, z, h1, h2, (hb.cell (p := ⟨g, o + j, none⟩) (by show g < B; omega)).trans h3, h4⟩
theorem Cur.kept {w w' : World} {b B : Nat} {sa : Option Addr} {sl sc : Nat} (h : Cur w b sa sl sc) (hb : Below B w w') (hB : b < B) : Cur w' b sa sl sc := by
  obtain ⟨⟨i, x, h0, h1, h2, h3⟩, hf, hz, hl, hc⟩ := h
  exact ⟨⟨i, x, (hb.cell (p := ⟨b, 0, none⟩) hB).trans h0, (hb.cell (p := ⟨b, 1, none⟩) hB).trans h1, (hb.cell (p := ⟨b, 2, none⟩) hB).trans h2, h3⟩, fun j => (hb.frozen (p := ⟨b, j, none⟩) hB).trans (hf j), Nat.lt_of_lt_of_le hz hb.size, hl, hc.kept hb (by omega)⟩
/-- The cursor behind two stores. -/
theorem Cur.put {w : World} {b : Nat} {sa : Option Addr} {sl sc : Nat} {i h : Int} (h0 : w.cell? ⟨b, 0, none⟩ = some (.slice sa sl sc)) (h1 : w.cell? ⟨b, 1, none⟩ = some (.int .i64 i)) (h2 : w.cell? ⟨b, 2, none⟩ = some (.int .i64 h)) (hi : 0 ≤ i ∧ i ≤ (sl : Int)) (hf : ∀ j, w.frozen? ⟨b, j, none⟩ = false) (hz : b < w.heap.size) (hl : sl ≤ 4096) (hc : Code8 w b sa sl) (x : Int) :
    Cur (w.setCell ⟨b, 2, none⟩ (.int .i64 x)) b sa sl sc ∧ ∀ y : Int, 0 ≤ y → y ≤ (sl : Int) → Cur ((w.setCell ⟨b, 2, none⟩ (.int .i64 x)).setCell ⟨b, 1, none⟩ (.int .i64 y)) b sa sl sc := by
  have k2 : (w.setCell ⟨b, 2, none⟩ (.int .i64 x)).cell? ⟨b, 2, none⟩ = some (.int .i64 x) := World.cell?_setCell_same _ _ _ h2
  have k1 : (w.setCell ⟨b, 2, none⟩ (.int .i64 x)).cell? ⟨b, 1, none⟩ = some (.int .i64 i) := by rw [World.cell?_setCell_other _ _ _ _ (by simp)]; exact h1
  have k0 : (w.setCell ⟨b, 2, none⟩ (.int .i64 x)).cell? ⟨b, 0, none⟩ = some (.slice sa sl sc) := by rw [World.cell?_setCell_other _ _ _ _ (by simp)]; exact h0
  have kb : Below b w (w.setCell ⟨b, 2, none⟩ (.int .i64 x)) := (Below.refl b w).setCell (Nat.le_refl _) _
  have kz : b < (w.setCell ⟨b, 2, none⟩ (.int .i64 x)).heap.size := by simpa [World.setCell] using hz
  refine ⟨⟨⟨i, x, k0, k1, k2, hi⟩, fun j => by rw [World.frozen?_setCell]; exact hf j, kz, hl, hc.kept kb (Nat.le_refl _)⟩, fun y y0 y1 => ?_⟩
  refine ⟨⟨y, x, ?_, World.cell?_setCell_same _ _ _ k1, ?_, y0, y1⟩, fun j => by rw [World.frozen?_setCell, World.frozen?_setCell]; exact hf j, by simpa [World.setCell] using hz, hl, hc.kept (kb.setCell (Nat.le_refl _) _) (Nat.le_refl _)⟩
  · rw [World.cell?_setCell_other _ _ _ _ (by simp)]; exact k0
  · rw [World.cell?_setCell_other _ _ _ _ (by simp)]; exact k2

theorem Cur.born (w : World) (sa : Option Addr) (sl sc : Nat) (x : Int) (ty : TypeId) (hc : Code8 w w.heap.size sa sl) (hl : sl ≤ 4096) : Cur (w.alloc (.cells #[.slice sa sl sc, .int .i64 0, .int .i64 x] ty)) w.heap.size sa sl sc := by
  refine ⟨⟨0, x, ?_, ?_, ?_, Int.le_refl _, by omega⟩, fun j => ?_, by simp, hl, hc.kept ((Below.refl _ w).alloc (Nat.le_refl _) _) (Nat.le_refl _)⟩
  · rw [World.cell?_alloc_mark]; rfl
  · rw [World.cell?_alloc_mark]; rfl
  · rw [World.cell?_alloc_mark]; rfl
  · rw [World.frozen?_alloc_mark]; simp

set_option maxHeartbeats 400000 in
theorem l1New (sa : Option Addr) (sl sc : Nat) (w : World) (hc : Code8 w w.heap.size sa sl) (hl : sl ≤ 4096) :
    Calls Try.prog 38 #[.slice sa sl sc] w fun e w' => e = .returned (.pointer (some ⟨w.heap.size, 0, none⟩)) ∧ Cur w' w.heap.size sa sl sc ∧ Below w.heap.size w w' := by
  have hand := i64_and30
  go_enter Try.func38, Try.ntmps38
  go_wp2
  go_loop [3, 4] (fun h i => ∃ (k : Nat) (x : Int), k ≤ sl ∧ i = .int .i64 k ∧ h = .int .i64 x ∧ 0 ≤ x ∧ x < 1073741824) (fun _ i => sl - (intOf i).toNat)
  case atStart => exact ⟨0, _, Nat.zero_le _, rfl, rfl, by omega, by omega⟩
  case round =>
    obtain ⟨k, x, hk, rfl, rfl, hx0, hx1⟩ := hrel
    by_cases hlt : k < sl
    · obtain ⟨g, o, z, rfl, hg, hcell, hz0, hz1⟩ := hc k hlt
      clear hc
      go_wp2
      go_round
      case rel => exact ⟨k + 1, _, by omega, by go_num, rfl, by omega, by omega⟩
      case measure => simp [intOf]; omega
    · go_wp2
      go_ret
      exact ⟨rfl, Cur.born w sa sl sc x _ hc hl, (Below.refl _ w).alloc (Nat.le_refl _) _⟩

set_option maxHeartbeats 400000 in
theorem l1Byte (b : Nat) (sa : Option Addr) (sl sc : Nat) (w : World) (hc : Cur w b sa sl sc) :
    Calls Try.prog 57 #[.pointer (some ⟨b, 0, none⟩)] w fun e w' => ∃ x : Int, e = .returned (.int .i64 x) ∧ 0 ≤ x ∧ x ≤ 255 ∧ Cur w' b sa sl sc ∧ Beside b w w' := by
  obtain ⟨⟨i, h, h0, h1, h2, hi0, hi1⟩, hf, hz, hl, hcode⟩ := hc
  have hand := i64_and255
  have f1 := hf 1
  have f2 := hf 2
  have HP := Cur.put h0 h1 h2 ⟨hi0, hi1⟩ hf hz hl hcode
  have HP' : Hid _ := HP
  clear HP
  have HC : Hid (Code8 w b sa sl) := hcode
  clear hcode hf
  by_cases hlt : i < (sl : Int)
  · obtain ⟨g, o, z, rfl, hg, hcell, hz0, hz1⟩ := HC.out i.toNat (by omega)
    have hB : ∀ X, (w.setCell ⟨b, 2, none⟩ X).cell? ⟨g, o + i.toNat, none⟩ = some (.int .u8 z) := fun X => by
      rw [World.cell?_setCell_other _ _ _ _ (by simp <;> omega)]; exact hcell
    clear hcell
    go_enter Try.func57, Try.ntmps57
    go_wp2
    go_quiet (fail)
    go_wp2
    go_quiet (fail)
    go_wp2
    go_quiet (fail)
    go_wp2
    go_ret
    exact ⟨_, rfl, by omega, by omega, (HP'.out _).2 _ (by omega) (by omega), ((Beside.refl b w).put 2 _).put 1 _⟩
  · have hd : decide (i < (sl : Int)) = false := by simpa using hlt
    go_enter Try.func57, Try.ntmps57
    go_wp2
    go_quiet (fail)
    go_wp2
    go_quiet (fail)
    go_wp2
    go_ret
    exact ⟨_, rfl, by omega, by omega, (HP'.out _).1, (Beside.refl b w).put 2 _⟩

theorem rem_in {x n : Int} (hx : 0 ≤ x) (hn : 1 ≤ n) : 0 ≤ x.tmod n ∧ x.tmod n < n := ⟨Int.tmod_nonneg n hx, Int.tmod_lt_of_pos x (by omega)⟩
theorem mod_in {x n : Int} (hn : 1 ≤ n) : 0 ≤ x % n ∧ x % n < n := ⟨Int.emod_nonneg x (by omega), Int.emod_lt_of_pos x (by omega)⟩

set_option maxHeartbeats 400000 in
theorem l1Below (b : Nat) (sa : Option Addr) (sl sc : Nat) (n : Int) (hn : 1 ≤ n) (hn2 : n ≤ 4294967296) (w : World) (hc : Cur w b sa sl sc) :
    Calls Try.prog 42 #[.pointer (some ⟨b, 0, none⟩), .int .i64 n] w fun e w' => ∃ x : Int, e = .returned (.int .i64 x) ∧ 0 ≤ x ∧ x < n ∧ Cur w' b sa sl sc ∧ Beside b w w' := by
  have hnz : (n == 0) = false := by simp; omega
  by_cases hs : n ≤ 256
  · go_enter Try.func42, Try.ntmps42
    go_wp2_with (go_at_call 57; refine (l1Byte b sa sl sc _ hc).mono ?_; rintro e w1 ⟨x, rfl, hx0, hx1, hc1, hb1⟩)
    go_ret
    refine ⟨_, rfl, ?_, ?_, hc1, hb1⟩
    · first | exact (mod_in hn).1 | exact (rem_in hx0 hn).1
    · first | exact (mod_in hn).2 | exact (rem_in hx0 hn).2
  · go_enter Try.func42, Try.ntmps42
    go_wp2_with fail
    refine (l1Byte b sa sl sc _ hc).mono ?_
    rintro e w1 ⟨x1, rfl, hx0, hx1, hc1, hb1⟩
    go_wp2_with fail
    refine (l1Byte b sa sl sc _ hc1).mono ?_
    rintro e w2 ⟨x2, rfl, hy0, hy1, hc2, hb2⟩
    go_wp2_with fail
    refine (l1Byte b sa sl sc _ hc2).mono ?_
    rintro e w3 ⟨x3, rfl, hz0, hz1, hc3, hb3⟩
    go_wp2_with fail
    refine (l1Byte b sa sl sc _ hc3).mono ?_
    rintro e w4 ⟨x4, rfl, hu0, hu1, hc4, hb4⟩
    go_wp2
    go_ret
    refine ⟨_, rfl, ?_, ?_, hc4, ((hb1.trans hb2).trans hb3).trans hb4⟩
    · first | exact (mod_in hn).1 | exact (rem_in (by omega) hn).1
    · first | exact (mod_in hn).2 | exact (rem_in (by omega) hn).2

theorem l1Once (b : Nat) (sa : Option Addr) (sl sc : Nat) (n : Int) (hn : 1 ≤ n) (hn2 : n ≤ 4294967296) (w : World) (hc : Cur w b sa sl sc) :
    Calls Try.prog 41 #[.pointer (some ⟨b, 0, none⟩), .int .i64 n] w fun e w' => ∃ t : Bool, e = .returned (.bool t) ∧ Cur w' b sa sl sc ∧ Beside b w w' := by
  go_enter Try.func41, Try.ntmps41
  go_wp2_with (go_at_call 42; refine (l1Below b sa sl sc _ hn hn2 _ hc).mono ?_; rintro e w1 ⟨x, rfl, hx0, hx1, hc1, hb1⟩)
  go_ret
  exact ⟨_, rfl, hc1, hb1⟩

theorem besideCell {b : Nat} {w w' : World} (h : Beside b w w') {g j : Nat} {v : Value} (hg : g ≠ b) (hc : w.cell? ⟨g, j, none⟩ = some v) : w'.cell? ⟨g, j, none⟩ = some v := by
  have hz : g < w.heap.size := World.block_lt_of_cell? w ⟨g, j, none⟩ hc
  rw [← hc]
  exact World.cell?_of_block (w := w) (a := ⟨g, j, none⟩) (h.2.2.2.2 g hz hg)
/-- The bytes of a code, told. -/
def CodeZ (w : World) (b : Nat) (sa : Option Addr) (sl : Nat) (zs : List Int) : Prop := ∀ j : Nat, j < sl → ∃ g o : Nat, sa = some ⟨g, o, none⟩ ∧ g < b ∧ w.cell? ⟨g, o + j, none⟩ = some (.int .u8 (zs.getD j 0)) ∧ 0 ≤ zs.getD j 0 ∧ zs.getD j 0 ≤ 255
theorem CodeZ.code {w : World} {b : Nat} {sa : Option Addr} {sl : Nat} {zs : List Int} (h : CodeZ w b sa sl zs) : Code8 w b sa sl := fun j hj => by
  obtain ⟨g, o, h1, h2, h3, h4⟩ := h j hj
  exact ⟨g, o, _, h1, h2, h3, h4⟩
/-- What a walk is told of a slice of bytes that came in: it is nil, or it leads to a row of its bytes. -/
def IsRow (w : World) (a : Option Addr) (len cap : Nat) (zs : List Int) : Prop :=
  (a = none ∧ len = 0 ∧ cap = 0 ∧ zs = []) ∨
  ∃ x, a = some x ∧ len ≤ cap ∧ cap ≤ maxLen ∧ zs.length = cap ∧ (∀ i, i < zs.length → w.cell? (x.add i) = some (.int .u8 (zs.getD i 0))) ∧ ∀ n ∈ zs, (Lit.int .u8 n).wf = true

theorem IsRow.code {w : World} {a : Option Addr} {len cap : Nat} {zs : List Int} (h : IsRow w a len cap zs) : CodeZ w w.heap.size a len zs := by
  intro j hj
  rcases h with ⟨rfl, rfl, _⟩ | ⟨x, rfl, h1, h2, h3, hcell, hwf⟩
  · omega
  · obtain ⟨b, off, rfl, hc⟩ := ints_at hcell (by omega)
    have hj' : j < zs.length := by omega
    have hcj := hc j hj'
    have hg : b < w.heap.size := World.block_lt_of_cell? w ⟨b, off + j, none⟩ hcj
    have hmem : zs.getD j 0 ∈ zs := by
      rw [List.getD_eq_getElem?_getD, List.getElem?_eq_getElem hj']
      exact List.getElem_mem hj'
    have hw := hwf _ hmem
    simp [Lit.wf, IntKind.min, IntKind.max, IntKind.signed, IntKind.bits] at hw
    exact ⟨b, off, rfl, hg, hcj, by simpa using hw.1, by simpa using hw.2⟩

theorem isBig (sa : Option Addr) (sl sc : Nat) (w : World) (h : 4096 < sl) (hl : sl ≤ maxLen) : Calls Try.prog 10 #[.slice sa sl sc] w fun e w' => e = .returned (.bool true) ∧ w = w' := by
  unfold maxLen at hl
  have d : decide (4096 < (sl : Int)) = true := by simp; omega
  go_enter Try.func10, Try.ntmps10
  go_wp2
  go_ret
  exact ⟨rfl, rfl⟩
theorem notBig (sa : Option Addr) (sl sc : Nat) (w : World) (h : sl ≤ 4096) : Calls Try.prog 10 #[.slice sa sl sc] w fun e w' => e = .returned (.bool false) ∧ w = w' := by
  have d : decide (4096 < (sl : Int)) = false := by simp; omega
  go_enter Try.func10, Try.ntmps10
  go_wp2
  go_ret
  exact ⟨rfl, rfl⟩
theorem IsRow.len {w : World} {a : Option Addr} {len cap : Nat} {zs : List Int} (h : IsRow w a len cap zs) : len ≤ maxLen := by
  rcases h with ⟨_, rfl, _⟩ | ⟨_, _, h1, h2, _⟩
  · exact Nat.zero_le _
  · omega
end Go.Proofs.Ytdoolnaekmffbaa

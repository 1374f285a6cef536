/-
  A row of bytes that a call makes, writes into and cuts; and append of a part of such a row, as one step of a region that draws.
  A text bent in a few places: whatever is drawn, some text not much longer.
  Drawn control and texts of it: whatever the code, some control, two of them, a short text.
  Drawn requests' fields for policy.
-/
import Derived.Test.YtnachhmhjodbhaaGreatDoorG33
import Derived.Lib.OthersKept
import Derived.Deep.RegionLaw
import Derived.Laws.Strings
import Derived.Deep.LoopGhost
import Derived.Deep.RegionWith
import Derived.Test.YtnachhmhjodbhaaGreatDoorG34
import Derived.Test.YtnachhmhjodbhaaGreatDoorG32
namespace Go.Proofs.YtnachhmhjodbhaaGreatDoor
open Go.RowKit

/-- A row of bytes l in a block from B on, which v is. -/
def Rw (w : World) (B : Nat) (v : Value) (l : List UInt8) : Prop := ∃ g cap, v = .slice (some ⟨g, 0, none⟩) l.length cap ∧ B ≤ g ∧ g < w.heap.size ∧ l.length ≤ cap ∧ cap ≤ maxLen ∧ RowIs w g l
theorem RowIs.same {w w' : World} {g : Nat} {l : List UInt8} (h : RowIs w g l) (hb : w'.heap[g]? = w.heap[g]?) : RowIs w' g l := fun j hj =>
  ⟨(World.cell?_of_block (w := w) (a := ⟨g, j, none⟩) hb).trans (h j hj).1, (World.frozen?_of_block (w := w) (a := ⟨g, j, none⟩) hb).trans (h j hj).2⟩
theorem Rw.beside {w w' : World} {B b : Nat} {v : Value} {l : List UInt8} (h : Rw w B v l) (hb : Beside b w w') (hB : b < B) : Rw w' B v l := by
  obtain ⟨g, cap, rfl, h1, h2, h3, h4, h5⟩ := h
  exact ⟨g, cap, rfl, h1, Nat.lt_of_lt_of_le h2 hb.2.2.2.1, h3, h4, h5.same (hb.2.2.2.2 g h2 (by omega))⟩
theorem RowIs.take {w : World} {g : Nat} {l : List UInt8} (h : RowIs w g l) (k : Nat) : RowIs w g (l.take k) := fun j hj => by
  have hj' : j < l.length := by rw [List.length_take] at hj; omega
  have := h j hj'
  rw [List.getElem_take]
  exact this
theorem Rw.text {w : World} {B : Nat} {v : Value} {l : List UInt8} (h : Rw w B v l) : (convert 22 9 v).run Tryz.prog w = .ok (.string ⟨l.toArray⟩) w := by
  obtain ⟨g, cap, rfl, h1, h2, h3, h4, h5⟩ := h
  exact run_convert_bytes_back (P := Tryz.prog) w 22 9 5 ⟨g, 0, none⟩ cap l Tryz.underlying22 Tryz.underlying5 Tryz.underlying9 (fun j hj => by
    rw [addr_add, Nat.zero_add]
    exact (h5 j hj).1)
theorem Rw.of {w : World} {B : Nat} {v : Value} {l : List UInt8} (h : OwnsB w B v l) (hv : v ≠ .slice none 0 0) : Rw w B v l := by
  have hh := h
  rcases h.2 with ⟨h0, _⟩ | ⟨g, cap, cur, rfl, hb, hg, hc, hm, rest⟩
  · exact absurd h0 hv
  · refine ⟨g, cap, rfl, hb, (Array.getElem?_eq_some_iff.1 hg).1, hc, hm, fun j hj => ⟨?_, World.ownsRow.frozenAt hh j⟩⟩
    have := World.ownsRow.cells hh (g := g) rfl j (.int .u8 (l[j].toNat : Int)) (by simp [bytesV, hj])
    rw [addr_add, Nat.zero_add] at this
    exact this
end Go.Proofs.YtnachhmhjodbhaaGreatDoor
namespace Go.Proofs.YtnachhmhjodbhaaGreatDoor
open Go.RowKit

theorem Rw.low {w : World} {B B' : Nat} {v : Value} {l : List UInt8} (h : Rw w B v l) (hB : B' ≤ B) : Rw w B' v l := by
  obtain ⟨g, cap, rfl, h1, h2, h3, h4, h5⟩ := h
  exact ⟨g, cap, rfl, by omega, h2, h3, h4, h5⟩
end Go.Proofs.YtnachhmhjodbhaaGreatDoor
namespace Go.Proofs.YtnachhmhjodbhaaGreatDoor
open Go.RowKit Go.Sort
set_option linter.unusedVariables false
set_option linter.unusedSimpArgs false

def isT9 (n : Nat) (v : Value) : Bool := match v with | .string s => decide (s.size ≤ n) | _ => false
theorem isT9_out {n : Nat} {v : Value} (h : isT9 n v = true) : ∃ s : ByteArray, v = .string s ∧ s.size ≤ n := by
  unfold isT9 at h
  split at h
  · exact ⟨_, rfl, of_decide_eq_true h⟩
  · cases h
theorem tabT9 {b : Nat} {w w' : World} {C : Array Value} {t : TypeId} (n : Nat) (hb : Beside b (w.alloc (.cells C t)) w') (hne : w.heap.size ≠ b) (y : Nat) (hy : y < C.size) (hall : C.toList.all (isT9 n) = true) : ∃ s : ByteArray, w'.cell? ⟨w.heap.size, y, Option.none⟩ = some (.string s) ∧ s.size ≤ n := by
  have hm : C[y] ∈ C.toList := by simp
  obtain ⟨s, hz, hs⟩ := isT9_out (List.all_eq_true.1 hall _ hm)
  refine ⟨s, besideCell hb hne ?_, hs⟩
  rw [World.cell?_alloc_mark, Array.getElem?_eq_getElem hy, hz]
set_option maxRecDepth 100000 in
set_option maxHeartbeats 4000000 in
theorem l9DrawText (b : Nat) (sa : Option Addr) (sl sc : Nat) (w : World) (hc : Cur w b sa sl sc) :
    Calls Tryz.prog 117 #[.pointer (some ⟨b, 0, Option.none⟩)] w fun e w' => (∃ s : ByteArray, e = .returned (.string s) ∧ s.size ≤ 84) ∧ Cur w' b sa sl sc ∧ Beside b w w' := by
  have hbz : b < w.heap.size := hc.2.2.1
  go_enter Tryz.func117, Tryz.ntmps117
  go_wp2_with fail
  refine (l1Below b sa sl sc 5 (by decide) (by decide) _ hc).mono ?_
  rintro e w1 ⟨x, rfl, hx0, hx1, hc1, hb1⟩
  obtain ⟨x, rfl⟩ := Int.eq_ofNat_of_zero_le hx0
  have C1 : Hid (Cur w1 b sa sl sc) := hc1
  have B1 : Hid (Beside b w w1) := hb1
  clear hb1 hc hc1
  go_wp2_with fail
  go_loopw [3, 4] (fun u n wr => ∃ (k : Nat) (s : ByteArray), n = .int .i64 k ∧ u = .string s ∧ s.size + 21 * k ≤ 84 ∧ Hid (Cur wr b sa sl sc) ∧ Hid (Beside b w wr)) (fun _ n _ => (intOf n).toNat)
  case atStart => exact ⟨x, ⟨#[]⟩, rfl, rfl, by show 0 + _ ≤ _; omega, C1, B1⟩
  case round =>
    clear C1 B1
    obtain ⟨k, s, rfl, rfl, hz, hc, hb⟩ := hrel
    by_cases hk : 0 < k
    · have hbr : b < wr.heap.size := hc.out.2.2.1
      go_wp2_with fail
      refine (l1Below b sa sl sc 13 (by decide) (by decide) _ (hc.out.more9 _)).mono ?_
      rintro e w2 ⟨y, rfl, hy0, hy1, hc2, hb2⟩
      obtain ⟨y, rfl⟩ := Int.eq_ofNat_of_zero_le hy0
      obtain ⟨t, ht, htz⟩ := tabT9 19 hb2 (by omega) y (by simp; omega) (by decide)
      have C2 : Hid (Cur w2 b sa sl sc) := hc2
      have B2 : Hid (Beside b w w2) := (hb.out.more9 _).trans hb2
      have y1 : (s ++ t).size = s.size + t.size := ByteArray.size_append
      have y2 : (s ++ t ++ (⟨#[44, 32]⟩ : ByteArray)).size = s.size + t.size + 2 := by rw [ByteArray.size_append, y1]; rfl
      clear hb2 hc2 hc hb
      go_wp2
      go_roundw
      case rel => exact ⟨k - 1, _, by go_num, rfl, by rw [y2]; omega, C2, B2⟩
      case measure => simp [intOf]; omega
    · go_wp2
      go_ret
      exact ⟨⟨s, rfl, by omega⟩, hc.out, hb.out⟩
end Go.Proofs.YtnachhmhjodbhaaGreatDoor
namespace Go.Proofs.YtnachhmhjodbhaaGreatDoor
open Go.RowKit Go.Sort
set_option linter.unusedVariables false

theorem OwnsF.beside10 {w w' : World} {B b : Nat} {v : Value} {l : List Fl} (h : OwnsF w B v l) (hb : Beside b w w') (hB : b < B) : OwnsF w' B v l := by
  refine ⟨h.1, ?_⟩
  rcases h.2 with h0 | ⟨g, cap, cur, hv, hbg, hg, rest⟩
  · exact .inl h0
  · exact .inr ⟨g, cap, cur, hv, hbg, (hb.2.2.2.2 g (Array.getElem?_eq_some_iff.1 hg).1 (by omega)).trans hg, rest⟩
theorem Beside.grown10 {b : Nat} {w x y : World} {r : Option Nat} (h : Beside b w x) (hg : x.grownBy y r) (hr : ∀ k, r = some k → w.heap.size ≤ k) : Beside b w y :=
  ⟨hg.os.trans h.1, hg.tape.trans h.2.1, hg.output.trans h.2.2.1, Nat.le_trans h.2.2.2.1 hg.size, fun k hk hne => (hg.block k (Nat.lt_of_lt_of_le hk h.2.2.2.1) (fun e => by have := hr k e.symm; omega)).trans (h.2.2.2.2 k hk hne)⟩
theorem grown_low10 {x y : World} {r : Option Nat} {B : Nat} (hg : x.grownBy y r) (hr : ∀ k, r = some k → B ≤ k) (hB : B ≤ x.heap.size) : Below B x y :=
  ⟨hg.os, hg.tape, hg.output, hg.size, fun k hk => hg.block k (by omega) (fun e => by have := hr k e.symm; omega)⟩
def FewF (n : Nat) (l : List Fl) : Prop := l.length ≤ n ∧ ∀ f ∈ l, f.1.size ≤ 13 ∧ f.2.size ≤ 84
/-- The fields that are drawn for a request. -/
def askL : List Fl := [(⟨#[99, 97, 99, 104, 101, 45, 99, 111, 110, 116, 114, 111, 108]⟩, ⟨#[109, 97, 120, 45, 115, 116, 97, 108, 101, 61, 53]⟩), (⟨#[99, 97, 99, 104, 101, 45, 99, 111, 110, 116, 114, 111, 108]⟩, ⟨#[110, 111, 45, 99, 97, 99, 104, 101]⟩), (⟨#[99, 97, 99, 104, 101, 45, 99, 111, 110, 116, 114, 111, 108]⟩, ⟨#[109, 97, 120, 45, 97, 103, 101, 61, 49, 50]⟩), (⟨#[97, 99, 99, 101, 112, 116]⟩, ⟨#[49]⟩), (⟨#[97]⟩, ⟨#[50]⟩), (⟨#[97, 117, 116, 104, 111, 114, 105, 122, 97, 116, 105, 111, 110]⟩, ⟨#[120]⟩), (⟨#[120, 45, 98]⟩, ⟨#[]⟩)]
def askC : Array Value := #[.string ⟨#[99, 97, 99, 104, 101, 45, 99, 111, 110, 116, 114, 111, 108]⟩, .string ⟨#[109, 97, 120, 45, 115, 116, 97, 108, 101, 61, 53]⟩, .string ⟨#[99, 97, 99, 104, 101, 45, 99, 111, 110, 116, 114, 111, 108]⟩, .string ⟨#[110, 111, 45, 99, 97, 99, 104, 101]⟩, .string ⟨#[99, 97, 99, 104, 101, 45, 99, 111, 110, 116, 114, 111, 108]⟩, .string ⟨#[109, 97, 120, 45, 97, 103, 101, 61, 49, 50]⟩, .string ⟨#[97, 99, 99, 101, 112, 116]⟩, .string ⟨#[49]⟩, .string ⟨#[97]⟩, .string ⟨#[50]⟩, .string ⟨#[97, 117, 116, 104, 111, 114, 105, 122, 97, 116, 105, 111, 110]⟩, .string ⟨#[120]⟩, .string ⟨#[120, 45, 98]⟩, .string ⟨#[]⟩]
theorem tabA10 {b : Nat} {w w' : World} {C : Array Value} {t : TypeId} (hb : Beside b (w.alloc (.cells C t)) w') (hne : w.heap.size ≠ b) (hC : C = askC) (y : Nat) (hy : y < 7) : ∃ t1 t2 : ByteArray, (t1, t2) ∈ askL ∧ (t1.size ≤ 13 ∧ t2.size ≤ 13) ∧ w'.cell? ⟨w.heap.size, y * 2, Option.none⟩ = some (.string t1) ∧ w'.cell? ⟨w.heap.size, y * 2 + 1, Option.none⟩ = some (.string t2) := by
  subst hC
  have k : ∀ (j : Nat) (v : Value), askC[j]? = some v → w'.cell? ⟨w.heap.size, j, Option.none⟩ = some v := fun j v hj => besideCell hb hne (by rw [World.cell?_alloc_mark]; exact hj)
  rcases (show y = 0 ∨ y = 1 ∨ y = 2 ∨ y = 3 ∨ y = 4 ∨ y = 5 ∨ y = 6 by omega) with rfl | rfl | rfl | rfl | rfl | rfl | rfl
  · exact ⟨⟨#[99, 97, 99, 104, 101, 45, 99, 111, 110, 116, 114, 111, 108]⟩, ⟨#[109, 97, 120, 45, 115, 116, 97, 108, 101, 61, 53]⟩, by unfold askL; simp, by decide, k _ _ rfl, k _ _ rfl⟩
  · exact ⟨⟨#[99, 97, 99, 104, 101, 45, 99, 111, 110, 116, 114, 111, 108]⟩, ⟨#[110, 111, 45, 99, 97, 99, 104, 101]⟩, by unfold askL; simp, by decide, k _ _ rfl, k _ _ rfl⟩
  · exact ⟨⟨#[99, 97, 99, 104, 101, 45, 99, 111, 110, 116, 114, 111, 108]⟩, ⟨#[109, 97, 120, 45, 97, 103, 101, 61, 49, 50]⟩, by unfold askL; simp, by decide, k _ _ rfl, k _ _ rfl⟩
  · exact ⟨⟨#[97, 99, 99, 101, 112, 116]⟩, ⟨#[49]⟩, by unfold askL; simp, by decide, k _ _ rfl, k _ _ rfl⟩
  · exact ⟨⟨#[97]⟩, ⟨#[50]⟩, by unfold askL; simp, by decide, k _ _ rfl, k _ _ rfl⟩
  · exact ⟨⟨#[97, 117, 116, 104, 111, 114, 105, 122, 97, 116, 105, 111, 110]⟩, ⟨#[120]⟩, by unfold askL; simp, by decide, k _ _ rfl, k _ _ rfl⟩
  · exact ⟨⟨#[120, 45, 98]⟩, ⟨#[]⟩, by unfold askL; simp, by decide, k _ _ rfl, k _ _ rfl⟩
set_option maxRecDepth 100000 in
set_option maxHeartbeats 4000000 in
theorem l10DrawAsksN (b : Nat) (sa : Option Addr) (sl sc : Nat) (w : World) (hc : Cur w b sa sl sc) :
    Calls Tryz.prog 27 #[.pointer (some ⟨b, 0, Option.none⟩)] w fun e w' => (∃ u l, e = .returned u ∧ OwnsF w' w.heap.size u l ∧ FewF 2 l ∧ ∀ f ∈ l, f ∈ askL) ∧ Cur w' b sa sl sc ∧ Beside b w w' := by
  have hbz : b < w.heap.size := hc.2.2.1
  have hb0 := (Below.refl w.heap.size w).alloc (Nat.le_refl _) (.cells #[] 41)
  go_enter Tryz.func27, Tryz.ntmps27
  go_wp2_with fail
  refine (l1Below b sa sl sc 3 (by decide) (by decide) (w.alloc (.cells #[] 41)) (hc.kept hb0 hbz)).mono ?_
  rintro e w1 ⟨z, rfl, hz0, hz1, hc1, hb1⟩
  obtain ⟨m, rfl⟩ : ∃ m : Nat, z = m := ⟨z.toNat, by omega⟩
  have ho1 := (OwnsF.born w).beside10 hb1 hbz
  have hbs1 := ((Beside.refl b w).below hb0).trans hb1
  go_wp2_with fail
  go_loopw [3, 4] (fun u i wr => ∃ (k : Nat) (l : List Fl), i = .int .i64 k ∧ l.length + k ≤ 2 ∧ Hid (∀ f ∈ l, f.1.size ≤ 13 ∧ f.2.size ≤ 84) ∧ Hid (∀ f ∈ l, f ∈ askL) ∧ Hid (OwnsF wr w.heap.size u l) ∧ Hid (Cur wr b sa sl sc) ∧ Hid (Beside b w wr)) (fun _ i _ => (intOf i).toNat)
  case atStart => exact ⟨m, [], rfl, by simp; omega, (fun f hf => by cases hf), (fun f hf => by cases hf), ho1, hc1, hbs1⟩
  case round =>
    clear ho1 hc1 hbs1 hb1
    obtain ⟨k, l, rfl, hlk, hsm, hsa, hown, hcur, hbes⟩ := hrel
    by_cases hk : 0 < k
    · have hbr : b < wr.heap.size := hcur.out.2.2.1
      go_wp2_with fail
      refine (l1Below b sa sl sc 7 (by decide) (by decide) _ (hcur.out.more9 _)).mono ?_
      rintro e w2 ⟨y, rfl, hy0, hy1, hc2, hb2⟩
      obtain ⟨y, rfl⟩ := Int.eq_ofNat_of_zero_le hy0
      obtain ⟨t1, t2, hmem, ⟨hz1, hz2⟩, ht1, ht2⟩ := tabA10 hb2 (by omega) rfl y (by omega)
      have M2 : Hid ((t1, t2) ∈ askL) := hmem
      clear hmem
      have C2 : Hid (Cur w2 b sa sl sc) := hc2
      have B2 : Hid (Beside b w w2) := (hbes.out.more9 _).trans hb2
      have O2 : Hid (OwnsF w2 w.heap.size _ l) := (hown.out.alloc _).beside10 hb2 hbz
      clear hb2 hc2 hcur hbes hown
      go_wp2_with (at_builtin; refine wpList_pushF _ rfl (.tmp 12) (.tmp 25) rfl w.heap.size _ _ (t1, t2) rfl O2.out rfl (by omega) B2.out.2.2.2.1 ?_; intro v3 w3 ho3 hg3)
      have O3 : Hid (OwnsF w3 w.heap.size v3 (l ++ [(t1, t2)])) := ho3
      have B3 : Hid (Beside b w w3) := B2.out.grown10 hg3 (OwnsF.from O2.out)
      have C3 : Hid (Cur w3 b sa sl sc) := C2.out.kept (grown_low10 hg3 (OwnsF.from O2.out) B2.out.2.2.2.1) hbz
      have S3 : Hid (∀ f ∈ l ++ [(t1, t2)], f.1.size ≤ 13 ∧ f.2.size ≤ 84) := fun g hg => by
        rcases List.mem_append.1 hg with hg | hg
        · exact hsm.out g hg
        · rw [List.mem_singleton.1 hg]; exact ⟨hz1, by show t2.size ≤ 84; omega⟩
      have A3 : Hid (∀ f ∈ l ++ [(t1, t2)], f ∈ askL) := fun g hg => by
        rcases List.mem_append.1 hg with hg | hg
        · exact hsa.out g hg
        · rw [List.mem_singleton.1 hg]; exact M2.out
      clear ho3 hg3 O2 B2 C2 hsm hsa M2 ht1 ht2
      go_roundw
      case rel => exact ⟨k - 1, l ++ [(t1, t2)], by go_num, by simp; omega, S3, A3, O3, C3, B3⟩
      case measure => simp [intOf]; omega
    · go_wp2
      go_ret
      exact ⟨⟨_, l, rfl, hown.out, ⟨by omega, hsm.out⟩, hsa.out⟩, hcur.out, hbes.out⟩
theorem l10DrawAsks (b : Nat) (sa : Option Addr) (sl sc : Nat) (w : World) (hc : Cur w b sa sl sc) :
    Calls Tryz.prog 27 #[.pointer (some ⟨b, 0, Option.none⟩)] w fun e w' => (∃ u l, e = .returned u ∧ OwnsF w' w.heap.size u l ∧ FewF 2 l) ∧ Cur w' b sa sl sc ∧ Beside b w w' :=
  (l10DrawAsksN b sa sl sc w hc).mono fun e w' ⟨⟨u, l, h1, h2, h3, _⟩, h4, h5⟩ => ⟨⟨u, l, h1, h2, h3⟩, h4, h5⟩
end Go.Proofs.YtnachhmhjodbhaaGreatDoor

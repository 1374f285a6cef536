/-
  The contracts of the law's own helpers: slices of texts compared, marked, and asked for their marks.
-/
import Derived.Test.YtccnkmffadmfhaaGreatDoorItm
import Derived.Deep.QuietTactic
import Derived.BigQuiet
import Derived.Deep.RegionWith
import Derived.Laws.IdiomStrings
namespace Go.Proofs.YtccnkmffadmfhaaGreatDoor
open Go.RowKit

/-- What a walk reads of an owned slice of texts. -/
theorem OwnsS.at {w : World} {B g n cap : Nat} {l : List ByteArray} (h : OwnsS w B (.slice (some ⟨g, 0, none⟩) n cap) l) (hn : n = l.length) : ∀ j (hj : j < l.length), w.cell? ⟨g, j, none⟩ = some (.string l[j]) := by
  intro j hj
  subst hn
  have := World.ownsRow.cellAt h.2 j (by omega)
  rw [this]
  simp [hj]

/-- The decimal digit. -/
def decB (d : Nat) : UInt8 := UInt8.ofNat (48 + d)
/-- The decimal digits of n, none of 0. -/
def decF : Nat → Nat → List UInt8
  | 0, _ => []
  | f + 1, n => if n = 0 then [] else decF f (n / 10) ++ [decB (n % 10)]
theorem decF_zero (f : Nat) : decF f 0 = [] := by cases f <;> simp [decF]
theorem decF_step (f n : Nat) (h : 0 < n) : decF (f + 1) n = decF f (n / 10) ++ [decB (n % 10)] := by simp [decF]; omega
/-- The mark of number n. -/
def mkT (n : Nat) : ByteArray := ⟨(109 :: decF 20 n).toArray⟩
theorem dec_more {n m f : Nat} {x : ByteArray} (hm : m < 10 ^ f) (h0 : 0 < m) (h : decF 20 n = decF f m ++ x.data.toList) : ∃ f', m / 10 < 10 ^ f' ∧ decF 20 n = decF f' (m / 10) ++ (decB (m % 10) :: x.data.toList) := by
  cases f with
  | zero => simp at hm; omega
  | succ f =>
    refine ⟨f, ?_, ?_⟩
    · rw [Nat.pow_succ] at hm
      exact Nat.div_lt_of_lt_mul (by rw [Nat.mul_comm]; exact hm)
    · rw [h, decF_step f m h0]
      simp
theorem dec_byte (m : Nat) : (48 + (m : Int) % 10) = ((decB (m % 10)).toNat : Int) := by
  have h : (decB (m % 10)).toNat = 48 + m % 10 := by
    unfold decB
    rw [UInt8.toNat_ofNat']
    exact Nat.mod_eq_of_lt (by omega)
  rw [h]
  omega
theorem byte_text (w : World) (n : Int) (c : UInt8) (h : n = (c.toNat : Int)) : (convert 22 9 (.slice (some ⟨w.heap.size, 0, none⟩) 1 1)).run Tryz.prog (w.alloc (.cells #[.int .u8 n] 5)) = .ok (.string ⟨#[c]⟩) (w.alloc (.cells #[.int .u8 n] 5)) := by
  subst h
  refine run_convert_bytes_back (P := Tryz.prog) _ 22 9 5 ⟨w.heap.size, 0, none⟩ 1 [c] Tryz.underlying22 Tryz.underlying5 Tryz.underlying9 (fun q hq => ?_)
  have e : q = 0 := by simp at hq; exact hq
  subst e
  show (w.alloc (.cells #[.int .u8 (c.toNat : Int)] 5)).cell? ⟨w.heap.size, 0, none⟩ = _
  rw [World.cell?_alloc_mark]
  rfl
theorem cat_cons (c : UInt8) (x : ByteArray) : ((⟨#[c]⟩ : ByteArray) ++ x).data.toList = c :: x.data.toList := by
  rw [ByteArray.data_append, Array.toList_append]; rfl
theorem size_cat (c : UInt8) (x : ByteArray) : ((⟨#[c]⟩ : ByteArray) ++ x).size = x.size + 1 := by
  rw [ByteArray.size_append]
  show 1 + x.size = x.size + 1
  omega
theorem mkT_is {n : Nat} {x : ByteArray} (h : decF 20 n = x.data.toList) : (⟨#[109]⟩ : ByteArray) ++ x = mkT n := by
  apply ext_bytes
  rw [cat_cons, ← h]
  rfl
theorem ret_text {a b : ByteArray} (h : a = b) : Ending.returned (.string a) = .returned (.string b) := by rw [h]

/-- The first k texts are marks, from m on; the others are as they were. -/
def marked (m : Nat) (l : List ByteArray) (k : Nat) : List ByteArray := (List.range k).map (fun j => mkT (m + j)) ++ l.drop k
theorem marked_length (m : Nat) (l : List ByteArray) (k : Nat) (h : k ≤ l.length) : (marked m l k).length = l.length := by
  unfold marked; simp; omega
theorem marked_zero (m : Nat) (l : List ByteArray) : marked m l 0 = l := by simp [marked]
theorem marked_next (m : Nat) (l : List ByteArray) (k : Nat) (h : k < l.length) : (marked m l k).set k (mkT (m + k)) = marked m l (k + 1) := by
  unfold marked
  have e : ((List.range k).map (fun j => mkT (m + j))).length = k := by simp
  rw [List.set_append_right _ _ (by omega), e, Nat.sub_self, List.range_succ, List.map_append, List.append_assoc]
  congr 1
  rw [List.drop_eq_getElem_cons h, List.set_cons_zero]
  rfl
/-- All of them are marks. -/
def marksL (m n : Nat) : List ByteArray := (List.range n).map (fun j => mkT (m + j))
theorem marked_all (m : Nat) (l : List ByteArray) : marked m l l.length = marksL m l.length := by simp [marked, marksL]
theorem marksL_at (m n j : Nat) (h : j < (marksL m n).length) : (marksL m n)[j] = mkT (m + j) := by simp [marksL]
theorem marksL_length (m n : Nat) : (marksL m n).length = n := by simp [marksL]

/-- A text stored into an owned slice. -/
theorem OwnsS.put {w : World} {B g cap : Nat} {l : List ByteArray} {n : Nat} (hn : n = l.length) (h : OwnsS w B (.slice (some ⟨g, 0, none⟩) n cap) l) (k : Nat) (c : ByteArray) : OwnsS (w.setCell ⟨g, k, none⟩ (.string c)) B (.slice (some ⟨g, 0, none⟩) n cap) (l.set k c) := by
  subst hn
  obtain ⟨⟨g', cap', hv, hb, hg⟩, ho⟩ := h
  have h2 := (ho.stored k (.string c)).1
  simp only [Value.slice.injEq, Option.some.injEq, Addr.mk.injEq, and_true, true_and] at hv
  obtain ⟨rfl, rfl⟩ := hv
  refine ⟨⟨g, cap, by rw [List.length_set], hb, by simpa [World.setCell] using hg⟩, ?_⟩
  rw [List.length_set, List.map_set]
  exact h2
theorem OwnsS.free {w : World} {B g n cap : Nat} {l : List ByteArray} (hn : n = l.length) (h : OwnsS w B (.slice (some ⟨g, 0, none⟩) n cap) l) (j : Nat) : w.frozen? ⟨g, j, none⟩ = false := by
  subst hn
  exact h.2.frozenAt j

/-- What holds of every block but g. -/
def But (g : Nat) (w w' : World) : Prop := w'.os = w.os ∧ w'.tape = w.tape ∧ w'.output = w.output ∧ w.heap.size ≤ w'.heap.size ∧ ∀ k, k < w.heap.size → k ≠ g → w'.heap[k]? = w.heap[k]?
theorem But.refl (g : Nat) (w : World) : But g w w := ⟨rfl, rfl, rfl, Nat.le_refl _, fun _ _ _ => rfl⟩
theorem But.below {g : Nat} {a w w' : World} (h : But g a w) (hb : Below w.heap.size w w') : But g a w' :=
  ⟨hb.os.trans h.1, hb.tape.trans h.2.1, hb.output.trans h.2.2.1, Nat.le_trans h.2.2.2.1 hb.size, fun k hk hg => (hb.block k (by have := h.2.2.2.1; omega)).trans (h.2.2.2.2 k hk hg)⟩
theorem But.put {g : Nat} {a w : World} (h : But g a w) (k : Nat) (v : Value) : But g a (w.setCell ⟨g, k, none⟩ v) :=
  ⟨h.1, h.2.1, h.2.2.1, by simpa [World.setCell] using h.2.2.2.1, fun j hj hg => (Below.heap_setCell _ _ _ _ hg).trans (h.2.2.2.2 j hj hg)⟩

end Go.Proofs.YtccnkmffadmfhaaGreatDoor

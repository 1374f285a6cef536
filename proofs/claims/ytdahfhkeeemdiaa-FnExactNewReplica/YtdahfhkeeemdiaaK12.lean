/-
  The specification's Recent and Misses.
  The laws' own marks: texts of numbers.
  Slices of texts that came in or that a call made: how they are read; the laws' own helpers for them.
-/
import Derived.Test.YtdahfhkeeemdiaaK11
import Derived.Deep.QuietTactic
import Derived.BigQuiet
import Derived.Deep.RegionWith
import Derived.Laws.IdiomStrings
import Derived.Test.YtdahfhkeeemdiaaK02
import Derived.Test.YtdahfhkeeemdiaaK08
import Derived.SliceStrings
import Derived.Laws.OwnMore
namespace Go.Proofs.Ytdahfhkeeemdiaa
open Go.RowKit Go.Sort
set_option linter.unusedVariables false
set_option linter.unusedSimpArgs false

def inM (n lo hi : Int) : Bool := decide (lo ≤ n ∧ n ≤ hi)
theorem inRm (n lo hi : Int) (w : World) : Calls Try.prog 24 #[.int .i64 n, .int .i64 lo, .int .i64 hi] w fun e w' => e = .returned (.bool (inM n lo hi)) ∧ w = w' := by
  unfold inM
  by_cases h1 : lo ≤ n
  · by_cases h2 : n ≤ hi
    · have e : decide (lo ≤ n ∧ n ≤ hi) = true := decide_eq_true ⟨h1, h2⟩
      rw [e]
      go_enter Try.func24, Try.ntmps24
      go_wp2
      go_ret
      exact ⟨rfl, rfl⟩
    · have e : decide (lo ≤ n ∧ n ≤ hi) = false := decide_eq_false fun h => h2 h.2
      rw [e]
      go_enter Try.func24, Try.ntmps24
      go_wp2
      go_ret
      exact ⟨rfl, rfl⟩
  · have e : decide (lo ≤ n ∧ n ≤ hi) = false := decide_eq_false fun h => h1 h.1
    rw [e]
    go_enter Try.func24, Try.ntmps24
    go_wp2
    go_ret
    exact ⟨rfl, rfl⟩
end Go.Proofs.Ytdahfhkeeemdiaa
namespace Go.Proofs.Ytdahfhkeeemdiaa
open Go.RowKit

theorem extB {a b : ByteArray} (h : a.data.toList = b.data.toList) : a = b := ByteArray.ext (Array.ext' h)
/-- The decimal digit. -/
def decB (d : Nat) : UInt8 := UInt8.ofNat (48 + d)
/-- The decimal digits of n, none of 0. -/
def decF : Nat → Nat → List UInt8
  | 0, _ => []
  | f + 1, n => if n = 0 then [] else decF f (n / 10) ++ [decB (n % 10)]
theorem decF_zero (f : Nat) : decF f 0 = [] := by cases f <;> simp [decF]
theorem decF_step (f n : Nat) (h : 0 < n) : decF (f + 1) n = decF f (n / 10) ++ [decB (n % 10)] := by simp [decF]; omega
/-- The mark of number n. -/
def mkT (n : Nat) : ByteArray := ⟨(109 :: decF 20 n).toArray⟩
theorem dec_more {n m f : Nat} {x : ByteArray} (hm : m < 10 ^ f) (h0 : 0 < m) (h : decF 20 n = decF f m ++ x.data.toList) : ∃ f', m / 10 < 10 ^ f' ∧ decF 20 n = decF f' (m / 10) ++ (decB (m % 10) :: x.data.toList) := by
  cases f with
  | zero => simp at hm; omega
  | succ f =>
    refine ⟨f, ?_, ?_⟩
    · rw [Nat.pow_succ] at hm
      exact Nat.div_lt_of_lt_mul (by rw [Nat.mul_comm]; exact hm)
    · rw [h, decF_step f m h0]
      simp
theorem dec_byte (m : Nat) : (48 + (m : Int) % 10) = ((decB (m % 10)).toNat : Int) := by
  have h : (decB (m % 10)).toNat = 48 + m % 10 := by
    unfold decB
    rw [UInt8.toNat_ofNat']
    exact Nat.mod_eq_of_lt (by omega)
  rw [h]
  omega
theorem byte_text (w : World) (n : Int) (c : UInt8) (h : n = (c.toNat : Int)) : (convert 84 9 (.slice (some ⟨w.heap.size, 0, none⟩) 1 1)).run Try.prog (w.alloc (.cells #[.int .u8 n] 5)) = .ok (.string ⟨#[c]⟩) (w.alloc (.cells #[.int .u8 n] 5)) := by
  subst h
  refine run_convert_bytes_back (P := Try.prog) _ 84 9 5 ⟨w.heap.size, 0, none⟩ 1 [c] Try.underlying84 Try.underlying5 Try.underlying9 (fun q hq => ?_)
  have e : q = 0 := by simp at hq; exact hq
  subst e
  show (w.alloc (.cells #[.int .u8 (c.toNat : Int)] 5)).cell? ⟨w.heap.size, 0, none⟩ = _
  rw [World.cell?_alloc_mark]
  rfl
theorem cat_cons (c : UInt8) (x : ByteArray) : ((⟨#[c]⟩ : ByteArray) ++ x).data.toList = c :: x.data.toList := by
  rw [ByteArray.data_append, Array.toList_append]; rfl
theorem size_cat (c : UInt8) (x : ByteArray) : ((⟨#[c]⟩ : ByteArray) ++ x).size = x.size + 1 := by
  rw [ByteArray.size_append]
  show 1 + x.size = x.size + 1
  omega
theorem mkT_is {n : Nat} {x : ByteArray} (h : decF 20 n = x.data.toList) : (⟨#[109]⟩ : ByteArray) ++ x = mkT n := by
  apply extB
  rw [cat_cons, ← h]
  rfl
theorem ret_text {a b : ByteArray} (h : a = b) : Ending.returned (.string a) = .returned (.string b) := by rw [h]

set_option maxHeartbeats 400000 in
theorem markText (n : Nat) (h1 : 1 ≤ n) (h2 : n ≤ 100000000) (w : World) :
    Calls Try.prog 58 #[.int .i64 n] w fun e w' => e = .returned (.string (mkT n)) ∧ Below w.heap.size w w' := by
  have hbound : n < 10 ^ 20 := by omega
  have HB : Hid (n < 10 ^ 20) := hbound
  clear hbound
  go_enter Try.func58, Try.ntmps58
  go_wp2
  go_loopw [0, 3] (fun a b wr => ∃ (m f : Nat) (x : ByteArray), a = .int .i64 m ∧ b = .string x ∧ m ≤ 100000000 ∧ x.size + m ≤ 100000000 ∧ Below w.heap.size w wr ∧ Hid (m < 10 ^ f) ∧ Hid (decF 20 n = decF f m ++ x.data.toList)) (fun a _ _ => (intOf a).toNat)
  case atStart => exact ⟨n, 20, ⟨#[]⟩, rfl, rfl, h2, by show 0 + n ≤ _; omega, Below.refl _ _, HB, by show decF 20 n = decF 20 n ++ []; rw [List.append_nil]⟩
  case round =>
    obtain ⟨m, f, x, rfl, rfl, hm, hxm, hb, hmf, hx⟩ := hrel
    by_cases h0 : 0 < m
    · obtain ⟨f', g1, g2⟩ := dec_more hmf.out h0 hx.out
      have HM : Hid (m / 10 < 10 ^ f') := g1
      have HX : Hid (decF 20 n = decF f' (m / 10) ++ (decB (m % 10) :: x.data.toList)) := g2
      clear g1 g2
      have hback := byte_text wr (48 + (m : Int) % 10) (decB (m % 10)) (dec_byte m)
      have hbs := hb.size
      go_wp2
      go_roundw
      case rel => exact ⟨m / 10, f', _, by go_num, rfl, by omega, by rw [size_cat]; omega, hb.alloc hbs _, HM, by rw [cat_cons]; exact HX⟩
      case measure => simp [intOf]; omega
    · obtain rfl : m = 0 := by omega
      have HX : Hid (decF 20 n = x.data.toList) := by
        show decF 20 n = x.data.toList
        rw [hx.out, decF_zero]; rfl
      go_wp2
      go_ret
      exact ⟨ret_text (mkT_is HX.out), hb⟩

end Go.Proofs.Ytdahfhkeeemdiaa
namespace Go.Proofs.Ytdahfhkeeemdiaa
open Go.RowKit

/-- The slice v holds the texts l. -/
def StrsP (w : World) (v : Value) (l : List ByteArray) : Prop := ∃ a cap, v = .slice a l.length cap ∧ l.length ≤ cap ∧ cap ≤ maxLen ∧ (0 < l.length → ∃ g o, a = some ⟨g, o, none⟩ ∧ g < w.heap.size ∧ ∀ j (hj : j < l.length), w.cell? ⟨g, o + j, none⟩ = some (.string l[j]))
theorem StrsP.kept {w w' : World} {v : Value} {l : List ByteArray} (h : StrsP w v l) (hb : Below w.heap.size w w') : StrsP w' v l := by
  obtain ⟨a, cap, h1, h2, h3, h4⟩ := h
  refine ⟨a, cap, h1, h2, h3, fun h0 => ?_⟩
  obtain ⟨g, o, h5, h6, h7⟩ := h4 h0
  exact ⟨g, o, h5, Nat.lt_of_lt_of_le h6 hb.size, fun j hj => (hb.cell (p := ⟨g, o + j, none⟩) h6).trans (h7 j hj)⟩
theorem StrsP.drew {w : World} {v : Value} {l : List ByteArray} (h : StrsP w v l) : StrsP w.drew v l := h
/-- The value v owns the texts l, in a block from B on. -/
def OwnsP (w : World) (B : Nat) (v : Value) (l : List ByteArray) : Prop := w.ownsRow B 9 1 v l.length (l.map Value.string)
theorem OwnsP.put {w : World} {B g cap n : Nat} {l : List ByteArray} (h : OwnsP w B (.slice (some ⟨g, 0, none⟩) n cap) l) (hn : n = l.length) (k : Nat) (s : ByteArray) : OwnsP (w.setCell ⟨g, k, none⟩ (.string s)) B (.slice (some ⟨g, 0, none⟩) n cap) (l.set k s) := by
  subst hn
  rcases h.2 with ⟨e, _⟩ | ⟨g', cap', cur, e, hb, hg, hc, hm, hz, rest⟩
  · cases e
  · obtain ⟨rfl, rfl⟩ : g = g' ∧ cap = cap' := by simpa using e
    refine ⟨by simp, .inr ⟨g, cap, cur.setIfInBounds k (.string s), by simp, hb, ?_, by simpa using hc, hm, by simpa using hz, ?_⟩⟩
    · rw [setCell_eq_setRow w g k cur 9 (0, 0) _ hg]
      exact setRow_heap w g cur _ 9 _ hg
    · simp only [Nat.mul_one] at rest ⊢
      rw [List.length_set, Array.toList_setIfInBounds, List.take_set, rest, List.map_set]
theorem OwnsP.at {w : World} {B g cap n : Nat} {l : List ByteArray} (h : OwnsP w B (.slice (some ⟨g, 0, none⟩) n cap) l) (hn : n = l.length) (k : Nat) (hk : k < l.length) : w.cell? ⟨g, k, none⟩ = some (.string l[k]) ∧ w.frozen? ⟨g, k, none⟩ = false := by
  subst hn
  refine ⟨?_, World.ownsRow.frozenAt h k⟩
  have := World.ownsRow.cells h (g := g) rfl k (.string l[k]) (by rw [List.getElem?_map, List.getElem?_eq_getElem hk]; rfl)
  rw [addr_add, Nat.zero_add] at this
  exact this
end Go.Proofs.Ytdahfhkeeemdiaa

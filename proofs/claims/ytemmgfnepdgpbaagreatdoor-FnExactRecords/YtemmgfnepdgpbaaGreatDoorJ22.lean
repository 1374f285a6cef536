/-
  The specification's records of a disk, by their contract.
  The laws' own marks: texts of numbers.
  The bytes of a text appended to a row of bytes that a call owns; what stays where such a row grows.
-/
import Derived.Test.YtemmgfnepdgpbaaGreatDoorJ21
import Derived.Test.YtemmgfnepdgpbaaGreatDoorJ17
import Derived.Test.YtemmgfnepdgpbaaGreatDoorJ13
import Derived.Deep.QuietTactic
import Derived.BigQuiet
import Derived.Deep.RegionWith
import Derived.Laws.IdiomStrings
import Derived.Test.YtemmgfnepdgpbaaGreatDoorJ05
import Derived.WalkKit
import Derived.WalkSpells
import Derived.Lib.AppendStr
namespace Go.Proofs.YtemmgfnepdgpbaaGreatDoor
open Go.RowKit St Ow
set_option linter.unusedVariables false
set_option linter.unusedSimpArgs false

theorem ext_drop (d : ByteArray) (k : Nat) : (d.extract k d.size).data.toList = d.data.toList.drop k := by
  have hl : d.data.toList.length = d.size := by simp
  simp only [ByteArray.data_extract, Array.toList_extract, List.extract_eq_take_drop]
  rw [List.take_of_length_le (by rw [List.length_drop]; omega)]
set_option maxRecDepth 100000 in
set_option maxHeartbeats 4000000 in
theorem specRcs (d : ByteArray) (w : World) (hd : d.size ≤ 1048576) :
    Calls Tryz.prog 19 #[.string d] w fun e w' => ∃ u, e = .returned (.tuple #[u, .int .i64 ((rcsL d.data.toList).2 : Nat)]) ∧ OwnsS w' w.heap.size u ((rcsL d.data.toList).1.map txtL) ∧ Below w.heap.size w w' := by
  have hdl : d.data.toList.length = d.size := by simp
  obtain ⟨R, hR⟩ : ∃ R, rcsL d.data.toList = R := ⟨_, rfl⟩
  have HR : Hid (rcsL d.data.toList = R) := hR
  have HDL : Hid (d.data.toList.length = d.size) := hdl
  rw [hR]
  clear hR hdl
  have j1 := fun k W => specRc1 (d.extract k d.size) W (by rw [ByteArray.size_extract]; omega)
  go_enter Tryz.func19, Tryz.ntmps19
  go_wp2
  go_loopw [4, 5] (fun a i wr => ∃ (k : Nat) (out : List (List UInt8)), k ≤ d.size ∧ out.length ≤ k ∧ i = .int .i64 k ∧ Hid (RcAt d.data.toList k out) ∧ Hid (OwnsS wr w.heap.size a (out.map txtL)) ∧ Hid (Below w.heap.size w wr)) (fun _ i _ => d.size - (intOf i).toNat)
  case atStart => exact ⟨0, [], Nat.zero_le _, Nat.le_refl _, rfl, (show Hid _ from RcAt.start _), (show OwnsS _ _ _ _ from OwnsS.born w), (show Hid _ from (Below.refl _ w).alloc (Nat.le_refl _) _)⟩
  case round =>
    obtain ⟨k, out, hk, hout, rfl, hat, ho, hb⟩ := hrel
    have hjk := fun W => j1 k W
    have HX : Hid ((d.extract k d.size).data.toList = d.data.toList.drop k) := ext_drop d k
    rw [HX.out] at hjk
    obtain ⟨g, cap, hv, _, hcm, _, _⟩ := ho.out.open
    rw [List.length_map] at hv
    subst hv
    cases e1 : rdR (d.data.toList.drop k) with
    | none =>
      have hDone : Hid (R = (out, k)) := by show _ = _; rw [← HR.out]; exact hat.out.done e1
      rw [e1] at hjk
      unfold rc1E at hjk
      simp only at hjk
      clear e1 j1 hat
      go_wp2_with fail
      refine (hjk _).mono ?_
      rintro e w1 ⟨rfl, hb1⟩
      have B1 : Hid (Below w.heap.size w w1) := (show Below _ _ _ from hb.out.trans (hb1.mono hb.out.size))
      have O1 : Hid (OwnsS w1 w.heap.size (.slice (some ⟨g, 0, none⟩) out.length cap) (out.map txtL)) := (show OwnsS _ _ _ _ from ho.out.kept hb1)
      clear hb1 hb ho hjk
      go_wp2
      go_ret2
      exact ⟨.slice (some ⟨g, 0, none⟩) out.length cap, by rw [hDone.out]; rfl, by rw [hDone.out]; exact O1.out, B1.out⟩
    | some t =>
      have hNx : Hid (RcAt d.data.toList (k + (recL t).length) (out ++ [t])) := (show Hid _ from hat.out.next e1)
      have hkz := hNx.out.1
      rw [HDL.out] at hkz
      have hnz := rec_len t
      rw [e1] at hjk
      unfold rc1E at hjk
      simp only at hjk
      generalize (recL t).length = n at hNx hkz hnz hjk
      have hn0 : 0 < n := by omega
      have hnq : ((n : Int) == 0) = false := by simp; omega
      have HMP : Hid ((out ++ [t]).map txtL = out.map txtL ++ [txtL t]) := (show _ = _ by simp)
      generalize txtL t = x at hjk HMP
      clear e1 j1 hat hnz
      go_wp2_with fail
      refine (hjk _).mono ?_
      rintro e w1 ⟨rfl, hb1⟩
      have B1 : Hid (Below w.heap.size w w1) := (show Below _ _ _ from hb.out.trans (hb1.mono hb.out.size))
      have O1 : Hid (OwnsS w1 w.heap.size (.slice (some ⟨g, 0, none⟩) out.length cap) (out.map txtL)) := (show OwnsS _ _ _ _ from ho.out.kept hb1)
      clear hb1 hb ho hjk
      go_wp2_with (at_builtin; refine wpList_pushS _ rfl (.tmp 20) (.tmp 22) rfl w.heap.size _ (out.map txtL) x rfl O1.out rfl (by rw [List.length_map]; omega) B1.out.size ?_; intro v2 w2 ho2 hg2; have B2 : Hid (Below w.heap.size w w2) := (show Hid _ from B1.out.grown hg2 B1.out.size (OwnsS.from O1.out)); have O2 : Hid (OwnsS w2 w.heap.size v2 ((out ++ [t]).map txtL)) := (show OwnsS _ _ _ _ from by rw [HMP.out]; exact ho2); obtain ⟨g2, cap2, hv2, _, hcm2, _, _⟩ := ho2.open; subst hv2; clear hg2 ho2)
      go_roundw
      case rel => exact ⟨k + n, out ++ [t], by omega, by simp; omega, by go_num, hNx, (show OwnsS _ _ _ _ from by have := O2.out; simp only [List.length_append, List.length_map, List.length_cons, List.length_nil] at this; exact this), B2⟩
      case measure => simp [intOf]; omega
end Go.Proofs.YtemmgfnepdgpbaaGreatDoor
namespace Go.Proofs.YtemmgfnepdgpbaaGreatDoor
open Go.RowKit

theorem extB {a b : ByteArray} (h : a.data.toList = b.data.toList) : a = b := ByteArray.ext (Array.ext' h)
/-- The decimal digit. -/
def decB (d : Nat) : UInt8 := UInt8.ofNat (48 + d)
/-- The decimal digits of n, none of 0. -/
def decF : Nat → Nat → List UInt8
  | 0, _ => []
  | f + 1, n => if n = 0 then [] else decF f (n / 10) ++ [decB (n % 10)]
theorem decF_zero (f : Nat) : decF f 0 = [] := by cases f <;> simp [decF]
theorem decF_step (f n : Nat) (h : 0 < n) : decF (f + 1) n = decF f (n / 10) ++ [decB (n % 10)] := by simp [decF]; omega
/-- The mark of number n. -/
def mkT (n : Nat) : ByteArray := ⟨(109 :: decF 20 n).toArray⟩
theorem dec_more {n m f : Nat} {x : ByteArray} (hm : m < 10 ^ f) (h0 : 0 < m) (h : decF 20 n = decF f m ++ x.data.toList) : ∃ f', m / 10 < 10 ^ f' ∧ decF 20 n = decF f' (m / 10) ++ (decB (m % 10) :: x.data.toList) := by
  cases f with
  | zero => simp at hm; omega
  | succ f =>
    refine ⟨f, ?_, ?_⟩
    · rw [Nat.pow_succ] at hm
      exact Nat.div_lt_of_lt_mul (by rw [Nat.mul_comm]; exact hm)
    · rw [h, decF_step f m h0]
      simp
theorem dec_byte (m : Nat) : (48 + (m : Int) % 10) = ((decB (m % 10)).toNat : Int) := by
  have h : (decB (m % 10)).toNat = 48 + m % 10 := by
    unfold decB
    rw [UInt8.toNat_ofNat']
    exact Nat.mod_eq_of_lt (by omega)
  rw [h]
  omega
theorem byte_text (w : World) (n : Int) (c : UInt8) (h : n = (c.toNat : Int)) : (convert 22 9 (.slice (some ⟨w.heap.size, 0, none⟩) 1 1)).run Tryz.prog (w.alloc (.cells #[.int .u8 n] 5)) = .ok (.string ⟨#[c]⟩) (w.alloc (.cells #[.int .u8 n] 5)) := by
  subst h
  refine run_convert_bytes_back (P := Tryz.prog) _ 22 9 5 ⟨w.heap.size, 0, none⟩ 1 [c] Tryz.underlying22 Tryz.underlying5 Tryz.underlying9 (fun q hq => ?_)
  have e : q = 0 := by simp at hq; exact hq
  subst e
  show (w.alloc (.cells #[.int .u8 (c.toNat : Int)] 5)).cell? ⟨w.heap.size, 0, none⟩ = _
  rw [World.cell?_alloc_mark]
  rfl
theorem cat_cons (c : UInt8) (x : ByteArray) : ((⟨#[c]⟩ : ByteArray) ++ x).data.toList = c :: x.data.toList := by
  rw [ByteArray.data_append, Array.toList_append]; rfl
theorem size_cat (c : UInt8) (x : ByteArray) : ((⟨#[c]⟩ : ByteArray) ++ x).size = x.size + 1 := by
  rw [ByteArray.size_append]
  show 1 + x.size = x.size + 1
  omega
theorem mkT_is {n : Nat} {x : ByteArray} (h : decF 20 n = x.data.toList) : (⟨#[109]⟩ : ByteArray) ++ x = mkT n := by
  apply extB
  rw [cat_cons, ← h]
  rfl
theorem ret_text {a b : ByteArray} (h : a = b) : Ending.returned (.string a) = .returned (.string b) := by rw [h]

set_option maxHeartbeats 400000 in
theorem markText (n : Nat) (h1 : 1 ≤ n) (h2 : n ≤ 100000000) (w : World) :
    Calls Tryz.prog 57 #[.int .i64 n] w fun e w' => e = .returned (.string (mkT n)) ∧ Below w.heap.size w w' := by
  have hbound : n < 10 ^ 20 := by omega
  have HB : Hid (n < 10 ^ 20) := hbound
  clear hbound
  go_enter Tryz.func57, Tryz.ntmps57
  go_wp2
  go_loopw [0, 3] (fun a b wr => ∃ (m f : Nat) (x : ByteArray), a = .int .i64 m ∧ b = .string x ∧ m ≤ 100000000 ∧ x.size + m ≤ 100000000 ∧ Below w.heap.size w wr ∧ Hid (m < 10 ^ f) ∧ Hid (decF 20 n = decF f m ++ x.data.toList)) (fun a _ _ => (intOf a).toNat)
  case atStart => exact ⟨n, 20, ⟨#[]⟩, rfl, rfl, h2, by show 0 + n ≤ _; omega, Below.refl _ _, HB, by show decF 20 n = decF 20 n ++ []; rw [List.append_nil]⟩
  case round =>
    obtain ⟨m, f, x, rfl, rfl, hm, hxm, hb, hmf, hx⟩ := hrel
    by_cases h0 : 0 < m
    · obtain ⟨f', g1, g2⟩ := dec_more hmf.out h0 hx.out
      have HM : Hid (m / 10 < 10 ^ f') := g1
      have HX : Hid (decF 20 n = decF f' (m / 10) ++ (decB (m % 10) :: x.data.toList)) := g2
      clear g1 g2
      have hback := byte_text wr (48 + (m : Int) % 10) (decB (m % 10)) (dec_byte m)
      have hbs := hb.size
      go_wp2
      go_roundw
      case rel => exact ⟨m / 10, f', _, by go_num, rfl, by omega, by rw [size_cat]; omega, hb.alloc hbs _, HM, by rw [cat_cons]; exact HX⟩
      case measure => simp [intOf]; omega
    · obtain rfl : m = 0 := by omega
      have HX : Hid (decF 20 n = x.data.toList) := by
        show decF 20 n = x.data.toList
        rw [hx.out, decF_zero]; rfl
      go_wp2
      go_ret
      exact ⟨ret_text (mkT_is HX.out), hb⟩

end Go.Proofs.YtemmgfnepdgpbaaGreatDoor
namespace Go.Proofs.YtemmgfnepdgpbaaGreatDoor
open Go.RowKit

theorem OwnsB.under {w : World} {B : Nat} {v : Value} {l : List UInt8} (h : OwnsB w B v l) : ∀ k, v.ownBlock = some k → k < w.heap.size := fun k hk => (World.ownsRow.lt h k hk).2
end Go.Proofs.YtemmgfnepdgpbaaGreatDoor

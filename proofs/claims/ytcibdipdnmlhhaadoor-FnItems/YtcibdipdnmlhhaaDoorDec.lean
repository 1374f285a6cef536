/-
  The contract of the law's own helper that writes a number in decimal digits.
-/
import Derived.Test.YtcibdipdnmlhhaaDoorPick
namespace Go.Proofs.YtcibdipdnmlhhaaDoor
open Go.RowKit

theorem decG_more {n m f : Nat} {t : List UInt8} (hf : f + t.length = 4) (hm : m < 10 ^ (f + 1)) (h10 : 10 ≤ m) (h : decG 4 n = decG f m ++ t) : ∃ f', f' + (decC (m % 10) :: t).length = 4 ∧ m / 10 < 10 ^ (f' + 1) ∧ decG 4 n = decG f' (m / 10) ++ (decC (m % 10) :: t) := by
  cases f with
  | zero => simp at hm; omega
  | succ f =>
    refine ⟨f, by simp; omega, ?_, ?_⟩
    · rw [Nat.pow_succ] at hm
      exact Nat.div_lt_of_lt_mul (by rw [Nat.mul_comm]; exact hm)
    · rw [h, decG_step f m (by omega)]
      simp
theorem decC_int (m : Nat) : (48 + (m : Int) % 10) = ((decC (m % 10)).toNat : Int) := by
  rw [decC_nat (Nat.mod_lt _ (by decide))]; omega
theorem byte_text' (w : World) (n : Int) (c : UInt8) (h : n = (c.toNat : Int)) : (convert 22 9 (.slice (some ⟨w.heap.size, 0, none⟩) 1 1)).run Tryd.prog (w.alloc (.cells #[.int .u8 n] 5)) = .ok (.string ⟨#[c]⟩) (w.alloc (.cells #[.int .u8 n] 5)) := by
  subst h
  refine run_convert_bytes_back (P := Tryd.prog) _ 22 9 5 ⟨w.heap.size, 0, none⟩ 1 [c] Tryd.underlying22 Tryd.underlying5 Tryd.underlying9 (fun q hq => ?_)
  have e : q = 0 := by simp at hq; exact hq
  subst e
  show (w.alloc (.cells #[.int .u8 (c.toNat : Int)] 5)).cell? ⟨w.heap.size, 0, none⟩ = _
  rw [World.cell?_alloc_mark]
  rfl
theorem cat_cons' (c : UInt8) (x : ByteArray) : ((⟨#[c]⟩ : ByteArray) ++ x).data.toList = c :: x.data.toList := by
  rw [ByteArray.data_append, Array.toList_append]; rfl

set_option maxHeartbeats 400000 in
theorem digitsT (n : Nat) (hn : n < 100000) (w : World) :
    Calls Tryd.prog 23 #[.int .i64 n] w fun e w' => ∃ x : ByteArray, e = .returned (.string x) ∧ x.data.toList = decG 4 n ∧ Below w.heap.size w w' := by
  have HB : Hid (n < 10 ^ (4 + 1)) := hn
  go_enter Tryd.func23, Tryd.ntmps23
  go_wp2
  go_loopw [0, 3] (fun a b wr => ∃ (m f : Nat) (x : ByteArray), a = .int .i64 m ∧ b = .string x ∧ m ≤ 100000 ∧ x.size ≤ 5 ∧ Below w.heap.size w wr ∧ Hid ((0 < x.size ∧ m = 0 ∧ decG 4 n = x.data.toList) ∨ ((x.size = 0 ∨ 0 < m) ∧ f + x.data.toList.length = 4 ∧ m < 10 ^ (f + 1) ∧ decG 4 n = decG f m ++ x.data.toList))) (fun a b _ => hexMu a b)
  case atStart => exact ⟨n, 4, ⟨#[]⟩, rfl, rfl, by omega, Nat.zero_le _, Below.refl _ _, Or.inr ⟨Or.inl rfl, rfl, HB, by show decG 4 n = decG 4 n ++ []; rw [List.append_nil]⟩⟩
  case round =>
    obtain ⟨m, f, x, rfl, rfl, hm, hxs, hb, hx⟩ := hrel
    rcases hx.out with ⟨x1, x2, x3⟩ | ⟨x1, x2, x3, x4⟩
    · have hne := full' x1
      have hfe : x.toList.isEmpty = false := by simpa using hne
      subst x2
      have HX : Hid (decG 4 n = x.data.toList) := x3
      clear x3 hx
      go_wp2
      go_ret
      exact ⟨x, rfl, HX.out.symm, hb⟩
    · have hcond : x.toList = [] ∨ 0 < m := by
        rcases x1 with h | h
        · exact Or.inl (void' (by omega))
        · exact Or.inr h
      have h3 : x.data.toList.length = x.size := by simp
      have hxs2 : x.size ≤ 4 := by omega
      have hback := byte_text' wr (48 + (m : Int) % 10) (decC (m % 10)) (decC_int m)
      have HC : Hid (((⟨#[decC (m % 10)]⟩ : ByteArray) ++ x).data.toList = decC (m % 10) :: x.data.toList) := cat_cons' _ _
      have HZ : Hid (0 < ((⟨#[decC (m % 10)]⟩ : ByteArray) ++ x).size) := size_cons HC.out
      have HS : Hid (((⟨#[decC (m % 10)]⟩ : ByteArray) ++ x).size ≤ 5) := by
        show ((⟨#[decC (m % 10)]⟩ : ByteArray) ++ x).size ≤ 5
        rw [ByteArray.size_append]
        show 1 + x.size ≤ 5
        omega
      have HW : Hid (0 < m ∨ x.size = 0) := by
        rcases x1 with h | h
        · exact Or.inr h
        · exact Or.inl h
      have hbs := hb.size
      by_cases h10 : 10 ≤ m
      · obtain ⟨f', hf', hm', hx'⟩ := decG_more x2 x3 h10 x4
        have HN : Hid (f' + (decC (m % 10) :: x.data.toList).length = 4 ∧ m / 10 < 10 ^ (f' + 1) ∧ decG 4 n = decG f' (m / 10) ++ (decC (m % 10) :: x.data.toList)) := ⟨hf', hm', hx'⟩
        clear hf' hm' hx' hx x4 x3 x2 x1 hcond h3
        have hpos : 0 < m := by omega
        go_wp2
        all_goals
          go_roundw
          case rel => exact ⟨m / 10, f', _, by go_num, rfl, by omega, HS.out, hb.alloc hbs _, Or.inr ⟨Or.inr (by omega), by rw [HC.out]; exact HN.out.1, HN.out.2.1, by rw [HC.out]; exact HN.out.2.2⟩⟩
          case measure =>
            rw [show ((m : Int) / 10) = ((m / 10 : Nat) : Int) from by omega]
            exact hexMu_lt HZ.out (Or.inl (by omega))
      · have HN : Hid (decG 4 n = decC (m % 10) :: x.data.toList) := by
          show decG 4 n = decC (m % 10) :: x.data.toList
          rw [x4, decG_small f m (by omega), Nat.mod_eq_of_lt (by omega)]
          rfl
        have hdiv : (m : Int) / 10 = 0 := by omega
        clear hx x4 x3 x2 x1 h3
        rcases hcond with hc | hc
        all_goals
          go_wp2
          all_goals
            go_roundw
            case rel => exact ⟨0, f, _, rfl, rfl, by omega, HS.out, hb.alloc hbs _, Or.inl ⟨HZ.out, rfl, by rw [HC.out]; exact HN.out⟩⟩
            case measure => exact hexMu_lt (a := 0) HZ.out (by have := HW.out; omega)
end Go.Proofs.YtcibdipdnmlhhaaDoor

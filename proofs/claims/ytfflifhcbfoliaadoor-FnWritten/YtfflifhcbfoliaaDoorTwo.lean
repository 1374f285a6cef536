/-
  Two digits: the specification's and the program's contracts.
-/
import Derived.Test.YtfflifhcbfoliaaDoorGrew
import Derived.Laws.Strings
import Derived.Lib.ItoaNum
namespace Go.Proofs.YtfflifhcbfoliaaDoor
open Go.RowKit Go.Sort

/-- A digit. -/
def dgt (n : Int) : UInt8 := UInt8.ofNat (48 + (n % 10).toNat)
theorem dgt_nat (n : Int) : ((dgt n).toNat : Int) = 48 + n % 10 := by
  unfold dgt
  rw [UInt8.toNat_ofNat']
  omega
/-- Two digits. -/
def two (n : Int) : ByteArray := ⟨#[dgt (n / 10), dgt n]⟩
theorem twoText (w : World) (n x y : Int) (hx : x = ((dgt (n / 10)).toNat : Int)) (hy : y = ((dgt n).toNat : Int)) :
    (convert 22 9 (.slice (some ⟨w.heap.size, 0, none⟩) 2 2)).run Tryd.prog (w.alloc (.cells #[.int .u8 x, .int .u8 y] 5)) = .ok (.string (two n)) (w.alloc (.cells #[.int .u8 x, .int .u8 y] 5)) := by
  refine run_convert_bytes_back (P := Tryd.prog) (w.alloc (.cells #[.int .u8 x, .int .u8 y] 5)) 22 9 5 ⟨w.heap.size, 0, none⟩ 2 [dgt (n / 10), dgt n] Tryd.underlying22 Tryd.underlying5 Tryd.underlying9 (fun j hj => ?_)
  rcases (show j = 0 ∨ j = 1 from by simp at hj; omega) with rfl | rfl
  · exact (World.cell?_alloc_mark w #[.int .u8 x, .int .u8 y] 5 (0, 0) 0).trans (by rw [hx]; rfl)
  · exact (World.cell?_alloc_mark w #[.int .u8 x, .int .u8 y] 5 (0, 0) 1).trans (by rw [hy]; rfl)
theorem implTwo (n : Int) (w : World) (h1 : 0 ≤ n) (h2 : n ≤ 99) :
    Calls Tryd.prog 20 #[.int .i64 n] w fun e w' => e = .returned (.string (two n)) ∧ Grew w w' := by
  have ht := twoText w n (48 + n / 10) (48 + n % 10) (by rw [dgt_nat]; omega) (by rw [dgt_nat])
  go_enter Tryd.func20, Tryd.ntmps20
  go_wp2
  go_ret
  exact ⟨rfl, (Grew.refl w).alloc _⟩
theorem specTwo (n : Int) (w : World) (h1 : 0 ≤ n) (h2 : n ≤ 9999) :
    Calls Tryd.prog 25 #[.int .i64 n] w fun e w' => e = .returned (.string (two n)) ∧ Grew w w' := by
  have ht := twoText w n (48 + n / 10 % 10) (48 + n % 10) (by rw [dgt_nat]) (by rw [dgt_nat])
  go_enter Tryd.func25, Tryd.ntmps25
  go_wp2
  go_ret
  exact ⟨rfl, (Grew.refl w).alloc _⟩
theorem two_size (n : Int) : (two n).size = 2 := rfl
/-- The four digits of a year. -/
theorem itoa_year {y : Int} (h1 : 1970 ≤ y) (h2 : y ≤ 9999) : (⟨(Lib.itoa y).toArray⟩ : ByteArray) = two (y / 100) ++ two y := by
  obtain ⟨n, rfl⟩ := Int.eq_ofNat_of_zero_le (show 0 ≤ y from by omega)
  have e : Lib.itoa (n : Int) = [dgt ((n : Int) / 100 / 10), dgt ((n : Int) / 100), dgt ((n : Int) / 10), dgt (n : Int)] := by
    unfold Lib.itoa
    rw [if_neg (by omega), Int.toNat_natCast, Lib.decDigits, dif_neg (by omega), Lib.decDigits, dif_neg (by omega), Lib.decDigits, dif_neg (by omega), Lib.decDigits, dif_pos (by omega)]
    unfold dgt
    rw [show ((n : Int) / 100 / 10 % 10).toNat = n / 10 / 10 / 10 from by omega, show ((n : Int) / 100 % 10).toNat = n / 10 / 10 % 10 from by omega, show ((n : Int) / 10 % 10).toNat = n / 10 % 10 from by omega, show ((n : Int) % 10).toNat = n % 10 from by omega]
    rfl
  rw [e]
  rfl
end Go.Proofs.YtfflifhcbfoliaaDoor

/-
  Plain facts on lists of bytes: all bytes of a list are letters of a token; the first k + 1 bytes are the first k and the next.
-/
import Derived.Test.YtdkhdjickkcaiaaGreatRVS
import Derived.Test.YtdkhdjickkcaiaaGreatRV03
import Derived.Below
set_option linter.unusedVariables false
set_option linter.unusedSimpArgs false
set_option maxRecDepth 100000
set_option maxHeartbeats 64000000
namespace Go.Proofs.YtdkhdjickkcaiaaGreat
open Go.RowKit

theorem take_snoc (s : ByteArray) (k : Nat) (h : k < s.size) : s.data.toList.take (k + 1) = s.data.toList.take k ++ [s[k]] := by
 rw [List.take_succ_eq_append_getElem (by simpa using h)]; rfl
theorem mem_at (s : ByteArray) (k : Nat) (h : k < s.size) : s[k] ∈ s.data.toList := by
 have e : s[k] = s.data.toList[k]'(by simpa using h) := rfl
 rw [e]; exact List.getElem_mem _

def allB (p : Int → Bool) (l : List UInt8) : Bool := l.all fun c => p (c.toNat : Int)
theorem allB_nil (p : Int → Bool) (s : ByteArray) : allB p (s.data.toList.take 0) = true := rfl
theorem allB_step {p : Int → Bool} {s : ByteArray} {k : Nat} (hk : k < s.size) (h : allB p (s.data.toList.take k) = true) (hp : p (s[k].toNat : Int) = true) : allB p (s.data.toList.take (k + 1)) = true := by
 rw [take_snoc s k hk]
 unfold allB at *
 rw [List.all_append, h]
 simp [hp]
theorem allB_not {p : Int → Bool} {s : ByteArray} {k : Nat} (hk : k < s.size) (hp : p (s[k].toNat : Int) = false) : false = allB p s.data.toList := by
 symm
 unfold allB
 rw [List.all_eq_false]
 exact ⟨s[k], mem_at s k hk, by simp [hp]⟩

end Go.Proofs.YtdkhdjickkcaiaaGreat

/-
  What the law on cuts asks for: the texts that it makes of a number, read.
-/
import Derived.Test.YtamfgjgmnnnjpaaDoorSpnH
import Derived.Test.YtamfgjgmnnnjpaaDoorIntZ
namespace Go.Proofs.YtamfgjgmnnnjpaaDoor
open Go.RowKit
set_option linter.unusedVariables false

/-- A small number's digits. -/
def digT (n : Nat) : ByteArray := if n < 10 then ⟨#[UInt8.ofNat (48 + n)]⟩ else ⟨#[49, UInt8.ofNat (38 + n)]⟩
theorem itoS_small {n : Nat} (h : n < 20) : itoS n = digT n := by
  unfold itoS digT
  by_cases h1 : n < 10
  · rw [if_pos h1, dec_small h1]
  · rw [if_neg h1, dec_big h1, show n / 10 = 1 by omega, dec_small (by decide), show 48 + n % 10 = 38 + n by omega]
    rfl
def tx1 (k : Nat) : ByteArray := (⟨#[98, 121, 116, 101, 115, 61, 48, 45]⟩ : ByteArray) ++ digT (k - 1) ++ (⟨#[44, 32]⟩ : ByteArray) ++ digT k ++ (⟨#[45]⟩ : ByteArray)
def tx2 (k : Nat) : ByteArray := (⟨#[98, 121, 116, 101, 115, 61, 45]⟩ : ByteArray) ++ digT k
theorem tx1_all : ∀ k : Fin 12, ∀ L : Fin 13, 1 ≤ k.val → k.val < L.val → rdS (tx1 k.val) (L.val : Int) = [(0, (k.val : Int) - 1), ((k.val : Int), (L.val : Int) - 1)] := by decide +kernel
theorem tx2_all : ∀ k : Fin 12, ∀ L : Fin 13, 1 ≤ k.val → k.val < L.val → rdS (tx2 k.val) (L.val : Int) = [((L.val : Int) - (k.val : Int), (L.val : Int) - 1)] := by decide +kernel
theorem mg_all : ∀ k : Fin 12, ∀ L : Fin 13, 1 ≤ k.val → k.val < L.val → (mgd [(0, (k.val : Int) - 1), ((k.val : Int), (L.val : Int) - 1)]).length = 1 := by decide +kernel
end Go.Proofs.YtamfgjgmnnnjpaaDoor

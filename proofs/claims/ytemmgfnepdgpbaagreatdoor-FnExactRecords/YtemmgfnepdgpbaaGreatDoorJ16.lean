/-
  Plain facts of owners: hashes, weights, ranks, who owns a key, what moves when one goes.
-/
import Derived.Lib.SmallJoins
import Derived.Lib.ItoaNum
namespace Go.Proofs.YtemmgfnepdgpbaaGreatDoor.Ow
set_option linter.unusedVariables false

def hshN (h : Nat) (b : UInt8) : Nat := (h * 16777619 + b.toNat + 1) % 2147483647
def hshL (l : List UInt8) : Nat := l.foldl hshN 9
theorem hshN_lt (h : Nat) (b : UInt8) : hshN h b < 2147483647 := Nat.mod_lt _ (by decide)
theorem hsh_lt : ∀ (l : List UInt8) (h : Nat), h < 2147483647 → l.foldl hshN h < 2147483647
  | [], h, hh => hh
  | b :: l, h, _ => hsh_lt l _ (hshN_lt h b)
theorem hshL_lt (l : List UInt8) : hshL l < 2147483647 := by unfold hshL; exact hsh_lt l 9 (by omega)
theorem hshL_snoc (l : List UInt8) (b : UInt8) : hshL (l ++ [b]) = hshN (hshL l) b := by unfold hshL; rw [List.foldl_append, List.foldl_cons, List.foldl_nil]
theorem hshL_take (l : List UInt8) (i : Nat) (h : i < l.length) : hshL (l.take (i + 1)) = hshN (hshL (l.take i)) l[i] := by
  rw [List.take_succ_eq_append_getElem h, hshL_snoc]
end Go.Proofs.YtemmgfnepdgpbaaGreatDoor.Ow

/-
  Plain facts on chunks: a state that eats bytes, what all bytes of a text come to, and what a body is written as.
-/
import Derived.Test.YtdkhdjickkcaiaaGreatRVS
import Derived.Test.YtdkhdjickkcaiaaGreatRV07
set_option linter.unusedVariables false
set_option linter.unusedSimpArgs false
set_option maxRecDepth 100000
set_option maxHeartbeats 64000000
namespace Go.Proofs.YtdkhdjickkcaiaaGreat
open Go.RowKit

structure Ck where
 st : Int
 lf : Int
 dg : ByteArray
 bd : ByteArray

def badC (c : Ck) : Ck := ⟨9, 0, ⟨#[]⟩, c.bd⟩
def eat1 (c : Ck) (b : UInt8) : Ck :=
 if 8 ≤ c.st then c
 else if c.st = 1 then
  if 0 ≤ digV (b.toNat : Int) ∧ c.dg.size < 13 then ⟨1, c.lf, c.dg ++ ⟨#[b]⟩, c.bd⟩
  else if b.toNat = 13 ∧ numOk 16 13 c.dg = true ∧ numV 16 13 c.dg + (c.bd.size : Int) ≤ 4000 then ⟨2, numV 16 13 c.dg, ⟨#[]⟩, c.bd⟩ else badC c
 else if c.st = 2 then if b.toNat = 10 then ⟨if c.lf = 0 then 6 else 3, c.lf, c.dg, c.bd⟩ else badC c
 else if c.st = 3 then ⟨if c.lf = 1 then 4 else 3, c.lf - 1, c.dg, c.bd ++ ⟨#[b]⟩⟩
 else if c.st = 4 then if b.toNat = 13 then ⟨5, c.lf, c.dg, c.bd⟩ else badC c
 else if c.st = 5 then if b.toNat = 10 then ⟨1, c.lf, c.dg, c.bd⟩ else badC c
 else if c.st = 6 then if b.toNat = 13 then ⟨7, c.lf, c.dg, c.bd⟩ else badC c
 else if b.toNat = 10 then ⟨8, c.lf, c.dg, c.bd⟩ else badC c

def fin (c : Ck) (l : List UInt8) : Ck := l.foldl eat1 c
theorem ba_ext {a b : ByteArray} (h : a.data.toList = b.data.toList) : a = b := by
 cases a; cases b; exact congrArg _ (Array.ext' h)
end Go.Proofs.YtdkhdjickkcaiaaGreat

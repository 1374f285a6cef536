/-
  Plain facts on chunks: a state that eats bytes, what all bytes of a text come to, and what a body is written as.
-/
import Derived.Test.YtdkhdjickkcaiaaRK02
namespace Go.Proofs.Ytdkhdjickkcaiaa
open Go.RowKit

theorem ba_ext {a b : ByteArray} (h : a.data.toList = b.data.toList) : a = b := by
  cases a; cases b; exact congrArg _ (Array.ext' h)
end Go.Proofs.Ytdkhdjickkcaiaa

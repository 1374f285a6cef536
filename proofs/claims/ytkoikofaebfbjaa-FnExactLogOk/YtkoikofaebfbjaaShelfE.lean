/-
  The library's contracts that the texts of this seat lean on.
-/
import Derived.Lib.SlTrimSet

/-
  The program's Place, whatever it is asked.
-/
import Derived.Test.YtnnmbgenepfacaaRpR
namespace Go.Proofs.Ytnnmbgenepfacaa
open Go.RowKit Rom

theorem implPla (q : Int) (v : Value) (l : List It) (key : ByteArray) (n : Int) (w : World) (h : Sls itE w v l) (hlen : l.length ≤ 1048576) (hs : ∀ x ∈ l, x.1.size ≤ maxLen) (hks : key.size ≤ maxLen) :
    Calls Try.prog 29 #[shV q v, .string key, .int .i64 n] w fun e w' => ∃ u g, e = .returned (.tuple #[shV (usdQ q l) u, g]) ∧ HasI8 w' w.heap.size u (plaL q l key n) ∧ HasX w' w.heap.size g (plaG q l key n) ∧ Below w.heap.size w w' := by
  cases hok : shOk q l with
  | false => exact implPla0 q v l key n w h hlen hs hks hok
  | true =>
    by_cases hn1 : n < 1
    · exact implPla1 q v l key n w h hlen hs hks hok hn1
    · by_cases hn2 : q < n
      · exact implPla2 q v l key n w h hlen hs hks hok hn1 hn2
      · by_cases hk5 : key.size ≤ 500
        · exact implPla4 q v l key n w h hlen hs hks hok hn1 hn2 hk5
        · exact implPla3 q v l key n w h hlen hs hks hok hn1 hn2 hk5
end Go.Proofs.Ytnnmbgenepfacaa

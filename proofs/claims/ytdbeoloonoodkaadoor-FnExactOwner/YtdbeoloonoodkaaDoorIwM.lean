/-
  A map of weights by servers: put together server by server, and asked.
-/
import Derived.Test.YtdbeoloonoodkaaDoorRowE
import Derived.Test.YtdbeoloonoodkaaDoorOwP
import Derived.Maps.OwnSet
import Derived.Handy
import Derived.WalkArith
namespace Go.Proofs.YtdbeoloonoodkaaDoor.Ih
open Go.RowKit Go.Maps Go.ChangeMaps Go.WideMaps
set_option linter.unusedVariables false

theorem keyedW : Keyed Tryd.prog 2 := int_keyed Tryd.underlying2
def keyW (s : Int) : Lit := .int .i64 s
theorem wfW {s : Int} (h : -9223372036854775808 ≤ s ∧ s ≤ 9223372036854775807) : (Lit.int .i64 s).wf = true := Go.WalkArith.wf_i64 h
theorem keyW_of {s : Int} (h : -9223372036854775808 ≤ s ∧ s ≤ 9223372036854775807) : keyOf Tryd.prog 2 (.int .i64 s) = some (keyW s) := keyOf_int_mk Tryd.underlying2 (wfW h)
theorem keyW_ne {a b : Int} (h : ¬ a = b) : keyW a ≠ keyW b := fun e => h (by simpa [keyW] using e)
theorem keyW_key (s : Int) : WideAt.IsKeyLit (keyW s) := trivial
def datW (W : Int → Int) (l : List Int) : DataW Unit := l.foldl (fun D s => D.put (keyW s) (.lit (.int .i64 (W s)))) (.map [])
theorem datW_snoc (W : Int → Int) (l : List Int) (x : Int) : datW W (l ++ [x]) = (datW W l).put (keyW x) (.lit (.int .i64 (W x))) := by unfold datW; rw [List.foldl_append]; rfl
theorem snoc_indW {Q : List Int → Prop} (h0 : Q []) (h1 : ∀ t x, Q t → Q (t ++ [x])) (t : List Int) : Q t := by
  have : ∀ u : List Int, Q u.reverse := fun u => by
    induction u with
    | nil => exact h0
    | cons x u ih => rw [List.reverse_cons]; exact h1 _ _ ih
  have k := this t.reverse
  rw [List.reverse_reverse] at k
  exact k
theorem mapW (W : Int → Int) (l : List Int) : IsMap (datW W l) := by
  refine snoc_indW (Q := fun t => IsMap (datW W t)) ⟨[], rfl⟩ (fun t x ih => ?_) l
  rw [datW_snoc]
  obtain ⟨es, h⟩ := ih
  rw [h]
  exact ⟨_, rfl⟩
theorem atW (W : Int → Int) (s : Int) (z : DataW Unit) : ∀ l : List Int, s ∈ l → (datW W l).atKey (keyW s) z = .lit (.int .i64 (W s)) := by
  refine snoc_indW (Q := fun t => s ∈ t → (datW W t).atKey (keyW s) z = .lit (.int .i64 (W s))) (fun h => by cases h) (fun t x ih hm => ?_)
  rw [datW_snoc]
  by_cases e : x = s
  · rw [e]; exact atKey_put_same (mapW W t) (keyW_key s) _ z
  · rw [atKey_put_other (keyW_ne (fun h => e h.symm))]
    exact ih (by
      rcases List.mem_append.1 hm with h | h
      · exact h
      · exact absurd (List.mem_singleton.1 h).symm e)
/-- Block M is the map of the weights W of the servers l. -/
def WtM (w : World) (M : Nat) (W : Int → Int) (l : List Int) : Prop := w.ownsMap Tryd.prog 2 (plainElem Tryd.prog 2) M l.length (datW W l)
theorem WtM.made (w : World) (W : Int → Int) : WtM (w.alloc (.map #[] 0)) w.heap.size W [] := World.ownsMap_made _ _ _ _
theorem WtM.lt {w : World} {M : Nat} {W : Int → Int} {l : List Int} (h : WtM w M W l) : M < w.heap.size := World.ownsMap.lt h
theorem WtM.grown {w w' : World} {M : Nat} {W : Int → Int} {l : List Int} {r : Option Nat} (h : WtM w M W l) (hg : w.grownBy w' r) (hne : some M ≠ r) : WtM w' M W l := World.ownsMap.kept h hg hne
theorem WtM.kept {w w' : World} {M : Nat} {W : Int → Int} {l : List Int} (h : WtM w M W l) (hb : Below w.heap.size w w') : WtM w' M W l :=
  World.ownsMap.kept h (row := none) ⟨hb.os, hb.tape, hb.output, hb.size, fun k hk _ => hb.block k hk⟩ (by simp)
theorem zero2 (w : World) : (zeroValue 2).run Tryd.prog w = .ok (.int .i64 0) w := by kernel_rfl
theorem WtM.look {w : World} {M : Nat} {W : Int → Int} {l : List Int} (h : WtM w M W l) {s : Int} (hs : s ∈ l) (hr : -9223372036854775808 ≤ s ∧ s ≤ 9223372036854775807) :
    (Instr.lookup 55 (.map (some M)) (.int .i64 s) false).run Tryd.prog w = .ok (.int .i64 (W s)) w := by
  obtain ⟨c, hrun, hat, _⟩ := World.ownsMap.lookup_int h keyedW (t := 55) (e := 2) (q := .i64) (by kernel_rfl) Tryd.underlying2 (zero2 w) (keyW_of hr)
  rw [atW W s _ l hs] at hat
  have e : W s = c := congrArg (fun d : DataW Unit => match d with | .lit (.int _ n) => n | _ => 0) hat
  rw [hrun, e]
/-- One more server. -/
theorem wpList_putW {ops : Array Oper} {rest : List Oper} {o : Oper} {a : Act} {Q : Exit → Act → World → Prop} (w : World) (hg : o.guard = Option.none) (m x v : Operand) (hop : o.op = Op.mapUpdate 55 m x v)
    (M : Nat) (W : Int → Int) (l : List Int) (hm : a.eval m = .map (some M)) (h : WtM w M W l) (hn : l.length ≤ 1000) (s : Int) (hs : -9223372036854775808 ≤ s ∧ s ≤ 9223372036854775807) (hW : -9223372036854775808 ≤ W s ∧ W s ≤ 9223372036854775807) (hx : a.eval x = .int .i64 s) (hv : a.eval v = .int .i64 (W s))
    (hK : ∀ w', WtM w' M W (l ++ [s]) → w.grownBy w' (some M) → wpList Tryd.prog ops Q rest (a.put o.dst undef) w') : wpList Tryd.prog ops Q (o :: rest) a w := by
  refine wpList_mapUpdate_own w hg m x v 55 hop 2 2 keyedW (by kernel_rfl) (plainElem Tryd.prog 2) M l.length (datW W l) hm h (by unfold maxLen; omega) _ _ (keyW s) hx hv (keyW_of hs) (.lit (.int .i64 (W s))) [] (plainElem_int Tryd.underlying2 (wfW hW)) ?_
  intro w' h1 h2
  refine hK w' ?_ h2
  unfold WtM
  rw [datW_snoc, List.length_append]
  exact h1
end Go.Proofs.YtdbeoloonoodkaaDoor.Ih

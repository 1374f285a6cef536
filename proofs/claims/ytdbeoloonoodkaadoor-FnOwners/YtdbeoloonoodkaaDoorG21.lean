/-
  A map of weights by servers: put together server by server, and asked.
  The program's heap of servers: its methods.
-/
import Derived.Test.YtdbeoloonoodkaaDoorG03
import Derived.Test.YtdbeoloonoodkaaDoorG08
import Derived.Maps.OwnSet
import Derived.Handy
import Derived.WalkArith
import Derived.Test.YtdbeoloonoodkaaDoorG20
import Derived.Test.YtdbeoloonoodkaaDoorG11
import Derived.Deep.RegionWith
namespace Go.Proofs.YtdbeoloonoodkaaDoor.Ih
open Go.RowKit Go.Maps Go.ChangeMaps Go.WideMaps
set_option linter.unusedVariables false

theorem keyedW : Keyed Tryd.prog 2 := int_keyed Tryd.underlying2
def keyW (s : Int) : Lit := .int .i64 s
theorem wfW {s : Int} (h : -9223372036854775808 ≤ s ∧ s ≤ 9223372036854775807) : (Lit.int .i64 s).wf = true := Go.WalkArith.wf_i64 h
theorem keyW_of {s : Int} (h : -9223372036854775808 ≤ s ∧ s ≤ 9223372036854775807) : keyOf Tryd.prog 2 (.int .i64 s) = some (keyW s) := keyOf_int_mk Tryd.underlying2 (wfW h)
theorem keyW_ne {a b : Int} (h : ¬ a = b) : keyW a ≠ keyW b := fun e => h (by simpa [keyW] using e)
theorem keyW_key (s : Int) : WideAt.IsKeyLit (keyW s) := trivial
def datW (W : Int → Int) (l : List Int) : DataW Unit := l.foldl (fun D s => D.put (keyW s) (.lit (.int .i64 (W s)))) (.map [])
theorem datW_snoc (W : Int → Int) (l : List Int) (x : Int) : datW W (l ++ [x]) = (datW W l).put (keyW x) (.lit (.int .i64 (W x))) := by unfold datW; rw [List.foldl_append]; rfl
theorem snoc_indW {Q : List Int → Prop} (h0 : Q []) (h1 : ∀ t x, Q t → Q (t ++ [x])) (t : List Int) : Q t := by
  have : ∀ u : List Int, Q u.reverse := fun u => by
    induction u with
    | nil => exact h0
    | cons x u ih => rw [List.reverse_cons]; exact h1 _ _ ih
  have k := this t.reverse
  rw [List.reverse_reverse] at k
  exact k
theorem mapW (W : Int → Int) (l : List Int) : IsMap (datW W l) := by
  refine snoc_indW (Q := fun t => IsMap (datW W t)) ⟨[], rfl⟩ (fun t x ih => ?_) l
  rw [datW_snoc]
  obtain ⟨es, h⟩ := ih
  rw [h]
  exact ⟨_, rfl⟩
theorem atW (W : Int → Int) (s : Int) (z : DataW Unit) : ∀ l : List Int, s ∈ l → (datW W l).atKey (keyW s) z = .lit (.int .i64 (W s)) := by
  refine snoc_indW (Q := fun t => s ∈ t → (datW W t).atKey (keyW s) z = .lit (.int .i64 (W s))) (fun h => by cases h) (fun t x ih hm => ?_)
  rw [datW_snoc]
  by_cases e : x = s
  · rw [e]; exact atKey_put_same (mapW W t) (keyW_key s) _ z
  · rw [atKey_put_other (keyW_ne (fun h => e h.symm))]
    exact ih (by
      rcases List.mem_append.1 hm with h | h
      · exact h
      · exact absurd (List.mem_singleton.1 h).symm e)
/-- Block M is the map of the weights W of the servers l. -/
def WtM (w : World) (M : Nat) (W : Int → Int) (l : List Int) : Prop := w.ownsMap Tryd.prog 2 (plainElem Tryd.prog 2) M l.length (datW W l)
theorem WtM.made (w : World) (W : Int → Int) : WtM (w.alloc (.map #[] 0)) w.heap.size W [] := World.ownsMap_made _ _ _ _
theorem WtM.lt {w : World} {M : Nat} {W : Int → Int} {l : List Int} (h : WtM w M W l) : M < w.heap.size := World.ownsMap.lt h
theorem WtM.grown {w w' : World} {M : Nat} {W : Int → Int} {l : List Int} {r : Option Nat} (h : WtM w M W l) (hg : w.grownBy w' r) (hne : some M ≠ r) : WtM w' M W l := World.ownsMap.kept h hg hne
theorem WtM.kept {w w' : World} {M : Nat} {W : Int → Int} {l : List Int} (h : WtM w M W l) (hb : Below w.heap.size w w') : WtM w' M W l :=
  World.ownsMap.kept h (row := none) ⟨hb.os, hb.tape, hb.output, hb.size, fun k hk _ => hb.block k hk⟩ (by simp)
theorem zero2 (w : World) : (zeroValue 2).run Tryd.prog w = .ok (.int .i64 0) w := by kernel_rfl
theorem WtM.look {w : World} {M : Nat} {W : Int → Int} {l : List Int} (h : WtM w M W l) {s : Int} (hs : s ∈ l) (hr : -9223372036854775808 ≤ s ∧ s ≤ 9223372036854775807) :
    (Instr.lookup 55 (.map (some M)) (.int .i64 s) false).run Tryd.prog w = .ok (.int .i64 (W s)) w := by
  obtain ⟨c, hrun, hat, _⟩ := World.ownsMap.lookup_int h keyedW (t := 55) (e := 2) (q := .i64) (by kernel_rfl) Tryd.underlying2 (zero2 w) (keyW_of hr)
  rw [atW W s _ l hs] at hat
  have e : W s = c := congrArg (fun d : DataW Unit => match d with | .lit (.int _ n) => n | _ => 0) hat
  rw [hrun, e]
/-- One more server. -/
theorem wpList_putW {ops : Array Oper} {rest : List Oper} {o : Oper} {a : Act} {Q : Exit → Act → World → Prop} (w : World) (hg : o.guard = Option.none) (m x v : Operand) (hop : o.op = Op.mapUpdate 55 m x v)
    (M : Nat) (W : Int → Int) (l : List Int) (hm : a.eval m = .map (some M)) (h : WtM w M W l) (hn : l.length ≤ 1000) (s : Int) (hs : -9223372036854775808 ≤ s ∧ s ≤ 9223372036854775807) (hW : -9223372036854775808 ≤ W s ∧ W s ≤ 9223372036854775807) (hx : a.eval x = .int .i64 s) (hv : a.eval v = .int .i64 (W s))
    (hK : ∀ w', WtM w' M W (l ++ [s]) → w.grownBy w' (some M) → wpList Tryd.prog ops Q rest (a.put o.dst undef) w') : wpList Tryd.prog ops Q (o :: rest) a w := by
  refine wpList_mapUpdate_own w hg m x v 55 hop 2 2 keyedW (by kernel_rfl) (plainElem Tryd.prog 2) M l.length (datW W l) hm h (by unfold maxLen; omega) _ _ (keyW s) hx hv (keyW_of hs) (.lit (.int .i64 (W s))) [] (plainElem_int Tryd.underlying2 (wfW hW)) ?_
  intro w' h1 h2
  refine hK w' ?_ h2
  unfold WtM
  rw [datW_snoc, List.length_append]
  exact h1
end Go.Proofs.YtdbeoloonoodkaaDoor.Ih
namespace Go.Proofs.YtdbeoloonoodkaaDoor.Ih
open Go.RowKit Go.Sort Ow
set_option linter.unusedVariables false
set_option linter.unusedSimpArgs false
variable {H : Hw}

def coE : Enc Co where
  k := 1
  pos := by decide
  c := fun x => [.int .i64 x.1]
  len := fun _ => rfl
  one := fun x u hu => by simp at hu; subst hu; rfl
abbrev OwnsC8 := OwnsE coE 2
theorem ownsC_at {w : World} {B g n cap : Nat} {l : List Co} (h : OwnsC8 w B (.slice (some ⟨g, 0, Option.none⟩) n cap) l) (j : Nat) (hj : j < l.length) : w.cell? ⟨g, j, Option.none⟩ = some (.int .i64 l[j].1) := by
  have := h.at (i := 0) hj rfl
  simpa [coE] using this
/-- A heap behind a pointer: the slice and the order in block b, its row in another one, the map of weights in a third. -/
structure HpB (H : Hw) (w : World) (B b : Nat) (l : List Co) (v : Value) : Prop where
  c : w.cell? ⟨b, 0, Option.none⟩ = some v
  f : w.frozen? ⟨b, 0, Option.none⟩ = false
  a : w.cell? ⟨b, 1, Option.none⟩ = some (.func (.func 37) #[.map (some H.M)] #[])
  lo : B ≤ b
  hi : b < w.heap.size
  o : OwnsC8 w B v l
  ne : ∀ k, v.ownBlock = some k → k ≠ b
  m : WtM w H.M H.W H.S
  mb : H.M ≠ b
  mv : ∀ k, v.ownBlock = some k → k ≠ H.M
  x : w.heap[H.X]? = some H.O
  xb : H.X ≠ b
  xv : ∀ k, v.ownBlock = some k → k ≠ H.X
theorem HpB.xlt {w : World} {B b : Nat} {l : List Co} {v : Value} (h : HpB H w B b l v) : H.X < w.heap.size := (Array.getElem?_eq_some_iff.1 h.x).1
theorem HpB.grown {w w' : World} {B b : Nat} {l l' : List Co} {v : Value} {g : Nat} (h : HpB H w B b l v) (hg : w.grownBy w' (some g)) (hgb : g ≠ b) (hgm : g ≠ H.M) (hgx : g ≠ H.X) (ho : OwnsC8 w' B v l') : HpB H w' B b l' v := by
  have e := hg.block b h.hi (fun e => hgb (by injection e with e; exact e.symm))
  refine ⟨?_, ?_, ?_, h.lo, Nat.lt_of_lt_of_le h.hi hg.size, ho, h.ne, h.m.grown hg (fun e => hgm (by injection e with e; exact e.symm)), h.mb, h.mv, (hg.block H.X h.xlt (fun e => hgx (by injection e with e; exact e.symm))).trans h.x, h.xb, h.xv⟩
  · rw [← h.c]; simp only [World.cell?]; rw [e]
  · rw [← h.f]; simp only [World.frozen?]; rw [e]
  · rw [← h.a]; simp only [World.cell?]; rw [e]
theorem HpB.kept {w w' : World} {B b : Nat} {l : List Co} {v : Value} (h : HpB H w B b l v) (hb : Below w.heap.size w w') : HpB H w' B b l v := by
  have e := hb.block b h.hi
  refine ⟨?_, ?_, ?_, h.lo, Nat.lt_of_lt_of_le h.hi hb.size, h.o.kept hb, h.ne, h.m.kept hb, h.mb, h.mv, (hb.block H.X h.xlt).trans h.x, h.xb, h.xv⟩
  · rw [← h.c]; simp only [World.cell?]; rw [e]
  · rw [← h.f]; simp only [World.frozen?]; rw [e]
  · rw [← h.a]; simp only [World.cell?]; rw [e]
theorem mthLen (b : Nat) (w : World) : (method 218 52 (.pointer (some ⟨b, 0, none⟩)) "Len").run Tryd.prog w = .ok (39, .pointer (some ⟨b, 0, none⟩)) w := by kernel_rfl
theorem mthLess (b : Nat) (w : World) : (method 218 52 (.pointer (some ⟨b, 0, none⟩)) "Less").run Tryd.prog w = .ok (87, .pointer (some ⟨b, 0, none⟩)) w := by kernel_rfl
theorem mthSwap (b : Nat) (w : World) : (method 218 52 (.pointer (some ⟨b, 0, none⟩)) "Swap").run Tryd.prog w = .ok (90, .pointer (some ⟨b, 0, none⟩)) w := by kernel_rfl
theorem mthPush (b : Nat) (w : World) : (method 218 52 (.pointer (some ⟨b, 0, none⟩)) "Push").run Tryd.prog w = .ok (89, .pointer (some ⟨b, 0, none⟩)) w := by kernel_rfl
theorem mthPop (b : Nat) (w : World) : (method 218 52 (.pointer (some ⟨b, 0, none⟩)) "Pop").run Tryd.prog w = .ok (88, .pointer (some ⟨b, 0, none⟩)) w := by kernel_rfl
theorem implLen (b : Nat) (a : Option Addr) (n cap : Nat) (w : World) (c0 : w.cell? ⟨b, 0, none⟩ = some (.slice a n cap)) : Calls Tryd.prog 39 #[.pointer (some ⟨b, 0, none⟩)] w fun e w' => e = .returned (.int .i64 (n : Int)) ∧ w = w' := by
  go_enter Tryd.func39, Tryd.ntmps39
  go_wp2
  go_ret
  exact ⟨rfl, rfl⟩
set_option maxRecDepth 100000 in
set_option maxHeartbeats 1000000 in
theorem implAhd (x y : Int) (w : World) (hm : WtM w H.M H.W H.S) (hx : x ∈ H.S) (hy : y ∈ H.S) :
    Calls Tryd.prog 37 #[.map (some H.M), .int .i64 x, .int .i64 y] w fun e w' => e = .returned (.bool (lessC (x, H.W x) (y, H.W y))) ∧ w = w' := by
  have rx := H.inn x hx
  have ry := H.inn y hy
  have l1 := hm.look hx (by omega)
  have l2 := hm.look hy (by omega)
  have HL : Hid ((H.W x = H.W y → decide (x < y) = lessC (x, H.W x) (y, H.W y)) ∧ (H.W x ≠ H.W y → decide (H.W y < H.W x) = lessC (x, H.W x) (y, H.W y))) := by
    show _ ∧ _
    unfold lessC
    exact ⟨fun e => (if_pos e).symm, fun e => (if_neg e).symm⟩
  generalize lessC (x, H.W x) (y, H.W y) = L at HL ⊢
  generalize H.W x = p at l1 HL
  generalize H.W y = q at l2 HL
  generalize H.M = M at l1 l2 ⊢
  clear hm hx hy
  by_cases e : p = q
  · have e1 : (p == q) = true := by simpa using e
    have HE : Hid (decide (x < y) = L) := HL.out.1 e
    clear e HL
    go_enter Tryd.func37, Tryd.ntmps37
    go_wp2
    go_ret
    exact ⟨congrArg (fun z => Ending.returned (.bool z)) HE.out, rfl⟩
  · have e1 : (p == q) = false := by simpa using e
    have HE : Hid (decide (q < p) = L) := HL.out.2 e
    clear e HL
    go_enter Tryd.func37, Tryd.ntmps37
    go_wp2
    go_ret
    exact ⟨congrArg (fun z => Ending.returned (.bool z)) HE.out, rfl⟩
theorem implAhdR (x y : Int) (L : Bool) (hL : lessC (x, H.W x) (y, H.W y) = L) (w : World) (hm : WtM w H.M H.W H.S) (hx : x ∈ H.S) (hy : y ∈ H.S) (d : Nat) (os : Array Obj) :
    Calls Tryd.prog 37 #[.map (some H.M), .int .i64 x, .int .i64 y] (grow (redrawn w d) os) fun e w'' => e = .returned (.bool L) ∧ ∃ p : Regrown, w'' = grow (redrawn w p.d) p.os :=
  Calls.regrown_of ((implAhd x y _ (hm.kept (below_regrown w d os)) hx hy).mono fun e w' ⟨h1, h2⟩ => ⟨by rw [h1, hL], h2 ▸ Below.refl _ _⟩)
set_option maxRecDepth 100000 in
set_option maxHeartbeats 2000000 in
theorem implLess (b g cap i j : Nat) (l : List Co) (B : Nat) (w : World) (h : HpB H w B b l (.slice (some ⟨g, 0, none⟩) l.length cap)) (hn : Nm H l) (hl : l.length ≤ 100) (hi : i < l.length) (hj : j < l.length) :
    Calls Tryd.prog 87 #[.pointer (some ⟨b, 0, none⟩), .int .i64 (i : Int), .int .i64 (j : Int)] w fun e w' => e = .returned (.bool (lessC l[i] l[j])) ∧ Below w.heap.size w w' := by
  have a1 := ownsC_at h.o i hi
  have b1 := ownsC_at h.o j hj
  have hii : (i : Int) < (l.length : Int) := by omega
  have hji : (j : Int) < (l.length : Int) := by omega
  have n1 := hn _ (List.getElem_mem hi)
  have n2 := hn _ (List.getElem_mem hj)
  generalize l[i] = p at a1 n1 ⊢
  generalize l[j] = q at b1 n2 ⊢
  obtain ⟨p1, p2⟩ := p
  obtain ⟨q1, q2⟩ := q
  dsimp only at a1 b1 n1 n2
  obtain ⟨n1, rfl⟩ := n1
  obtain ⟨n2, rfl⟩ := n2
  have j1 := implAhdR p1 q1 _ rfl w h.m n1 n2
  generalize lessC (p1, H.W p1) (q1, H.W q1) = L at j1 ⊢
  have k1 := cell_regrown a1
  have k2 := cell_regrown b1
  have k3 := cell_regrown h.c
  have k4 := cell_regrown h.a
  generalize H.M = M at j1 k4
  clear h hn n1 n2 a1 b1
  go_enter Tryd.func87, Tryd.ntmps87
  go_wp2_with fail
  refine wp_region_quiet_below (by kernel_rfl) (by kernel_rfl) ?_
  repeat (go_big_quiet_step (with_reducible exact j1 _ _))
  refine wpQuiet_nil ?_
  intro _ hw'
  obtain ⟨⟨dq, osq⟩, hw''⟩ := hw'
  subst hw''
  have BN : Hid (Below w.heap.size w (grow (redrawn w dq) osq)) := (show Hid _ from below_regrown w dq osq)
  generalize grow (redrawn w dq) osq = wn at BN ⊢
  go_wp2
  go_ret
  exact ⟨rfl, BN.out⟩
/-- Two elements stored anew. -/
theorem setE2 {w : World} {B g cap i : Nat} {l : List Co} (h : OwnsC8 w B (.slice (some ⟨g, 0, Option.none⟩) l.length cap) l) (hi : i < l.length) (x : Co) :
    OwnsC8 (w.setCell ⟨g, i, Option.none⟩ (.int .i64 x.1)) B (.slice (some ⟨g, 0, Option.none⟩) l.length cap) (l.set i x) := by
  have h1 := h.put rfl hi (i := 0) (by decide) (.int .i64 x.1) x rfl
  have e : i * coE.k + 0 = i := by show i * 1 + 0 = i; omega
  rw [e] at h1
  exact h1
theorem swapE {w : World} {B g cap i j : Nat} {l : List Co} (h : OwnsC8 w B (.slice (some ⟨g, 0, Option.none⟩) l.length cap) l) (hi : i < l.length) (hj : j < l.length) :
    OwnsC8 ((w.setCell ⟨g, i, Option.none⟩ (.int .i64 l[j].1)).setCell ⟨g, j, Option.none⟩ (.int .i64 l[i].1)) B (.slice (some ⟨g, 0, Option.none⟩) l.length cap) (swpC l i j) := by
  have h1 := setE2 h hi l[j]
  have e : (l.set i l[j]).length = l.length := List.length_set
  rw [← e] at h1
  have h2 := setE2 h1 (i := j) (by rw [e]; exact hj) l[i]
  rw [e] at h2
  have es : swpC l i j = (l.set i l[j]).set j l[i] := by
    unfold swpC
    simp [List.getD, hi, hj]
  rw [es]
  exact h2
theorem swapG {w : World} {g a c : Nat} {x z : Value} : w.grownBy ((w.setCell ⟨g, a, Option.none⟩ x).setCell ⟨g, c, Option.none⟩ z) (some g) :=
  grownE_put (grownE_put (grownE_self w _) _ _) _ _
end Go.Proofs.YtdbeoloonoodkaaDoor.Ih

/-
  Drawn sketches: a sketch in a box of one's own, beside the code.
-/
import Derived.Test.YtdoolnaekmffbaaSkE
import Derived.Test.YtdoolnaekmffbaaSkF
import Derived.Test.YtdoolnaekmffbaaOwG
import Derived.Test.YtdoolnaekmffbaaRomH
import Derived.Deep.RegionWith
import Derived.Deep.RegionLaw
namespace Go.Proofs.Ytdoolnaekmffbaa
open Go.RowKit Go.Sort Ow Sk
set_option linter.unusedVariables false
set_option linter.unusedSimpArgs false

theorem Bx.bs {b : Nat} {W W' : World} {g : Nat} {ty : TypeId} {vs : Array Value} (h : Bx W g ty vs) (hb : Beside b W W') (hne : g ≠ b) : Bx W' g ty vs := (hb.2.2.2.2 g h.lt hne).trans h
theorem Bx.put2 {W : World} {g : Nat} {ty : TypeId} {p0 q0 : Value} (h : Bx W g ty #[p0, q0]) (p q : Value) : Bx ((W.setCell ⟨g, 0, none⟩ p).setCell ⟨g, 1, none⟩ q) g ty #[p, q] := (h.put 0 p).put 1 q
structure De (w W : World) (b : Nat) (sa : Option Addr) (sl sc : Nat) (m : Nat) (q : Int) (u : Value) (l : List Int) : Prop where
  cur : Cur W b sa sl sc
  bs : Beside b w W
  r : Bx W w.heap.size 26 #[.int .i64 0, .slice none 0 0]
  bx : Bx W m 26 #[.int .i64 q, u]
  own : OwnsN W (w.heap.size + 1) u l
  ne : u.ownBlock ≠ some m
  mb : w.heap.size < m
  bb : b < w.heap.size
theorem De.beside {w W W' : World} {b : Nat} {sa : Option Addr} {sl sc m : Nat} {q : Int} {u : Value} {l : List Int} (h : De w W b sa sl sc m q u l) (hc : Cur W' b sa sl sc) (hb : Beside b W W') : De w W' b sa sl sc m q u l := by
  have h1 := h.mb; have h2 := h.bb
  exact ⟨hc, h.bs.trans hb, h.r.bs hb (by omega), h.bx.bs hb (by omega), h.own.bsN hb (by omega), h.ne, h.mb, h.bb⟩
theorem De.below {w W W' : World} {b : Nat} {sa : Option Addr} {sl sc m : Nat} {q : Int} {u : Value} {l : List Int} (h : De w W b sa sl sc m q u l) (hb : Below W.heap.size W W') : De w W' b sa sl sc m q u l :=
  ⟨h.cur.kept hb h.cur.2.2.1, h.bs.below hb, h.r.kept hb, h.bx.kept hb, h.own.kept hb, h.ne, h.mb, h.bb⟩
theorem De.more {w W : World} {b : Nat} {sa : Option Addr} {sl sc m : Nat} {q : Int} {u : Value} {l : List Int} (h : De w W b sa sl sc m q u l) (o : Obj) : De w (W.alloc o) b sa sl sc m q u l := h.below ((Below.refl _ W).alloc (Nat.le_refl _) _)
theorem De.drew {w W : World} {b : Nat} {sa : Option Addr} {sl sc m : Nat} {q : Int} {u : Value} {l : List Int} (h : De w W b sa sl sc m q u l) : De w W.drew b sa sl sc m q u l := h.below ⟨rfl, rfl, rfl, Nat.le_refl _, fun _ _ => rfl⟩
/-- Another sketch is put into the box. -/
theorem De.put {w W : World} {b : Nat} {sa : Option Addr} {sl sc m : Nat} {q : Int} {u : Value} {l : List Int} {q' : Int} {u' : Value} {l' : List Int} (h : De w W b sa sl sc m q u l) (ho : OwnsN W (w.heap.size + 1) u' l') (hne : u'.ownBlock ≠ some m) : De w ((W.setCell ⟨m, 0, none⟩ (.int .i64 q')).setCell ⟨m, 1, none⟩ u') b sa sl sc m q' u' l' := by
  have h1 := h.mb; have h2 := h.bb
  have k : Below m W ((W.setCell ⟨m, 0, none⟩ (.int .i64 q')).setCell ⟨m, 1, none⟩ u') := ((Below.refl m W).setCell (p := ⟨m, 0, none⟩) (Nat.le_refl m) _).setCell (p := ⟨m, 1, none⟩) (Nat.le_refl m) _
  exact ⟨h.cur.kept k (by omega), h.bs.grow k (by omega), h.r.low k (by omega), h.bx.put2 _ _, (ho.other _ _ (fun k hk e => hne (by rw [hk]; exact congrArg some e))).other _ _ (fun k hk e => hne (by rw [hk]; exact congrArg some e)), hne, h.mb, h.bb⟩
theorem De.setQ {w W : World} {b : Nat} {sa : Option Addr} {sl sc m : Nat} {q : Int} {u : Value} {l : List Int} (h : De w W b sa sl sc m q u l) (q' : Int) : De w (W.setCell ⟨m, 0, none⟩ (.int .i64 q')) b sa sl sc m q' u l := by
  have h1 := h.mb; have h2 := h.bb
  have k : Below m W (W.setCell ⟨m, 0, none⟩ (.int .i64 q')) := (Below.refl m W).setCell (p := ⟨m, 0, none⟩) (Nat.le_refl m) _
  exact ⟨h.cur.kept k (by omega), h.bs.grow k (by omega), h.r.low k (by omega), h.bx.put 0 _, h.own.other _ _ (fun k hk e => h.ne (by rw [hk]; exact congrArg some e)), h.ne, h.mb, h.bb⟩
/-- Other numbers are put into the box. -/
theorem De.setU {w W : World} {b : Nat} {sa : Option Addr} {sl sc m : Nat} {q : Int} {u : Value} {l : List Int} {u' : Value} {l' : List Int} (h : De w W b sa sl sc m q u l) (ho : OwnsN W (w.heap.size + 1) u' l') (hne : u'.ownBlock ≠ some m) : De w (W.setCell ⟨m, 1, none⟩ u') b sa sl sc m q u' l' := by
  have h1 := h.mb; have h2 := h.bb
  have k : Below m W (W.setCell ⟨m, 1, none⟩ u') := (Below.refl m W).setCell (p := ⟨m, 1, none⟩) (Nat.le_refl m) _
  exact ⟨h.cur.kept k (by omega), h.bs.grow k (by omega), h.r.low k (by omega), h.bx.put 1 _, ho.other _ _ (fun k hk e => hne (by rw [hk]; exact congrArg some e)), hne, h.mb, h.bb⟩
theorem De.push {w W W' : World} {b : Nat} {sa : Option Addr} {sl sc m : Nat} {q : Int} {u : Value} {l : List Int} {u' : Value} {l' : List Int} (h : De w W b sa sl sc m q u l) (hg : W.grownBy W' u.ownBlock) (ho : OwnsN W' (w.heap.size + 1) u' l') (hat : ∀ k, u'.ownBlock = some k → u.ownBlock = some k ∨ W.heap.size ≤ k) : Bx W' m 26 #[.int .i64 q, u] ∧ De w (W'.setCell ⟨m, 1, none⟩ u') b sa sl sc m q u' l' := by
  have h1 := h.mb; have h2 := h.bb
  have f := fun k hk => h.own.from k hk
  have T : Bx W' m 26 #[.int .i64 q, u] := h.bx.grown hg h.ne
  have hne : u'.ownBlock ≠ some m := fun e => by
    rcases hat m e with e1 | e1
    · exact h.ne e1
    · have := h.bx.lt; omega
  have k0 : Below (w.heap.size + 1) W W' := belowE (Below.refl _ W) hg (by have := h.r.lt; omega) f
  have k : Below (w.heap.size + 1) W (W'.setCell ⟨m, 1, none⟩ u') := k0.setCell (p := ⟨m, 1, none⟩) (by show _ ≤ m; omega) _
  exact ⟨T, ⟨h.cur.kept k (by omega), h.bs.grow k (by omega), h.r.low k (by omega), T.put 1 _, ho.other _ _ (fun k hk e => hne (by rw [hk]; exact congrArg some e)), hne, h.mb, h.bb⟩⟩
theorem De.out {w W : World} {b : Nat} {sa : Option Addr} {sl sc m : Nat} {q : Int} {u : Value} {l : List Int} (h : De w W b sa sl sc m q u l) (x : Value) : OwnsN ((W.setCell ⟨w.heap.size, 0, none⟩ x).setCell ⟨w.heap.size, 1, none⟩ u) w.heap.size u l ∧ Cur ((W.setCell ⟨w.heap.size, 0, none⟩ x).setCell ⟨w.heap.size, 1, none⟩ u) b sa sl sc ∧ Beside b w ((W.setCell ⟨w.heap.size, 0, none⟩ x).setCell ⟨w.heap.size, 1, none⟩ u) := by
  have h1 := h.mb; have h2 := h.bb
  have k : Below w.heap.size W ((W.setCell ⟨w.heap.size, 0, none⟩ x).setCell ⟨w.heap.size, 1, none⟩ u) := ((Below.refl w.heap.size W).setCell (p := ⟨w.heap.size, 0, none⟩) (Nat.le_refl _) _).setCell (p := ⟨w.heap.size, 1, none⟩) (Nat.le_refl _) _
  exact ⟨((h.own.other _ _ (fun k hk => by have := h.own.from k hk; show k ≠ w.heap.size; omega)).other _ _ (fun k hk => by have := h.own.from k hk; show k ≠ w.heap.size; omega)).low (by omega), h.cur.kept k h.bb, h.bs.grow k (Nat.le_refl _)⟩
theorem step_pushK {ops : Array Oper} {o : Oper} {a : Act} {K : Act → World → Prop} {Q : Exit → Act → World → Prop} {X : Prop} {w : World} (hgd : o.guard = none) (s x : Operand)
    (ho : o.op = .call { callee := .builtin .append, args := #[s, x], argTypes := #[24, 24] }) (B : Nat) (v : Value) (l : List Int) (c : Int) (hs : a.eval s = v) (hown : OwnsN w B v l)
    (hx : a.eval x = .slice (some ⟨w.heap.size, 0, none⟩) 1 1) (hlen : l.length ≤ 1000000) (hB : B ≤ w.heap.size)
    (h : ∀ v' w', OwnsN w' B v' (l ++ [c]) → w.grownBy w' v.ownBlock → (∀ k, v'.ownBlock = some k → v.ownBlock = some k ∨ w.heap.size ≤ k) → K (a.put o.dst v') w') :
    if Region.wanted o (yielded ops a.tmps) = true then Oper.wp Try.prog o a (w.alloc (.cells #[.int .i64 c] 2)) K Q else X := by
  have hw : Region.wanted o (yielded ops a.tmps) = true := by simp [Region.wanted, hgd]
  rw [if_pos hw]
  obtain ⟨i0, hi, hz0, hz1, hz2⟩ := info_parts Try.infoN2
  obtain ⟨v', w', hr, h2, h3, h4, h5⟩ := run_append_own_at (P := Try.prog) (w.alloc (.cells #[.int .i64 c] 2)) B 24 o.type 2 i0 (.int .i64 0) intE.k 8 Try.underlying24 hi hz0 hz1 hz2 rfl intE.pos v l.length (cellsE intE l) (OwnsE.alloc hown _) ⟨w.heap.size, 0, none⟩ [c].length 1 (cellsE intE [c]) (cellsE_length intE [c]) (fresh_cell w c #[.int .i64 c] 2 rfl) (cellsE_one intE [c]) (by unfold maxLen; simp; omega) (by simp; omega) (by simp; omega)
  have hx' : a.eval x = .slice (some ⟨w.heap.size, 0, none⟩) [c].length 1 := hx
  unfold Oper.wp execOp
  simp only [ho, resolve, invoke, builtin, Sem.run_bind, Sem.run_pure, Result.andThen_ok, List.map_toArray, List.map_cons, List.map_nil, hs, hx', hr]
  refine h v' w' ?_ ⟨h3.os, h3.tape, h3.output, ?_, ?_⟩ ?_
  · show w'.ownsRow _ _ 1 _ _ _
    rw [cellsE_append, List.length_append]
    exact h2
  · have := h3.size
    simp at this
    omega
  · intro k hk hne
    rw [h3.block k (by simp; omega) hne]
    exact Below.heap_alloc _ _ _ hk
  · intro k hk
    rcases h5 with e | e
    · exact .inl (e.symm.trans hk)
    · rw [e] at hk
      simp at hk
      exact .inr (by omega)
theorem mrkL_few (n : Int) (l : List Int) (key : ByteArray) : (mrkL n l key).length ≤ 512 := by
  cases h : skOk n l with
  | true => exact (mrk_ok key h).few
  | false => unfold mrkL; rw [h]; exact Nat.zero_le _
end Go.Proofs.Ytdoolnaekmffbaa

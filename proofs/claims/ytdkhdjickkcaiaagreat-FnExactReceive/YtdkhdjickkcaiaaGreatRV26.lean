/-
  Where one stands among rising ones; the library's Insert of one message at the end; a row of Tells that grew.
  The walk of FnExactSuspect, given both sides' Suspect.
  A replica of a call's own beside blocks that stay as they are.
  The specification's asking, and rows of messages made anew, beside blocks that stay.
  The program's askFor, countAnew, beNormal, beside blocks that stay.
  The specification's number into a list that rises.
-/
import Derived.Test.YtdkhdjickkcaiaaGreatRVS
import Derived.Test.YtdkhdjickkcaiaaGreatRV24
import Derived.Test.YtdkhdjickkcaiaaGreatRV23
import Derived.Test.YtdkhdjickkcaiaaGreatRV25
import Derived.Test.YtdkhdjickkcaiaaGreatRV19
import Derived.Test.YtdkhdjickkcaiaaGreatRV18
import Derived.Test.YtdkhdjickkcaiaaGreatRV22
import Derived.Test.YtdkhdjickkcaiaaGreatRV20
import Derived.Test.YtdkhdjickkcaiaaGreatRV16
import Derived.Test.YtdkhdjickkcaiaaGreatRV21
import Derived.Test.YtdkhdjickkcaiaaGreatRV17
set_option linter.unusedVariables false
set_option linter.unusedSimpArgs false
set_option maxRecDepth 100000
set_option maxHeartbeats 64000000
namespace Go.Proofs.YtdkhdjickkcaiaaGreat
open Go.RowKit Go.Sort

theorem callG3 {ops : Array Oper} {o : Oper} {a : Act} {w : World} {K : Act → World → Prop} {Q : Exit → Act → World → Prop} {E : Prop} (hw : Region.wanted o (yielded ops a.tmps) = true) (f : FuncId) (x0 x1 x2 : Operand) (ts : Array TypeId)
  (ho : o.op = .call { callee := .value (.func f), args := #[x0, x1, x2], argTypes := ts }) (v0 v1 v2 : Value) (h0 : a.eval x0 = v0) (h1 : a.eval x1 = v1) (h2 : a.eval x2 = v2) (hent : ∀ w, (callFunc f #[v0, v1, v2]).run Tryz.prog w = .ok (.enter f #[v0, v1, v2]) w) (R : Value → World → Prop)
  (hc : Calls Tryz.prog f #[v0, v1, v2] w fun e w' => ∃ v, e = .returned v ∧ R v w') (h : ∀ v w', R v w' → K (a.put o.dst v) w') :
  if Region.wanted o (yielded ops a.tmps) = true then Oper.wp Tryz.prog o a w K Q else E :=
 callG hw f #[x0, x1, x2] ts ho #[v0, v1, v2] (by simp [h0, h1, h2]) hent R hc h
end Go.Proofs.YtdkhdjickkcaiaaGreat
namespace Go.Proofs.YtdkhdjickkcaiaaGreat.Rl
open Go.RowKit Go.Sort Go.Shelf

theorem SrcAt.one {l : List Int} {z : Int} {k k' : Nat} {D D' : Bool} (h : SrcAt l z k D) (h' : SrcAt l z k' D') : k = k' ∧ D = D' := by
 have ge : ∀ {k : Nat} {D : Bool}, SrcAt l z k D → ∀ (hk : k < l.length), z ≤ l[k] := fun {k D} h hk => by
  cases D with
  | true => obtain ⟨_, e⟩ := h.yes rfl; omega
  | false => exact Int.le_of_lt (h.no rfl hk)
 have e : k = k' := by
  rcases Nat.lt_trichotomy k k' with hlt | e | hlt
  ·
   have h1 := h'.le
   have h2 := ge h (by omega)
   have h3 := h'.lo k (by omega) hlt
   omega
  ·
   exact e
  ·
   have h1 := h.le
   have h2 := ge h' (by omega)
   have h3 := h.lo k' (by omega) hlt
   omega
 subst e
 refine ⟨rfl, ?_⟩
 cases D <;> cases D'
 ·
  rfl
 ·
  obtain ⟨h1, h2⟩ := h'.yes rfl
  have := h.no rfl h1
  omega
 ·
  obtain ⟨h1, h2⟩ := h.yes rfl
  have := h'.no rfl h1
  omega
 ·
  rfl
theorem SrcAt.is : ∀ (l : List Int) (z : Int), ∃ k D, SrcAt l z k D
 | [], z => ⟨0, false, Nat.le_refl _, fun i h => absurd h (Nat.not_lt_zero _), fun h => (by cases h), fun _ h => absurd h (Nat.not_lt_zero _)⟩
 | x :: t, z => by
  by_cases h1 : x < z
  ·
   obtain ⟨k, D, h⟩ := SrcAt.is t z
   refine ⟨k + 1, D, by simpa using h.le, fun i hi hk => ?_, fun e => ?_, fun e hk => ?_⟩
   ·
    cases i with
    | zero => exact h1
    | succ i => exact h.lo i (by simpa using hi) (by omega)
   ·
    obtain ⟨a, b⟩ := h.yes e
    exact ⟨by simpa using a, by simpa using b⟩
   ·
    have := h.no e (by simpa using hk)
    simpa using this
  ·
   by_cases h2 : x = z
   ·
    exact ⟨0, true, Nat.zero_le _, fun i _ hk => absurd hk (Nat.not_lt_zero _), fun _ => ⟨by simp, h2⟩, fun e => (by cases e)⟩
   ·
    exact ⟨0, false, Nat.zero_le _, fun i _ hk => absurd hk (Nat.not_lt_zero _), fun e => (by cases e), fun _ _ => (by show z < x; omega)⟩
theorem implBsA (v : Value) (T : List Mx) (z : Int) (k : Nat) (D : Bool) (w : World) (h : Sls mxE w v T) (hl : T.length ≤ 1000) (hr : (T.map (·.m.f)).Pairwise (· < ·)) (hs : SrcAt (T.map (·.m.f)) z k D) :
  Calls Tryz.prog 157 #[v, .int .i64 z, .func (.func 158) #[] #[]] w fun e w' => e = .returned (.tuple #[.int .i64 (k : Int), .bool D]) ∧ Below w.heap.size w w' :=
 (implBsf v T z w h hl hr).mono fun e w' ⟨k', D', h1, h2, h3⟩ => by
  obtain ⟨rfl, rfl⟩ := hs.one h2
  exact ⟨h1, h3⟩
structure InsP (w w' : World) (B : Nat) (te v : Value) (T : List Mx) (k : Nat) (x : Mx) : Prop where
 row : OwnsM w' B v (T.take k ++ x :: T.drop k)
 grown : w.grownBy w' te.ownBlock
 blk : v.ownBlock = te.ownBlock ∨ ∃ n, v.ownBlock = some n ∧ w.heap.size ≤ n
theorem implInsE (te : Value) (T : List Mx) (x : Mx) (B g : Nat) (w : World) (h : OwnsM w B te T) (hg : Bx w g 30 (mxV x)) (hl : T.length ≤ 1000) (hB : B ≤ w.heap.size) :
  Calls Tryz.prog 160 #[te, .int .i64 (T.length : Int), .slice (some ⟨g, 0, none⟩) 1 1] w fun e w' => ∃ v, e = .returned v ∧ InsP w w' B te v T T.length x := by
 have H : Hid (OwnsM w B te T) := h
 have HG : Hid (Bx w g 30 (mxV x)) := hg
 obtain ⟨a, c, rfl, h1, h2⟩ := h.form
 unfold maxLen at h2
 have HL : Hid (T.length ≤ 1000 ∧ B ≤ w.heap.size) := hH_ (⟨hl, hB⟩)
 clear hg
 by_cases hcc : T.length = c
 ·
  subst hcc
  go_enter Tryz.func160, Tryz.ntmps160
  go_upto_region 8 with (refine wpList_rowE_at (E := mxE) _ rfl (.tmp 23) (.tmp 24) 26 30 _ 72 Tryz.underlying26 Tryz.infoMSV rfl rfl B (.slice a T.length T.length) T rfl H.out ⟨g, 0, none⟩ 1 [x] rfl (fun j q hq => by
    rw [cellsE_single] at hq
    rw [addr_add, Nat.zero_add, HG.out.cell j]
    simpa [mxE, mxC, mxV, Mx.u] using hq) (by have:=HL.out;unfold maxLen; simp only [List.length_singleton]; omega) (by have:=HL.out;simp only [List.length_singleton]; omega) HL.out.2 ?_; intro v w' k1 k2 _ k4)
  have K1 : Hid (OwnsM w' B v (T ++ [x])) := k1
  have K2 : Hid (w.grownBy w' (Value.slice a T.length T.length).ownBlock ∧ (v.ownBlock = (Value.slice a T.length T.length).ownBlock ∨ v.ownBlock = some w.heap.size)) := hH_ (⟨k2, k4⟩)
  clear k1 k2 k4 h1 h2 h
  go_wp2
  go_ret
  refine ⟨_, rfl, ⟨?_, K2.out.1, ?_⟩⟩
  ·
   rw [List.take_length, List.drop_length]
   exact K1.out
  ·
   rcases K2.out.2 with e | e
   ·
    exact .inl e
   ·
    exact .inr ⟨_, e, Nat.le_refl _⟩
 ·
  have hcc2 : ¬ (c : Int) = (T.length : Int) := by omega
  have hcc3 : ¬ c - T.length = 0 := by omega
  go_enter Tryz.func160, Tryz.ntmps160
  go_upto_region 8 with (refine wpList_rowE_at (E := mxE) _ rfl (.tmp 23) (.tmp 24) 26 30 _ 72 Tryz.underlying26 Tryz.infoMSV rfl rfl B (.slice a T.length c) T rfl H.out ⟨g, 0, none⟩ 1 [x] rfl (fun j q hq => by
    rw [cellsE_single] at hq
    rw [addr_add, Nat.zero_add, HG.out.cell j]
    simpa [mxE, mxC, mxV, Mx.u] using hq) (by have:=HL.out;unfold maxLen; simp only [List.length_singleton]; omega) (by have:=HL.out;simp only [List.length_singleton]; omega) HL.out.2 ?_; intro v w' k1 k2 _ k4)
  have K1 : Hid (OwnsM w' B v (T ++ [x])) := k1
  have K2 : Hid (w.grownBy w' (Value.slice a T.length c).ownBlock ∧ (v.ownBlock = (Value.slice a T.length c).ownBlock ∨ v.ownBlock = some w.heap.size)) := hH_ (⟨k2, k4⟩)
  clear k1 k2 k4 h1 h2 h
  go_wp2
  go_ret
  refine ⟨_, rfl, ⟨?_, K2.out.1, ?_⟩⟩
  ·
   rw [List.take_length, List.drop_length]
   exact K1.out
  ·
   rcases K2.out.2 with e | e
   ·
    exact .inl e
   ·
    exact .inr ⟨_, e, Nat.le_refl _⟩
open Go.RowKit Go.Sort Pg

theorem rp_fit {r : Rp} (h : RpOk r) : Fit r ∧ 1 + cR r ≤ 40000000 := by
 refine ⟨h.fit, ?_⟩
 have h1 := logB_sm h.l
 have h2 := h.te5
 have h3 := h.ok5
 have h4 := h.ch5
 have h5 := sum_le_mul (r.te.map fun m => m.l.length) 60 (fun x hx => by obtain ⟨m, hm, rfl⟩ := List.mem_map.1 hx; exact (h2.2 m hm).1)
 rw [List.length_map] at h5
 have h6 : r.te.length * 60 ≤ 5 * 60 := Nat.mul_le_mul_right _ h2.1
 unfold cR
 omega
end Go.Proofs.YtdkhdjickkcaiaaGreat.Rl
namespace Go.Proofs.YtdkhdjickkcaiaaGreat.Rl.Fr
open Go.RowKit Go.Sort Go.Shelf

abbrev Frm := List (Nat × TypeId × Array Value)
structure FrOk (F : Frm) (w : World) (b : Nat) (u : Rv) : Prop where
 k : ∀ x ∈ F, Bx w x.1 x.2.1 x.2.2 ∧ x.1 ≠ b ∧ ∀ v ∈ u.rows, v.ownBlock ≠ some x.1
structure RpAt (F : Frm) (w : World) (B b : Nat) (u : Rv) (r : Rp) : Prop where
 c : RpB w b r u
 o : RpOw w B u r
 apt : RpAp u
 hb : B ≤ b
 fr : FrOk F w b u
variable {F : Frm}
theorem FrOk.kept {w w' : World} {b : Nat} {u : Rv} (h : FrOk F w b u) (hb : Below w.heap.size w w') : FrOk F w' b u := ⟨fun x hx => ⟨Bx.kept (h.k x hx).1 hb, (h.k x hx).2⟩⟩
theorem FrOk.set {w : World} {b i : Nat} {v : Value} {u : Rv} (h : FrOk F w b u) : FrOk F (w.setCell ⟨b, i, none⟩ v) b u := ⟨fun x hx => ⟨Bx.other (h.k x hx).1 i v (h.k x hx).2.1, (h.k x hx).2⟩⟩
theorem FrOk.new {w w1 : World} {b : Nat} {u u' : Rv} (h : FrOk F w b u) (hb : Below w.heap.size w w1) (hr : ∀ v ∈ u'.rows, v ∈ u.rows ∨ ∀ k, v.ownBlock = some k → w.heap.size ≤ k) : FrOk F w1 b u' :=
 ⟨fun x hx => ⟨Bx.kept (h.k x hx).1 hb, (h.k x hx).2.1, fun v hv e => by
  rcases hr v hv with h1 | h1
  ·
   exact (h.k x hx).2.2 v h1 e
  ·
   have := h1 _ e
   have := Bx.lt (h.k x hx).1
   omega⟩⟩
theorem FrOk.of {w w1 : World} {b : Nat} {u u' : Rv} (h : FrOk F w b u) (hw : ∀ k, k < w.heap.size → k ≠ b → (∀ v ∈ u.rows, v.ownBlock ≠ some k) → w1.heap[k]? = w.heap[k]?) (hr : ∀ v ∈ u'.rows, (∃ y ∈ u.rows, v.ownBlock = y.ownBlock) ∨ (∀ k, v.ownBlock = some k → w.heap.size ≤ k) ∨ ∀ x ∈ F, v.ownBlock ≠ some x.1) : FrOk F w1 b u' :=
 ⟨fun x hx => ⟨(hw x.1 (Bx.lt (h.k x hx).1) (h.k x hx).2.1 (h.k x hx).2.2).trans (h.k x hx).1, (h.k x hx).2.1, fun v hv e => by
  rcases hr v hv with ⟨y, hy, h1⟩ | h1 | h1
  ·
   exact (h.k x hx).2.2 y hy (h1 ▸ e)
  ·
   have := h1 _ e
   have := Bx.lt (h.k x hx).1
   omega
  ·
   exact h1 x hx e⟩⟩
theorem RpAt.plain {w : World} {B b : Nat} {u : Rv} {r : Rp} (h : RpAt F w B b u r) : Rl.RpAt w B b u r := ⟨h.c, h.o, h.apt, h.hb⟩
theorem RpAt.beside {w : World} {B b : Nat} {u : Rv} {r : Rp} (h : RpAt F w B b u r) {k : Nat} {ty : TypeId} {vs : Array Value} (hk : Bx w k ty vs) (hb : k ≠ b) (hr : ∀ v ∈ u.rows, v.ownBlock ≠ some k) : RpAt ((k, ty, vs) :: F) w B b u r :=
 ⟨h.c, h.o, h.apt, h.hb, ⟨fun x hx => by
  rcases List.mem_cons.1 hx with rfl | hx
  ·
   exact ⟨hk, hb, hr⟩
  ·
   exact h.fr.k x hx⟩⟩
theorem RpAt.less {w : World} {B b : Nat} {u : Rv} {r : Rp} {x : Nat × TypeId × Array Value} (h : RpAt (x :: F) w B b u r) : RpAt F w B b u r := ⟨h.c, h.o, h.apt, h.hb, ⟨fun y hy => h.fr.k y (List.mem_cons_of_mem _ hy)⟩⟩
theorem RpAt.bare {w : World} {B b : Nat} {u : Rv} {r : Rp} (h : Rl.RpAt w B b u r) : RpAt [] w B b u r := ⟨h.c, h.o, h.apt, h.hb, ⟨fun x hx => nomatch hx⟩⟩
theorem RpAt.box {w : World} {B b : Nat} {u : Rv} {r : Rp} (h : RpAt F w B b u r) {k : Nat} {ty : TypeId} {vs : Array Value} (hx : (k, ty, vs) ∈ F) : Bx w k ty vs := (h.fr.k _ hx).1
theorem RpAt.got {w : World} {B b : Nat} {u : Rv} {r : Rp} (h : RpAt F w B b u r) : RpGot w u r := h.o.got
theorem RpAt.lt {w : World} {B b : Nat} {u : Rv} {r : Rp} (h : RpAt F w B b u r) : b < w.heap.size := Bx.lt h.c
theorem RpAt.le {w : World} {B b : Nat} {u : Rv} {r : Rp} (h : RpAt F w B b u r) : B ≤ w.heap.size := by have := h.lt; have := h.hb; omega
theorem RpAt.kept {w w' : World} {B b : Nat} {u : Rv} {r : Rp} (h : RpAt F w B b u r) (hb : Below w.heap.size w w') : RpAt F w' B b u r := ⟨Bx.kept h.c hb, h.o.kept hb, h.apt, h.hb, h.fr.kept hb⟩
theorem RpAt.under {w : World} {B b : Nat} {u : Rv} {r : Rp} (h : RpAt F w B b u r) : ∀ v ∈ u.rows, ∀ k, v.ownBlock = some k → k < w.heap.size := h.o.has.under
theorem RpAt.put {w : World} {B b : Nat} {u u' : Rv} {r r' : Rp} (h : RpAt F w B b u r) (i : Nat) (v : Value) (hc : (rpC r u).setIfInBounds i v = rpC r' u') (ho : RpOw w B u' r') (hap : RpAp u') (hfr : FrOk F w b u') : RpAt F (w.setCell ⟨b, i, none⟩ v) B b u' r' where
 c := by
  have := Bx.put h.c i v
  show Bx _ _ _ (rpC r' u')
  rw [← hc]
  exact this
 o := ho.off fun x hx k hk => Below.heap_setCell _ _ _ _ (ho.ne h.c x hx k hk)
 apt := hap
 hb := h.hb
 fr := hfr.set
theorem RpAt.setV {w : World} {B b : Nat} {u : Rv} {r : Rp} (h : RpAt F w B b u r) (z : Int) : RpAt F (w.setCell ⟨b, 2, none⟩ (.int .i64 z)) B b u { r with v := z } := h.put 2 _ rfl ⟨h.o.l, h.o.ok, h.o.ch, h.o.t, h.o.te, h.o.tl⟩ h.apt (show FrOk F w b u from h.fr)
theorem RpAt.setN {w : World} {B b : Nat} {u : Rv} {r : Rp} (h : RpAt F w B b u r) (z : Bool) : RpAt F (w.setCell ⟨b, 3, none⟩ (.bool z)) B b u { r with n := z } := h.put 3 _ rfl ⟨h.o.l, h.o.ok, h.o.ch, h.o.t, h.o.te, h.o.tl⟩ h.apt (show FrOk F w b u from h.fr)
theorem RpAt.setLa {w : World} {B b : Nat} {u : Rv} {r : Rp} (h : RpAt F w B b u r) (z : Int) : RpAt F (w.setCell ⟨b, 4, none⟩ (.int .i64 z)) B b u { r with la := z } := h.put 4 _ rfl ⟨h.o.l, h.o.ok, h.o.ch, h.o.t, h.o.te, h.o.tl⟩ h.apt (show FrOk F w b u from h.fr)
theorem RpAt.setC {w : World} {B b : Nat} {u : Rv} {r : Rp} (h : RpAt F w B b u r) (z : Int) : RpAt F (w.setCell ⟨b, 6, none⟩ (.int .i64 z)) B b u { r with c := z } := h.put 6 _ rfl ⟨h.o.l, h.o.ok, h.o.ch, h.o.t, h.o.te, h.o.tl⟩ h.apt (show FrOk F w b u from h.fr)
theorem RpAt.newL {w w1 : World} {B b : Nat} {u : Rv} {r : Rp} (h : RpAt F w B b u r) (hb : Below w.heap.size w w1) {v : Value} {l : List ByteArray} (hv : HasX w1 w.heap.size v l) : RpAt F (w1.setCell ⟨b, 5, none⟩ v) B b { u with l := v } { r with l := l } := by
 have h1 := h.kept hb
 have hn := apN h.under hv.from
 obtain ⟨a1, a2, a3, a4, a5⟩ := RpAp.iff.1 h.apt
 have HV := hv.from
 refine h1.put 5 _ rfl ⟨hv.low h.le, h1.o.ok, h1.o.ch, h1.o.t, h1.o.te, h1.o.tl⟩ (RpAp.iff.2 ⟨fun x hx => (hn x ?_).2, a2, a3, a4, a5⟩) (h.fr.new hb (by
 exact fun v hv => by
   simp only [Rv.rows, List.mem_cons] at hv ⊢
   rcases hv with rfl | hv
   ·
    exact .inr HV
   ·
    exact .inl (.inr hv)
 ))
 simp only [List.mem_cons] at hx
 rcases hx with rfl | rfl | rfl | hx
 ·
  exact rows_ok u
 ·
  exact rows_ch u
 ·
  exact rows_te u
 ·
  exact rows_T hx
theorem RpAt.newOk {w w1 : World} {B b : Nat} {u : Rv} {r : Rp} (h : RpAt F w B b u r) (hb : Below w.heap.size w w1) {v : Value} {l : List Int} (hv : HasN w1 w.heap.size v l) : RpAt F (w1.setCell ⟨b, 7, none⟩ v) B b { u with ok := v } { r with ok := l } := by
 have h1 := h.kept hb
 have hn := apN h.under hv.from
 obtain ⟨a1, a2, a3, a4, a5⟩ := RpAp.iff.1 h.apt
 have HV := hv.from
 refine h1.put 7 _ rfl ⟨h1.o.l, hv.low h.le, h1.o.ch, h1.o.t, h1.o.te, h1.o.tl⟩ (RpAp.iff.2 ⟨fun x hx => ?_, fun x hx => (hn x ?_).2, a3, a4, a5⟩) (h.fr.new hb (by
 exact fun v hv => by
   simp only [Rv.rows, List.mem_cons] at hv ⊢
   rcases hv with rfl | rfl | hv
   ·
    exact .inl (.inl rfl)
   ·
    exact .inr HV
   ·
    exact .inl (.inr (.inr hv))
 ))
 ·
  simp only [List.mem_cons] at hx
  rcases hx with rfl | hx
  ·
   exact (hn _ (rows_l u)).1
  ·
   exact a1 x (by simp only [List.mem_cons]; exact .inr hx)
 ·
  simp only [List.mem_cons] at hx
  rcases hx with rfl | rfl | hx
  ·
   exact rows_ch u
  ·
   exact rows_te u
  ·
   exact rows_T hx
theorem RpAt.newCh {w w1 : World} {B b : Nat} {u : Rv} {r : Rp} (h : RpAt F w B b u r) (hb : Below w.heap.size w w1) {v : Value} {l : List Int} (hv : OwnsN w1 w.heap.size v l) : RpAt F (w1.setCell ⟨b, 8, none⟩ v) B b { u with ch := v } { r with ch := l } := by
 have h1 := h.kept hb
 have hn := apN h.under hv.from
 obtain ⟨a1, a2, a3, a4, a5⟩ := RpAp.iff.1 h.apt
 have HV := hv.from
 refine h1.put 8 _ rfl ⟨h1.o.l, h1.o.ok, hv.low h.le, h1.o.t, h1.o.te, h1.o.tl⟩ (RpAp.iff.2 ⟨fun x hx => ?_, fun x hx => ?_, fun x hx => (hn x ?_).2, a4, a5⟩) (h.fr.new hb (by
 exact fun v hv => by
   simp only [Rv.rows, List.mem_cons] at hv ⊢
   rcases hv with rfl | rfl | rfl | hv
   ·
    exact .inl (.inl rfl)
   ·
    exact .inl (.inr (.inl rfl))
   ·
    exact .inr HV
   ·
    exact .inl (.inr (.inr (.inr hv)))
 ))
 ·
  simp only [List.mem_cons] at hx
  rcases hx with rfl | rfl | hx
  ·
   exact a1 _ (by simp)
  ·
   exact (hn _ (rows_l u)).1
  ·
   exact a1 x (by simp only [List.mem_cons]; exact .inr (.inr hx))
 ·
  simp only [List.mem_cons] at hx
  rcases hx with rfl | hx
  ·
   exact (hn _ (rows_ok u)).1
  ·
   exact a2 x (by simp only [List.mem_cons]; exact .inr hx)
 ·
  simp only [List.mem_cons] at hx
  rcases hx with rfl | hx
  ·
   exact rows_te u
  ·
   exact rows_T hx
theorem RpAt.newTe {w w1 : World} {B b : Nat} {u : Rv} {r : Rp} (h : RpAt F w B b u r) (hb : Below w.heap.size w w1) {v : Value} {T : List Mx} {L : List Ms} (hv : OwnsM w1 w.heap.size v T) (hL : T.map (·.m) = L)
  (hl : ∀ x ∈ T, HasX w1 B x.u x.m.l) (hx : ∀ x ∈ T, ap v x.u ∧ ap u.l x.u ∧ ap u.ok x.u ∧ ap u.ch x.u) (hp : (T.map Mx.u).Pairwise ap) (hq : ∀ x ∈ T, x.u ∈ u.rows ∨ ∀ k, x.u.ownBlock = some k → w.heap.size ≤ k) : RpAt F (w1.setCell ⟨b, 9, none⟩ v) B b { u with te := v, T := T } { r with te := L } := by
 have h1 := h.kept hb
 have hn := apN h.under hv.from
 obtain ⟨a1, a2, a3, a4, a5⟩ := RpAp.iff.1 h.apt
 have HV := hv.from
 refine h1.put 9 _ rfl ⟨h1.o.l, h1.o.ok, h1.o.ch, hL, hv.low h.le, hl⟩ (RpAp.iff.2 ⟨fun x hm => ?_, fun x hm => ?_, fun x hm => ?_, fun x hm => ?_, hp⟩) (h.fr.new hb (by
 exact fun v hv => by
   simp only [Rv.rows, List.mem_cons, List.mem_map] at hv ⊢
   rcases hv with rfl | rfl | rfl | rfl | ⟨x, hx, rfl⟩
   ·
    exact .inl (.inl rfl)
   ·
    exact .inl (.inr (.inl rfl))
   ·
    exact .inl (.inr (.inr (.inl rfl)))
   ·
    exact .inr HV
   ·
    rcases hq x hx with h1 | h1
    ·
     left
     simpa only [Rv.rows, List.mem_cons, List.mem_map] using h1
    ·
     exact .inr h1
 ))
 ·
  simp only [List.mem_cons, List.mem_map] at hm
  rcases hm with rfl | rfl | rfl | ⟨y, hy, rfl⟩
  ·
   exact a1 _ (by simp)
  ·
   exact a1 _ (by simp)
  ·
   exact (hn _ (rows_l u)).1
  ·
   exact (hx y hy).2.1
 ·
  simp only [List.mem_cons, List.mem_map] at hm
  rcases hm with rfl | rfl | ⟨y, hy, rfl⟩
  ·
   exact a2 _ (by simp)
  ·
   exact (hn _ (rows_ok u)).1
  ·
   exact (hx y hy).2.2.1
 ·
  simp only [List.mem_cons, List.mem_map] at hm
  rcases hm with rfl | ⟨y, hy, rfl⟩
  ·
   exact (hn _ (rows_ch u)).1
  ·
   exact (hx y hy).2.2.2
 ·
  obtain ⟨y, hy, rfl⟩ := List.mem_map.1 hm
  exact (hx y hy).1
theorem RpAt.noTe {w w1 : World} {B b : Nat} {u : Rv} {r : Rp} (h : RpAt F w B b u r) (hb : Below w.heap.size w w1) {v : Value} (hv : OwnsM w1 w.heap.size v []) : RpAt F (w1.setCell ⟨b, 9, none⟩ v) B b { u with te := v, T := [] } { r with te := [] } :=
 h.newTe hb hv rfl (fun x hx => by cases hx) (fun x hx => by cases hx) List.Pairwise.nil (fun x hx => nomatch hx)

theorem wpList_rpV {ops : Array Oper} {rest : List Oper} {o : Oper} {a : Act} {Q : Exit → Act → World → Prop} {w w1 : World} {B b : Nat} {u : Rv} {r : Rp} (h : RpAt F w B b u r) (hb : Below w.heap.size w w1) (hgd : o.guard = none) (hd : o.dst = none) (x y : Operand) (ho : o.op = .store 2 x y) (z : Int)
  (hx : a.eval x = .pointer (some ⟨b, 2, none⟩)) (hy : a.eval y = .int .i64 z) (hh : ∀ W, RpAt F W B b u { r with v := z } → Below B w W → wpList Tryz.prog ops Q rest a W) : wpList Tryz.prog ops Q (o :: rest) a w1 :=
 wpList_put1 hgd hd 2 x y ho b 2 _ hx hy Tryz.rsz2 rfl (h.kept hb).c (show 2 < (rpC r u).size by rw [rpC_size]; decide) (hh _ ((h.kept hb).setV z) ((hb.mono h.le).setCell (p := ⟨b, 2, none⟩) h.hb _))
theorem wpList_rpN {ops : Array Oper} {rest : List Oper} {o : Oper} {a : Act} {Q : Exit → Act → World → Prop} {w w1 : World} {B b : Nat} {u : Rv} {r : Rp} (h : RpAt F w B b u r) (hb : Below w.heap.size w w1) (hgd : o.guard = none) (hd : o.dst = none) (x y : Operand) (ho : o.op = .store 4 x y) (z : Bool)
  (hx : a.eval x = .pointer (some ⟨b, 3, none⟩)) (hy : a.eval y = .bool z) (hh : ∀ W, RpAt F W B b u { r with n := z } → Below B w W → wpList Tryz.prog ops Q rest a W) : wpList Tryz.prog ops Q (o :: rest) a w1 :=
 wpList_put1 hgd hd 4 x y ho b 3 _ hx hy Tryz.rsz4 rfl (h.kept hb).c (show 3 < (rpC r u).size by rw [rpC_size]; decide) (hh _ ((h.kept hb).setN z) ((hb.mono h.le).setCell (p := ⟨b, 3, none⟩) h.hb _))
theorem wpList_rpLa {ops : Array Oper} {rest : List Oper} {o : Oper} {a : Act} {Q : Exit → Act → World → Prop} {w w1 : World} {B b : Nat} {u : Rv} {r : Rp} (h : RpAt F w B b u r) (hb : Below w.heap.size w w1) (hgd : o.guard = none) (hd : o.dst = none) (x y : Operand) (ho : o.op = .store 2 x y) (z : Int)
  (hx : a.eval x = .pointer (some ⟨b, 4, none⟩)) (hy : a.eval y = .int .i64 z) (hh : ∀ W, RpAt F W B b u { r with la := z } → Below B w W → wpList Tryz.prog ops Q rest a W) : wpList Tryz.prog ops Q (o :: rest) a w1 :=
 wpList_put1 hgd hd 2 x y ho b 4 _ hx hy Tryz.rsz2 rfl (h.kept hb).c (show 4 < (rpC r u).size by rw [rpC_size]; decide) (hh _ ((h.kept hb).setLa z) ((hb.mono h.le).setCell (p := ⟨b, 4, none⟩) h.hb _))
theorem wpList_rpC {ops : Array Oper} {rest : List Oper} {o : Oper} {a : Act} {Q : Exit → Act → World → Prop} {w w1 : World} {B b : Nat} {u : Rv} {r : Rp} (h : RpAt F w B b u r) (hb : Below w.heap.size w w1) (hgd : o.guard = none) (hd : o.dst = none) (x y : Operand) (ho : o.op = .store 2 x y) (z : Int)
  (hx : a.eval x = .pointer (some ⟨b, 6, none⟩)) (hy : a.eval y = .int .i64 z) (hh : ∀ W, RpAt F W B b u { r with c := z } → Below B w W → wpList Tryz.prog ops Q rest a W) : wpList Tryz.prog ops Q (o :: rest) a w1 :=
 wpList_put1 hgd hd 2 x y ho b 6 _ hx hy Tryz.rsz2 rfl (h.kept hb).c (show 6 < (rpC r u).size by rw [rpC_size]; decide) (hh _ ((h.kept hb).setC z) ((hb.mono h.le).setCell (p := ⟨b, 6, none⟩) h.hb _))
theorem wpList_rpL {ops : Array Oper} {rest : List Oper} {o : Oper} {a : Act} {Q : Exit → Act → World → Prop} {w w1 : World} {B b : Nat} {u : Rv} {r : Rp} (h : RpAt F w B b u r) (hb : Below w.heap.size w w1) (hgd : o.guard = none) (hd : o.dst = none) (x y : Operand) (ho : o.op = .store 24 x y) {v : Value} {l : List ByteArray} (hv : HasX w1 w.heap.size v l)
  (hx : a.eval x = .pointer (some ⟨b, 5, none⟩)) (hy : a.eval y = v) (hh : ∀ W, RpAt F W B b { u with l := v } { r with l := l } → Below B w W → wpList Tryz.prog ops Q rest a W) : wpList Tryz.prog ops Q (o :: rest) a w1 :=
 wpList_put1 hgd hd 24 x y ho b 5 _ hx hy Tryz.rszS (by obtain ⟨_, _, e, _⟩ := hv.form; rw [e]; rfl) (h.kept hb).c (show 5 < (rpC r u).size by rw [rpC_size]; decide) (hh _ (h.newL hb hv) ((hb.mono h.le).setCell (p := ⟨b, 5, none⟩) h.hb _))
theorem wpList_rpOk {ops : Array Oper} {rest : List Oper} {o : Oper} {a : Act} {Q : Exit → Act → World → Prop} {w w1 : World} {B b : Nat} {u : Rv} {r : Rp} (h : RpAt F w B b u r) (hb : Below w.heap.size w w1) (hgd : o.guard = none) (hd : o.dst = none) (x y : Operand) (ho : o.op = .store 25 x y) {v : Value} {l : List Int} (hv : HasN w1 w.heap.size v l)
  (hx : a.eval x = .pointer (some ⟨b, 7, none⟩)) (hy : a.eval y = v) (hh : ∀ W, RpAt F W B b { u with ok := v } { r with ok := l } → Below B w W → wpList Tryz.prog ops Q rest a W) : wpList Tryz.prog ops Q (o :: rest) a w1 :=
 wpList_put1 hgd hd 25 x y ho b 7 _ hx hy Tryz.rszI (by obtain ⟨_, _, e, _⟩ := hv.form; rw [e]; rfl) (h.kept hb).c (show 7 < (rpC r u).size by rw [rpC_size]; decide) (hh _ (h.newOk hb hv) ((hb.mono h.le).setCell (p := ⟨b, 7, none⟩) h.hb _))
theorem wpList_rpCh {ops : Array Oper} {rest : List Oper} {o : Oper} {a : Act} {Q : Exit → Act → World → Prop} {w w1 : World} {B b : Nat} {u : Rv} {r : Rp} (h : RpAt F w B b u r) (hb : Below w.heap.size w w1) (hgd : o.guard = none) (hd : o.dst = none) (x y : Operand) (ho : o.op = .store 25 x y) {v : Value} {l : List Int} (hv : OwnsN w1 w.heap.size v l)
  (hx : a.eval x = .pointer (some ⟨b, 8, none⟩)) (hy : a.eval y = v) (hh : ∀ W, RpAt F W B b { u with ch := v } { r with ch := l } → Below B w W → wpList Tryz.prog ops Q rest a W) : wpList Tryz.prog ops Q (o :: rest) a w1 :=
 wpList_put1 hgd hd 25 x y ho b 8 _ hx hy Tryz.rszI (by obtain ⟨_, _, e, _⟩ := hv.form; rw [e]; rfl) (h.kept hb).c (show 8 < (rpC r u).size by rw [rpC_size]; decide) (hh _ (h.newCh hb hv) ((hb.mono h.le).setCell (p := ⟨b, 8, none⟩) h.hb _))
theorem wpList_rpTe0 {ops : Array Oper} {rest : List Oper} {o : Oper} {a : Act} {Q : Exit → Act → World → Prop} {w w1 : World} {B b : Nat} {u : Rv} {r : Rp} (h : RpAt F w B b u r) (hb : Below w.heap.size w w1) (hgd : o.guard = none) (hd : o.dst = none) (x y : Operand) (ho : o.op = .store 26 x y) {v : Value} (hv : OwnsM w1 w.heap.size v [])
  (hx : a.eval x = .pointer (some ⟨b, 9, none⟩)) (hy : a.eval y = v) (hh : ∀ W, RpAt F W B b { u with te := v, T := [] } { r with te := [] } → Below B w W → wpList Tryz.prog ops Q rest a W) : wpList Tryz.prog ops Q (o :: rest) a w1 :=
 wpList_put1 hgd hd 26 x y ho b 9 _ hx hy Tryz.rszM (by obtain ⟨_, _, e, _⟩ := hv.form; rw [e]; rfl) (h.kept hb).c (show 9 < (rpC r u).size by rw [rpC_size]; decide) (hh _ (h.noTe hb hv) ((hb.mono h.le).setCell (p := ⟨b, 9, none⟩) h.hb _))
open Go.RowKit Go.Sort Go.Shelf
variable {F : Frm}

theorem specAsk (r : Rp) (u : Rv) (B b : Nat) (z : Int) (w : World) (h : RpAt F w B b u r) :
  Calls Tryz.prog 74 #[.pointer (some ⟨b, 0, none⟩), .int .i64 z] w fun e w' => e = .returned (.tuple #[]) ∧ ∃ u', RpAt F w' B b u' (askF r z) ∧ Below B w w' := by
 have H0 : Hid (RpAt F w B b u r) := h
 have D0 : Hid (Below B w w) := hH_ (Below.refl _ _)
 clear h
 go_enter Tryz.func74, Tryz.ntmps74
 go_upto_region 1 with (refine wpList_rpV H0.out (Below.refl _ _) rfl rfl _ _ rfl z rfl rfl ?_; intro w1 h1 b1)
 have H1 : Hid (RpAt F w1 B b u { r with v := z }) := h1
 have D1 := hH_ (D0.out.trans b1)
 clear h1 b1 H0 D0
 go_upto_region 2 with (refine wpList_rpN H1.out (Below.refl _ _) rfl rfl _ _ rfl false rfl rfl ?_; intro w2 h2 b2)
 have H2 : Hid (RpAt F w2 B b u { r with v := z, n := false }) := h2
 have D2 := hH_ (D1.out.trans b2)
 clear h2 b2 H1 D1
 go_upto_region 3 with (refine wpList_rpOk H2.out ((Below.refl _ w2).alloc (Nat.le_refl _) _) rfl rfl _ _ rfl (OwnsE.born w2).has rfl rfl ?_; intro w3 h3 b3)
 have H3 : Hid (RpAt F w3 B b { u with ok := .slice (some ⟨w2.heap.size, 0, none⟩) 0 0 } { r with v := z, n := false, ok := [] }) := h3
 have D3 := hH_ (D2.out.trans b3)
 clear h3 b3 H2 D2
 have q0 := H3.out.c.cells.1
 change w3.cell? ⟨b, 0, none⟩ = some (.int .i64 r.id) at q0
 go_upto_region 4 with (refine wpList_rpCh H3.out ((Below.refl _ w3).alloc (Nat.le_refl _) _) rfl rfl _ _ rfl (ownsN_one w3 r.id) rfl rfl ?_; intro w4 h4 b4)
 have H4 : Hid (RpAt F w4 B b _ { r with v := z, n := false, ch := [r.id], ok := [] }) := hH_ (h4)
 have D4 := hH_ (D3.out.trans b4)
 clear h4 b4 H3 D3 q0
 go_wp2_with (refine wpList_rpTe0 H4.out ((Below.refl _ w4).alloc (Nat.le_refl _) _) rfl rfl _ _ rfl (OwnsE.born w4) rfl rfl ?_; intro w5 h5 b5)
 have H5 : Hid (RpAt F w5 B b _ (askF r z)) := hH_ (h5)
 have D5 := hH_ (D4.out.trans b5)
 clear h5 b5 H4 D4
 go_wp2
 go_end0
 first | exact ⟨rfl, _, H5.out, D5.out⟩ | exact ⟨rfl, ⟨_, H5.out⟩, D5.out⟩
theorem RpAt.midTe {w w1 : World} {B b : Nat} {u : Rv} {r : Rp} (h : RpAt F w B b u r) (hb : Below w.heap.size w w1) {v : Value} {x : Mx} {k q : Nat} (hv : OwnsM w1 w.heap.size v (u.T.take k ++ x :: u.T.drop q)) (hx : HasX w1 w.heap.size x.u x.m.l) (hkq : k ≤ q) :
  RpAt F (w1.setCell ⟨b, 9, none⟩ v) B b { u with te := v, T := u.T.take k ++ x :: u.T.drop q } { r with te := r.te.take k ++ x.m :: r.te.drop q } := by
 have h1 := h.kept hb
 obtain ⟨a1, a2, a3, a4, a5⟩ := RpAp.iff.1 h.apt
 have hn := apN h.under hx.from
 have hm : ∀ y ∈ u.T.take k ++ x :: u.T.drop q, y ∈ u.T ∨ y = x := fun y hy => by
  rcases List.mem_append.1 hy with hy | hy
  ·
   exact .inl (List.mem_of_mem_take hy)
  ·
   rcases List.mem_cons.1 hy with rfl | hy
   ·
    exact .inr rfl
   ·
    exact .inl (List.mem_of_mem_drop hy)
 have hl : ∀ y ∈ u.T.take k ++ x :: u.T.drop q, HasX w1 B y.u y.m.l := fun y hy => by
  rcases hm y hy with hy | rfl
  ·
   exact h1.o.tl y hy
  ·
   exact hx.low h.le
 refine h.newTe hb hv (by rw [← h.o.t]; simp [List.map_take, List.map_drop]) hl (fun y hy => ⟨apTy hv (hl y hy), ?_, ?_, ?_⟩) ?_ (fun y hy => by
  rcases hm y hy with hy | rfl
  ·
   exact .inl (rows_T (List.mem_map_of_mem hy))
  ·
   exact .inr hx.from)
 ·
  rcases hm y hy with hy | rfl
  ·
   exact a1 _ (by simp only [List.mem_cons]; exact .inr (.inr (.inr (List.mem_map_of_mem hy))))
  ·
   exact (hn _ (rows_l u)).1
 ·
  rcases hm y hy with hy | rfl
  ·
   exact a2 _ (by simp only [List.mem_cons]; exact .inr (.inr (List.mem_map_of_mem hy)))
  ·
   exact (hn _ (rows_ok u)).1
 ·
  rcases hm y hy with hy | rfl
  ·
   exact a3 _ (by simp only [List.mem_cons]; exact .inr (List.mem_map_of_mem hy))
  ·
   exact (hn _ (rows_ch u)).1
 ·
  have hT : ∀ y ∈ u.T, ap y.u x.u ∧ ap x.u y.u := fun y hy => hn _ (rows_T (List.mem_map_of_mem hy))
  rw [List.map_append, List.map_cons, List.pairwise_append, List.pairwise_cons]
  have hsub : (u.T.map Mx.u).take k ++ (u.T.map Mx.u).drop q = ((u.T.map Mx.u).take k ++ (u.T.map Mx.u).drop q) := rfl
  have hp : ((u.T.map Mx.u).take k ++ (u.T.map Mx.u).drop q).Pairwise ap := by
   refine List.Pairwise.sublist ?_ a5
   have : (u.T.map Mx.u).take k ++ (u.T.map Mx.u).drop k = u.T.map Mx.u := List.take_append_drop k _
   conv => rhs; rw [← this]
   refine List.Sublist.append (List.Sublist.refl _) ?_
   obtain ⟨d, rfl⟩ : ∃ d, q = k + d := ⟨q - k, by omega⟩
   rw [← List.drop_drop]
   exact List.drop_sublist _ _
  rw [List.pairwise_append] at hp
  rw [List.map_take, List.map_drop]
  refine ⟨hp.1, ⟨fun z hz => ?_, hp.2.1⟩, fun y hy z hz => ?_⟩
  ·
   obtain ⟨a, ha, rfl⟩ := List.mem_map.1 (List.mem_of_mem_drop hz)
   exact (hT a ha).2
  ·
   rcases List.mem_cons.1 hz with rfl | hz
   ·
    obtain ⟨a, ha, rfl⟩ := List.mem_map.1 (List.mem_of_mem_take hy)
    exact (hT a ha).1
   ·
    exact hp.2.2 y hy z hz
theorem wpList_rpTeM {ops : Array Oper} {rest : List Oper} {o : Oper} {a : Act} {Q : Exit → Act → World → Prop} {w w1 : World} {B b : Nat} {u : Rv} {r : Rp} (h : RpAt F w B b u r) (hb : Below w.heap.size w w1) (hgd : o.guard = none) (hd : o.dst = none) (x y : Operand) (ho : o.op = .store 26 x y) {v : Value} {z : Mx} {k q : Nat}
  (hv : OwnsM w1 w.heap.size v (u.T.take k ++ z :: u.T.drop q)) (hz : HasX w1 w.heap.size z.u z.m.l) (hkq : k ≤ q)
  (hx : a.eval x = .pointer (some ⟨b, 9, none⟩)) (hy : a.eval y = v) (hh : ∀ W, RpAt F W B b { u with te := v, T := u.T.take k ++ z :: u.T.drop q } { r with te := r.te.take k ++ z.m :: r.te.drop q } → Below B w W → wpList Tryz.prog ops Q rest a W) : wpList Tryz.prog ops Q (o :: rest) a w1 :=
 wpList_put1 hgd hd 26 x y ho b 9 _ hx hy Tryz.rszM (by obtain ⟨_, _, e, _⟩ := hv.form; rw [e]; rfl) (h.kept hb).c (show 9 < (rpC r u).size by rw [rpC_size]; decide) (hh _ (h.midTe hb hv hz hkq) ((hb.mono h.le).setCell (p := ⟨b, 9, none⟩) h.hb _))
open Go.RowKit Go.Sort Go.Shelf
variable {F : Frm}

theorem implAsk (r : Rp) (u : Rv) (B b : Nat) (z : Int) (w : World) (h : RpAt F w B b u r) :
  Calls Tryz.prog 121 #[.pointer (some ⟨b, 0, none⟩), .int .i64 z] w fun e w' => e = .returned (.tuple #[]) ∧ ∃ u', RpAt F w' B b u' (askF r z) ∧ Below B w w' := by
 have H0 : Hid (RpAt F w B b u r) := h
 have D0 : Hid (Below B w w) := hH_ (Below.refl _ _)
 clear h
 go_enter Tryz.func121, Tryz.ntmps121
 go_upto_region 1 with (refine wpList_rpV H0.out (Below.refl _ _) rfl rfl _ _ rfl z rfl rfl ?_; intro w1 h1 b1)
 have H1 : Hid (RpAt F w1 B b u { r with v := z }) := h1
 have D1 := hH_ (D0.out.trans b1)
 clear h1 b1 H0 D0
 go_upto_region 2 with (refine wpList_rpN H1.out (Below.refl _ _) rfl rfl _ _ rfl false rfl rfl ?_; intro w2 h2 b2)
 have H2 : Hid (RpAt F w2 B b u { r with v := z, n := false }) := h2
 have D2 := hH_ (D1.out.trans b2)
 clear h2 b2 H1 D1
 have q0 := H2.out.c.cells.1
 change w2.cell? ⟨b, 0, none⟩ = some (.int .i64 r.id) at q0
 go_upto_region 3 with (refine wpList_rpCh H2.out ((Below.refl _ w2).alloc (Nat.le_refl _) _) rfl rfl _ _ rfl (ownsN_one w2 r.id) rfl rfl ?_; intro w3 h3 b3)
 have H3 : Hid (RpAt F w3 B b { u with ch := .slice (some ⟨w2.heap.size, 0, none⟩) 1 1 } { r with v := z, n := false, ch := [r.id] }) := h3
 have D3 := hH_ (D2.out.trans b3)
 clear h3 b3 H2 D2 q0
 go_upto_region 4 with (refine wpList_rpOk H3.out ((Below.refl _ w3).alloc (Nat.le_refl _) _) rfl rfl _ _ rfl (OwnsE.born w3).has rfl rfl ?_; intro w4 h4 b4)
 have H4 : Hid (RpAt F w4 B b _ { r with v := z, n := false, ch := [r.id], ok := [] }) := hH_ (h4)
 have D4 := hH_ (D3.out.trans b4)
 clear h4 b4 H3 D3
 go_wp2_with (refine wpList_rpTe0 H4.out ((Below.refl _ w4).alloc (Nat.le_refl _) _) rfl rfl _ _ rfl (OwnsE.born w4) rfl rfl ?_; intro w5 h5 b5)
 have H5 : Hid (RpAt F w5 B b _ (askF r z)) := hH_ (h5)
 have D5 := hH_ (D4.out.trans b5)
 clear h5 b5 H4 D4
 go_wp2
 go_end0
 first | exact ⟨rfl, _, H5.out, D5.out⟩ | exact ⟨rfl, ⟨_, H5.out⟩, D5.out⟩
theorem RpAt.anewed {r : Rp} {u : Rv} {B b : Nat} {w w' : World} {v : Value} (h : RpAt F w B b u r) (h1 : RpB w' b (anew r) { u with ok := v }) (h2 : HasN w' w.heap.size v (anew r).ok) (h3 : ChS (fun k => k = b) w w') : RpAt F w' B b { u with ok := v } (anew r) := by
 obtain ⟨e1, e2, e3⟩ := anew_same r
 have hn := apN h.under h2.from
 obtain ⟨a1, a2, a3, a4, a5⟩ := RpAp.iff.1 h.apt
 have hk : ∀ x ∈ u.rows, ∀ k, x.ownBlock = some k → w'.heap[k]? = w.heap[k]? := fun x hx k hk => h3.block k (h.under x hx k hk) (h.o.ne h.c x hx k hk)
 have h4 := h.o.off hk
 refine ⟨h1, ⟨by rw [e1]; exact h4.l, h2.low h.le, by rw [e2]; exact h4.ch, by rw [e3]; exact h4.t, h4.te, h4.tl⟩, RpAp.iff.2 ⟨fun x hx => ?_, fun x hx => (hn x ?_).2, a3, a4, a5⟩, h.hb, h.fr.of (fun k hk hkb hr => h3.block k hk hkb) (fun v hv => by
  simp only [Rv.rows, List.mem_cons] at hv
  rcases hv with rfl | rfl | hv
  ·
   exact .inl ⟨_, rows_l u, rfl⟩
  ·
   exact .inr (.inl h2.from)
  ·
   exact .inl ⟨_, by simp only [Rv.rows, List.mem_cons]; exact .inr (.inr hv), rfl⟩)⟩
 ·
  simp only [List.mem_cons] at hx
  rcases hx with rfl | hx
  ·
   exact (hn _ (rows_l u)).1
  ·
   exact a1 x (by simp only [List.mem_cons]; exact .inr hx)
 ·
  simp only [List.mem_cons] at hx
  rcases hx with rfl | rfl | hx
  ·
   exact rows_ch u
  ·
   exact rows_te u
  ·
   exact rows_T hx
theorem RpAt.counted {r : Rp} {u : Rv} {B b : Nat} {w w' : World} (h : RpAt F w B b u r) (h1 : RpB w' b (cntd r) u) (h2 : HasN w' B u.ok (cntd r).ok) (h3 : ChS (fun k => k = b ∨ u.ok.ownBlock = some k) w w') : RpAt F w' B b u (cntd r) ∧ Below B w w' := by
 obtain ⟨a1, a2, a3, a4, a5⟩ := RpAp.iff.1 h.apt
 have hk : ∀ x ∈ u.rows, ap u.ok x → ∀ k, x.ownBlock = some k → w'.heap[k]? = w.heap[k]? := fun x hx ha k hk => h3.block k (h.under x hx k hk) (fun e => by
  rcases e with e | e
  ·
   exact h.o.ne h.c x hx k hk e
  ·
   exact ha k e hk)
 have hl : ap u.ok u.l := (a1 u.ok (by simp)).comm
 refine ⟨⟨h1, ⟨h.o.l.off (hk _ (rows_l u) hl), h2, OwnsE.off h.o.ch (hk _ (rows_ch u) (a2 _ (by simp))), h.o.t, OwnsE.off h.o.te (hk _ (rows_te u) (a2 _ (by simp))), fun x hx => (h.o.tl x hx).off (hk _ (rows_T (List.mem_map_of_mem hx)) (a2 _ (by simp only [List.mem_cons]; exact .inr (.inr (List.mem_map_of_mem hx)))))⟩, h.apt, h.hb, h.fr.of (fun k hk hkb hr => h3.block k hk (fun e => by
  rcases e with e | e
  ·
   exact hkb e
  ·
   exact hr _ (rows_ok u) e)) (fun v hv => .inl ⟨v, hv, rfl⟩)⟩, h3.below (Below.refl _ _) h.le (fun k e => ?_)⟩
 rcases e with rfl | e
 ·
  exact h.hb
 ·
  exact h.o.ok.from k e
theorem RpAt.lslice {r : Rp} {u : Rv} {B b : Nat} {w : World} (h : RpAt F w B b u r) : ∃ a c, u.l = .slice a r.l.length c := by
 obtain ⟨a, c, e, _⟩ := h.o.l.form
 exact ⟨a, c, e⟩
theorem implAnewAt (r : Rp) (u : Rv) (B b : Nat) (w : World) (h : RpAt F w B b u r) (hp : pOk r.p) (hid : 0 ≤ r.id ∧ r.id < r.p) (hv : 0 ≤ r.v ∧ r.v ≤ 20000) (hc : 0 ≤ r.c) (hlen : r.l.length ≤ 1048576) :
  Calls Tryz.prog 79 #[.pointer (some ⟨b, 0, none⟩)] w fun e w' => e = .returned (.tuple #[]) ∧ ∃ u', RpAt F w' B b u' (anew r) ∧ Below B w w' :=
 (implAnew r u b w h.c h.lslice hp hid hv hc hlen).mono fun e w' ⟨h0, v, h1, h2, h3⟩ => ⟨h0, _, h.anewed h1 h2 h3, h3.below (Below.refl _ _) h.le (fun k hk => by have := h.hb; omega)⟩
theorem RpAt.okSet {r : Rp} {u : Rv} {B b : Nat} {w : World} (h : RpAt F w B b u r) {g c : Nat} (hu : u.ok = .slice (some ⟨g, 0, none⟩) r.ok.length c) {i : Nat} (hi : i < r.ok.length) (z : Int) : RpAt F (w.setCell ⟨g, i, none⟩ (.int .i64 z)) B b u { r with ok := r.ok.set i z } ∧ Below B w (w.setCell ⟨g, i, none⟩ (.int .i64 z)) := by
 have hgb : g ≠ b := h.o.ne h.c _ (rows_ok u) g (by rw [hu]; rfl)
 obtain ⟨a1, a2, a3, a4, a5⟩ := RpAp.iff.1 h.apt
 have hO := h.o.ok
 rw [hu] at hO
 have hk : ∀ x ∈ u.rows, ap u.ok x → ∀ k, x.ownBlock = some k → (w.setCell ⟨g, i, none⟩ (.int .i64 z)).heap[k]? = w.heap[k]? := fun x hx ha k hk => Below.heap_setCell _ _ _ _ (fun e => ha k (by rw [hu, e]; rfl) hk)
 have hl : ap u.ok u.l := (a1 u.ok (by simp)).comm
 have hn : HasN (w.setCell ⟨g, i, none⟩ (.int .i64 z)) B u.ok (r.ok.set i z) := by
  have := HasE.put hO hi (i := 0) (by decide) (.int .i64 z) z rfl
  rw [show i * intE.k + 0 = i from by show i * 1 + 0 = i; omega] at this
  rw [hu]
  exact this
 refine ⟨⟨Bx.other h.c _ _ (fun e => hgb e.symm), ⟨h.o.l.off (hk _ (rows_l u) hl), hn, OwnsE.off h.o.ch (hk _ (rows_ch u) (a2 _ (by simp))), h.o.t, OwnsE.off h.o.te (hk _ (rows_te u) (a2 _ (by simp))), fun x hx => (h.o.tl x hx).off (hk _ (rows_T (List.mem_map_of_mem hx)) (a2 _ (by simp only [List.mem_cons]; exact .inr (.inr (List.mem_map_of_mem hx)))))⟩, h.apt, h.hb, h.fr.of (fun k hk hkb hr => Below.heap_setCell _ _ _ _ (fun e => hr _ (rows_ok u) (by rw [hu, e]; rfl))) (fun v hv => .inl ⟨v, hv, rfl⟩)⟩, (Below.refl B w).setCell (p := ⟨g, i, none⟩) (h.o.ok.from g (by rw [hu]; rfl)) _⟩
theorem implCntAt (r : Rp) (u : Rv) (B b : Nat) (w : World) (h : RpAt F w B b u r) (hp : pOk r.p) (hol : (r.ok.length : Int) = r.p) (hid : 0 ≤ r.id ∧ r.id < r.p) (hc : 0 ≤ r.c) (hx : ∀ x ∈ r.ok, x ≤ (r.l.length : Int)) (hlen : r.l.length ≤ 1048576) :
  Calls Tryz.prog 120 #[.pointer (some ⟨b, 0, none⟩)] w fun e w' => e = .returned (.tuple #[]) ∧ RpAt F w' B b u (cntd r) ∧ Below B w w' :=
 (implCnt r u b B w h.c h.o.ok h.lslice (h.o.ne h.c _ (rows_ok u)) hp hol hid hc hx hlen).mono fun e w' ⟨h0, h1, h2, h3⟩ => ⟨h0, h.counted h1 h2 h3⟩
theorem implBeN (r : Rp) (u : Rv) (B b : Nat) (w : World) (h : RpAt F w B b u r) (hp : pOk r.p) (hid : 0 ≤ r.id ∧ r.id < r.p) (hv : 0 ≤ r.v ∧ r.v ≤ 20000) (hc : 0 ≤ r.c) (hlen : r.l.length ≤ 1048576) :
  Calls Tryz.prog 123 #[.pointer (some ⟨b, 0, none⟩)] w fun e w' => e = .returned (.tuple #[]) ∧ ∃ u', RpAt F w' B b u' (beN r) ∧ Below B w w' := by
 have H0 : Hid (RpAt F w B b u r) := h
 have D0 : Hid (Below B w w) := hH_ (Below.refl _ _)
 have jA := fun u W hW => implAnewAt (F := F) { r with n := true, la := r.v, ch := [], te := [] } u B b W hW hp hid hv hc hlen
 clear h hp hid hv hc hlen
 go_enter Tryz.func123, Tryz.ntmps123
 go_upto_region 1 with (refine wpList_rpN H0.out (Below.refl _ _) rfl rfl _ _ rfl true rfl rfl ?_; intro w1 h1 b1)
 have H1 : Hid (RpAt F w1 B b u { r with n := true }) := h1
 have D1 := hH_ (D0.out.trans b1)
 clear h1 b1 H0 D0
 have q2 := H1.out.c.cells.2.2.1
 change w1.cell? ⟨b, 2, none⟩ = some (.int .i64 r.v) at q2
 go_upto_region 2 with (refine wpList_rpLa H1.out (Below.refl _ _) rfl rfl _ _ rfl r.v rfl rfl ?_; intro w2 h2 b2)
 have H2 : Hid (RpAt F w2 B b u { r with n := true, la := r.v }) := h2
 have D2 := hH_ (D1.out.trans b2)
 clear h2 b2 H1 D1 q2
 go_upto_region 3 with (refine wpList_rpCh H2.out ((Below.refl _ w2).alloc (Nat.le_refl _) _) rfl rfl _ _ rfl (OwnsE.born w2) rfl rfl ?_; intro w3 h3 b3)
 have H3 : Hid (RpAt F w3 B b _ { r with n := true, la := r.v, ch := [] }) := hH_ (h3)
 have D3 := hH_ (D2.out.trans b3)
 clear h3 b3 H2 D2
 go_upto_region 4 with (refine wpList_rpTe0 H3.out ((Below.refl _ w3).alloc (Nat.le_refl _) _) rfl rfl _ _ rfl (OwnsE.born w3) rfl rfl ?_; intro w4 h4 b4)
 have H4 : Hid (RpAt F w4 B b _ { r with n := true, la := r.v, ch := [], te := [] }) := hH_ (h4)
 have D4 := hH_ (D3.out.trans b4)
 clear h4 b4 H3 D3
 go_wp2_with fail
 refine (jA _ _ H4.out).mono ?_
 rintro e w5 ⟨rfl, u5, h5, b5⟩
 have H5 : Hid (RpAt F w5 B b u5 (beN r)) := hH_ (h5)
 have D5 := hH_ (D4.out.trans b5)
 clear h5 b5 H4 D4 jA
 go_wp2
 go_end0
 first | exact ⟨rfl, _, H5.out, D5.out⟩ | exact ⟨rfl, ⟨_, H5.out⟩, D5.out⟩
end Go.Proofs.YtdkhdjickkcaiaaGreat.Rl.Fr
namespace Go.Proofs.YtdkhdjickkcaiaaGreat
open Go.RowKit Go.Sort Ow Sk

theorem belDrewK {B : Nat} {w w' : World} (h : Below B w w') : Below B w w'.drew := ⟨h.os, h.tape, h.output, h.size, h.block⟩
end Go.Proofs.YtdkhdjickkcaiaaGreat

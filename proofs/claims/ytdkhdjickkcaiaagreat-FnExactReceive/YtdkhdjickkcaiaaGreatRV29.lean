/-
  The specification's l17Receive at MsChange and MsTell: what is refused.
  The specification's l17Receive at MsTell, of a view that is asked for.
  The specification's l17Receive at MsTell, of its own view.
  The specification's l17Receive at MsChange, of a view that is asked for.
-/
import Derived.Test.YtdkhdjickkcaiaaGreatRVS
import Derived.Test.YtdkhdjickkcaiaaGreatRV27
import Derived.Test.YtdkhdjickkcaiaaGreatRV28
import Derived.Test.YtdkhdjickkcaiaaGreatRV26
set_option linter.unusedVariables false
set_option linter.unusedSimpArgs false
set_option maxRecDepth 100000
set_option maxHeartbeats 64000000
namespace Go.Proofs.YtdkhdjickkcaiaaGreat.Rl.Fr
open Go.RowKit Go.Sort Go.Shelf Pg
theorem rcv_C {r : Rp} {m : Ms} (h : MsOk m r.p ∧ m.t = r.id ∧ m.f ≠ r.id) (hk : m.k = 3 ∨ m.k = 4) : rcvF r m = rcvC r m := by
 unfold rcvF
 rw [if_neg (fun hh => by
  rcases hh with hh | hh | hh
  ·
   exact hh h.1
  ·
   exact hh h.2.1
  ·
   exact h.2.2 hh), if_neg (by omega), if_neg (by omega)]
theorem rcvC_0 {r : Rp} {m : Ms} (h : m.k = 4 ∧ m.v % r.p ≠ r.id) : rcvC r m = (r, []) := by unfold rcvC; exact if_pos h
theorem rcvC_1 {r : Rp} {m : Ms} (h : ¬ (m.k = 4 ∧ m.v % r.p ≠ r.id)) (h1 : ¬ r.v < m.v) (h2 : m.v ≠ r.v ∨ r.n = true) : rcvC r m = (r, []) := by
 unfold rcvC
 rw [if_neg h]
 simp only [if_neg h1]
 exact if_pos h2
open Classical in
theorem rcvC_T {r a : Rp} {m : Ms} (h : ¬ (m.k = 4 ∧ m.v % r.p ≠ r.id)) (ha : a = if r.v < m.v then askF r m.v else r) (h2 : ¬ (m.v ≠ a.v ∨ a.n = true)) (hk : m.k = 4) :
  rcvC r m = if r.v < m.v ∨ (told { a with ch := Sk.put m.f a.ch, te := putM m a.te }).n = true then (told { a with ch := Sk.put m.f a.ch, te := putM m a.te }, sprL (told { a with ch := Sk.put m.f a.ch, te := putM m a.te })) else (told { a with ch := Sk.put m.f a.ch, te := putM m a.te }, []) := by
 unfold rcvC
 rw [if_neg h]
 simp only [← ha]
 rw [if_neg h2, if_pos hk]
open Classical in
theorem rcvC_C {r a : Rp} {m : Ms} (ha : a = if r.v < m.v then askF r m.v else r) (h2 : ¬ (m.v ≠ a.v ∨ a.n = true)) (hk : m.k = 3) (hp : a.p = r.p) :
  rcvC r m = if r.v < m.v ∨ (maj (Sk.put m.f a.ch).length a.p ∧ ¬ maj a.ch.length a.p) then (told { a with ch := Sk.put m.f a.ch }, sprL (told { a with ch := Sk.put m.f a.ch })) else ({ a with ch := Sk.put m.f a.ch }, []) := by
 unfold rcvC
 rw [if_neg (by omega)]
 simp only [← ha]
 rw [if_neg h2, if_neg (by omega), hp]
variable {F : Frm}
theorem ite_one {α : Type} {c : Prop} (i1 i2 : Decidable c) (x y : α) : @ite α c i1 x y = @ite α c i2 x y := by cases Subsingleton.elim i1 i2; rfl
theorem RpAt.putCh {w w1 : World} {B b : Nat} {u : Rv} {r : Rp} (h : RpAt F w B b u r) (hb : Below w.heap.size w w1) {v : Value} {l : List Int} (ho : OwnsN w1 B v l) (hv : v.ownBlock = u.ch.ownBlock ∨ ∀ k, v.ownBlock = some k → w.heap.size ≤ k) :
  RpAt F (w1.setCell ⟨b, 8, none⟩ v) B b { u with ch := v } { r with ch := l } := by
 have h1 := h.kept hb
 obtain ⟨a1, a2, a3, a4, a5⟩ := RpAp.iff.1 h.apt
 have hvx : ∀ y, y ∈ u.rows → ap u.ch y → ap v y := fun y hy ha k hk hk' => by
  rcases hv with e | e
  ·
   exact ha k (e.symm.trans hk) hk'
  ·
   have := h.under y hy k hk'
   have := e k hk
   omega
 have cl : ap u.ch u.l := (a1 _ (by simp)).comm
 have cok : ap u.ch u.ok := (a2 _ (by simp)).comm
 refine h1.put 8 _ rfl ⟨h1.o.l, h1.o.ok, ho, h1.o.t, h1.o.te, h1.o.tl⟩ (RpAp.iff.2 ⟨fun x hx => ?_, fun x hx => ?_, fun x hx => ?_, a4, a5⟩) (show FrOk F w1 b _ from h.fr.of (fun k hk hkb hr => hb.block k hk) (fun y hy => ?_))
 ·
  simp only [List.mem_cons] at hx
  rcases hx with rfl | rfl | hx
  ·
   exact a1 _ (by simp)
  ·
   exact (hvx _ (rows_l u) cl).comm
  ·
   exact a1 x (by simp only [List.mem_cons]; exact .inr (.inr hx))
 ·
  simp only [List.mem_cons] at hx
  rcases hx with rfl | hx
  ·
   exact (hvx _ (rows_ok u) cok).comm
  ·
   exact a2 x (by simp only [List.mem_cons]; exact .inr hx)
 ·
  refine hvx x ?_ (a3 x hx)
  simp only [List.mem_cons] at hx
  rcases hx with rfl | hx
  ·
   exact rows_te u
  ·
   exact rows_T hx
 ·
  simp only [Rv.rows, List.mem_cons] at hy
  rcases hy with rfl | rfl | rfl | hy
  ·
   exact .inl ⟨_, rows_l u, rfl⟩
  ·
   exact .inl ⟨_, rows_ok u, rfl⟩
  ·
   rcases hv with e | e
   ·
    exact .inl ⟨_, rows_ch u, e⟩
   ·
    exact .inr (.inl e)
  ·
   exact .inl ⟨y, by simp only [Rv.rows, List.mem_cons]; exact .inr (.inr (.inr hy)), rfl⟩
theorem putN8 {w : World} {c : Value} {g g9 n n9 cap c9 : Nat} (hc : c = .slice (some ⟨g, 0, none⟩) n cap) (h : g9 = g ∨ w.heap.size ≤ g9) : (Value.slice (some ⟨g9, 0, none⟩) n9 c9).ownBlock = c.ownBlock ∨ ∀ k, (Value.slice (some ⟨g9, 0, none⟩) n9 c9).ownBlock = some k → w.heap.size ≤ k := by
 rcases h with h | h
 ·
  exact .inl (by rw [hc, h]; rfl)
 ·
  exact .inr (fun k hk => by
   have : g9 = k := by simpa [Value.ownBlock] using hk
   omega)
theorem wpList_rpPut {ops : Array Oper} {rest : List Oper} {o : Oper} {a : Act} {Q : Exit → Act → World → Prop} {w w1 : World} {B b : Nat} {u : Rv} {r : Rp} (h : RpAt F w B b u r) (hb : Below w.heap.size w w1) (hgd : o.guard = none) (hd : o.dst = none) (x y : Operand) (ho : o.op = .store 25 x y) {v : Value} {l : List Int} (hv : OwnsN w1 B v l) (hv2 : v.ownBlock = u.ch.ownBlock ∨ ∀ k, v.ownBlock = some k → w.heap.size ≤ k)
  (hx : a.eval x = .pointer (some ⟨b, 8, none⟩)) (hy : a.eval y = v) (hh : ∀ W, RpAt F W B b { u with ch := v } { r with ch := l } → Below B w W → wpList Tryz.prog ops Q rest a W) : wpList Tryz.prog ops Q (o :: rest) a w1 :=
 wpList_put1 hgd hd 25 x y ho b 8 _ hx hy Tryz.rszI (by obtain ⟨_, _, e, _⟩ := hv.form; rw [e]; rfl) (h.kept hb).c (show 8 < (rpC r u).size by rw [rpC_size]; decide) (hh _ (h.putCh hb hv hv2) ((hb.mono h.le).setCell (p := ⟨b, 8, none⟩) h.hb _))
def frRcS (s t : Nat → Value) : Act := { tmps := #[s 0, s 1, s 2, s 3, s 4, s 5, s 6, s 7, s 8, s 9, s 10, s 11, s 12, s 13, s 14, s 15, s 16, s 17, s 18, s 19, s 20, s 21, s 22, s 23, s 24, s 25, s 26, s 27, s 28, s 29, s 30, s 31, s 32, s 33, s 34, s 35, s 36, s 37, s 38, s 39, s 40, s 41, s 42, s 43, s 44, s 45, s 46, s 47, s 48, s 49, s 50, s 51, s 52, s 53, s 54, s 55, s 56, s 57, s 58, s 59, s 60, s 61, s 62, s 63, s 64, s 65, s 66, s 67, s 68, s 69, s 70, s 71, s 72, s 73, s 74, s 75, s 76, s 77, s 78, s 79, s 80, s 81, s 82, s 83, s 84, s 85, s 86, s 87, s 88, s 89, s 90, s 91, s 92, s 93, s 94, s 95, s 96, s 97, s 98, s 99, s 100, s 101, s 102, s 103, s 104, s 105, s 106, s 107, s 108, s 109, s 110, s 111, s 112, s 113, s 114, s 115, s 116, s 117, s 118, s 119, s 120, s 121, s 122, s 123, s 124, s 125, s 126, s 127, s 128, s 129, s 130, s 131, s 132, s 133, s 134, s 135, s 136, s 137, s 138, s 139, s 140, s 141, s 142, s 143, s 144, s 145, s 146, s 147, s 148, s 149, s 150, s 151, s 152, s 153, s 154, s 155, s 156, s 157, s 158, s 159, s 160, s 161, s 162, s 163, s 164, s 165, s 166, s 167, s 168, s 169, s 170, s 171, s 172, s 173, s 174, s 175, s 176, s 177, s 178, s 179, s 180, s 181, s 182, s 183, s 184, s 185, s 186, s 187, s 188, s 189, s 190, s 191, s 192, s 193, s 194, s 195, s 196, s 197, s 198, s 199, s 200, s 201, s 202, s 203, s 204, s 205, s 206, s 207, s 208, s 209, s 210, s 211, s 212, s 213, s 214, s 215, s 216, s 217, s 218, s 219, s 220, s 221, s 222, s 223, t 224, t 225, t 226, s 227, s 228, s 229, s 230, s 231, s 232, s 233, s 234, s 235, s 236, s 237, s 238, s 239, s 240, s 241, s 242], defers := [] }
def LRcS : List Nat := [224, 225, 226, 100003]
def dRcS (i : Nat) : Nat := LRcS.getD i (i + 5000)
theorem dRcS_ne {i j : Nat} (hi : i < 4) (hj : j < 4) (h : j ≠ i) : dRcS j ≠ dRcS i := slotsNe (L := LRcS) (by decide) rfl hi hj h
def GRcS (R : Rp) (ux : Rv) (b lo : Nat) (i : Nat) (x : World) (v : Value) : Prop := match i with
 | 0 => v = .agg (rpC R ux)
 | 1 => v = .agg (rpC R ux)
 | 2 => ∃ (C : Nat) (T : List Mx) (p1 : Option Addr) (d1 : Nat), v = .slice p1 T.length d1 ∧ (lo ≤ C ∧ C ≤ x.heap.size ∧ MsOwn x C (.slice p1 T.length d1) T (sprL R))
 | 3 => (v = undef ∧ Bx x (b + 2) 28 (rpC R ux))
 | _ => True
theorem GRcS.keep {R : Rp} {ux : Rv} {b lo : Nat} {x y : World} (hb : Below x.heap.size x y) (j : Nat) (v : Value) (hj : j < 4) (h : GRcS R ux b lo j x v) : GRcS R ux b lo j y v := by
 rcases (show j = 0 ∨ j = 1 ∨ j = 2 ∨ j = 3 by omega) with rfl | rfl | rfl | rfl
 ·
  exact h
 ·
  exact h
 ·
  obtain ⟨C, T, p1, d1, h1, h2⟩ := h; exact ⟨C, T, p1, d1, h1, h2.1, Nat.le_trans h2.2.1 hb.size, h2.2.2.kept hb⟩
 ·
  exact ⟨h.1, h.2.kept hb⟩
theorem GRcS.keepS {R : Rp} {ux : Rv} {b lo : Nat} {x y : World} (hlc : b + 2 < lo) (hc : ChS (fun k => k = b + 2) x y) (j : Nat) (v : Value) (hj : j < 4) (hne : j ≠ 3) (h : GRcS R ux b lo j x v) : GRcS R ux b lo j y v := by
 rcases (show j = 0 ∨ j = 1 ∨ j = 2 ∨ j = 3 by omega) with rfl | rfl | rfl | rfl
 ·
  exact h
 ·
  exact h
 ·
  obtain ⟨C, T, p1, d1, h1, h2⟩ := h; exact ⟨C, T, p1, d1, h1, h2.1, Nat.le_trans h2.2.1 hc.size, h2.2.2.off (fun k k1 k2 => hc.block k k2 (by have := h2.1; omega))⟩
 ·
  exact absurd rfl hne
def frRcU (s t : Nat → Value) : Act := { tmps := #[s 0, s 1, s 2, s 3, s 4, s 5, s 6, s 7, s 8, s 9, s 10, s 11, s 12, s 13, s 14, s 15, s 16, s 17, s 18, s 19, s 20, s 21, s 22, s 23, s 24, s 25, s 26, s 27, s 28, s 29, s 30, s 31, s 32, s 33, s 34, s 35, s 36, s 37, s 38, s 39, s 40, s 41, s 42, s 43, s 44, s 45, s 46, s 47, s 48, s 49, s 50, s 51, s 52, s 53, s 54, s 55, s 56, s 57, s 58, s 59, s 60, s 61, s 62, s 63, s 64, s 65, s 66, s 67, s 68, s 69, s 70, s 71, s 72, s 73, s 74, s 75, s 76, s 77, s 78, s 79, s 80, s 81, s 82, s 83, s 84, s 85, s 86, s 87, s 88, s 89, s 90, s 91, s 92, s 93, s 94, s 95, s 96, s 97, s 98, s 99, s 100, s 101, s 102, s 103, s 104, s 105, s 106, s 107, s 108, s 109, s 110, s 111, s 112, s 113, s 114, s 115, s 116, s 117, s 118, s 119, s 120, s 121, s 122, s 123, s 124, s 125, s 126, s 127, s 128, s 129, s 130, s 131, s 132, s 133, s 134, s 135, s 136, s 137, s 138, s 139, s 140, s 141, s 142, s 143, s 144, s 145, s 146, s 147, s 148, s 149, s 150, s 151, s 152, s 153, s 154, s 155, s 156, s 157, s 158, s 159, s 160, s 161, s 162, s 163, s 164, s 165, s 166, s 167, s 168, s 169, s 170, s 171, s 172, s 173, s 174, s 175, s 176, s 177, s 178, s 179, s 180, s 181, s 182, s 183, s 184, s 185, s 186, s 187, s 188, s 189, s 190, s 191, s 192, s 193, s 194, s 195, s 196, s 197, s 198, s 199, s 200, s 201, s 202, s 203, s 204, s 205, s 206, s 207, s 208, s 209, s 210, s 211, s 212, s 213, s 214, s 215, s 216, s 217, s 218, s 219, s 220, s 221, s 222, s 223, s 224, s 225, s 226, s 227, s 228, s 229, s 230, s 231, s 232, s 233, s 234, s 235, s 236, s 237, t 238, t 239, t 240, s 241, s 242], defers := [] }
def LRcU : List Nat := [238, 239, 240, 100003]
def dRcU (i : Nat) : Nat := LRcU.getD i (i + 5000)
theorem dRcU_ne {i j : Nat} (hi : i < 4) (hj : j < 4) (h : j ≠ i) : dRcU j ≠ dRcU i := slotsNe (L := LRcU) (by decide) rfl hi hj h
def GRcU (R : Rp) (ux : Rv) (b lo : Nat) (i : Nat) (x : World) (v : Value) : Prop := match i with
 | 0 => v = .agg (rpC R ux)
 | 1 => v = .agg (rpC R ux)
 | 2 => ∃ (C : Nat) (T : List Mx) (p1 : Option Addr) (d1 : Nat), v = .slice p1 T.length d1 ∧ (lo ≤ C ∧ C ≤ x.heap.size ∧ MsOwn x C (.slice p1 T.length d1) T (sprL R))
 | 3 => (v = undef ∧ Bx x (b + 2) 28 (rpC R ux))
 | _ => True
theorem GRcU.keep {R : Rp} {ux : Rv} {b lo : Nat} {x y : World} (hb : Below x.heap.size x y) (j : Nat) (v : Value) (hj : j < 4) (h : GRcU R ux b lo j x v) : GRcU R ux b lo j y v := by
 rcases (show j = 0 ∨ j = 1 ∨ j = 2 ∨ j = 3 by omega) with rfl | rfl | rfl | rfl
 ·
  exact h
 ·
  exact h
 ·
  obtain ⟨C, T, p1, d1, h1, h2⟩ := h; exact ⟨C, T, p1, d1, h1, h2.1, Nat.le_trans h2.2.1 hb.size, h2.2.2.kept hb⟩
 ·
  exact ⟨h.1, h.2.kept hb⟩
theorem GRcU.keepS {R : Rp} {ux : Rv} {b lo : Nat} {x y : World} (hlc : b + 2 < lo) (hc : ChS (fun k => k = b + 2) x y) (j : Nat) (v : Value) (hj : j < 4) (hne : j ≠ 3) (h : GRcU R ux b lo j x v) : GRcU R ux b lo j y v := by
 rcases (show j = 0 ∨ j = 1 ∨ j = 2 ∨ j = 3 by omega) with rfl | rfl | rfl | rfl
 ·
  exact h
 ·
  exact h
 ·
  obtain ⟨C, T, p1, d1, h1, h2⟩ := h; exact ⟨C, T, p1, d1, h1, h2.1, Nat.le_trans h2.2.1 hc.size, h2.2.2.off (fun k k1 k2 => hc.block k k2 (by have := h2.1; omega))⟩
 ·
  exact absurd rfl hne
theorem specRcvT0 (r : Rp) (u : Rv) (B : Nat) (X : Mx) (w : World) (ho : RpOw w B u r) (hap : RpAp u) (hX : ∀ W, Below B w W → Sls txtE W X.u X.m.l) (hr : RpOk r) (hxs : X.m.l.length ≤ 1048576 ∧ ∀ x ∈ X.m.l, x.size ≤ 1048576) (hB : B ≤ w.heap.size) (hm : MsOk X.m r.p) (ht : X.m.t = r.id) (hf : X.m.f ≠ r.id) (hk : X.m.k = 4) (hq4 : X.m.v % r.p ≠ r.id) :
  Calls Tryz.prog 49 #[rpA r u, .agg (mxV X)] w fun e w' => RvE r X B w e w' := by
 obtain ⟨la, lc, oa, oc, ca, cc, ta, tc, T0, rfl⟩ := ho.got.form
 obtain ⟨b, hb⟩ : ∃ b, b = w.heap.size := ⟨_, rfl⟩
 obtain ⟨w1, hw1⟩ : ∃ w1, w1 = ((w.alloc (.cells #[.int .i64 r.id, .int .i64 r.p, .int .i64 r.v, .bool r.n, .int .i64 r.la, .slice la r.l.length lc, .int .i64 r.c, .slice oa r.ok.length oc, .slice ca r.ch.length cc, .slice ta r.te.length tc] 28)).alloc (.cells #[.int .i64 X.m.k, .int .i64 X.m.f, .int .i64 X.m.t, .int .i64 X.m.v, .int .i64 X.m.la, .slice X.pl X.m.l.length X.cl, .int .i64 X.m.c] 30)).alloc (.cells #[.int .i64 0, .int .i64 0, .int .i64 0, .bool false, .int .i64 0, .slice none 0 0, .int .i64 0, .slice none 0 0, .slice none 0 0, .slice none 0 0] 28) := ⟨_, rfl⟩
 have bw1 : Below w.heap.size w w1 := by rw [hw1]; exact (((Below.refl _ w).alloc (Nat.le_refl _) _).alloc (by simp) _).alloc (by simp; omega) _
 have XB : Bx w1 b 28 #[.int .i64 r.id, .int .i64 r.p, .int .i64 r.v, .bool r.n, .int .i64 r.la, .slice la r.l.length lc, .int .i64 r.c, .slice oa r.ok.length oc, .slice ca r.ch.length cc, .slice ta r.te.length tc] := by rw [hw1, hb]; exact ((Bx.new _ _ _).alloc _).alloc _
 have XM : Bx w1 (b + 1) 30 (mxV X) := by rw [hw1, hb]; exact (Bx.at _ _ (by simp)).alloc _
 have XZ : Bx w1 (b + 2) 28 zR := by rw [hw1, hb]; exact Bx.at _ _ (by simp)
 have hru : ∀ v ∈ Rv.rows ⟨.slice la r.l.length lc, .slice oa r.ok.length oc, .slice ca r.ch.length cc, .slice ta r.te.length tc, T0⟩, ∀ k, v.ownBlock = some k → k < b := fun v hv k hk => by rw [hb]; exact ho.has.under v hv k hk
 have hat : RpAt [] w1 B b ⟨.slice la r.l.length lc, .slice oa r.ok.length oc, .slice ca r.ch.length cc, .slice ta r.te.length tc, T0⟩ r := ⟨XB, ho.kept bw1, hap, by omega, ⟨fun x hx => nomatch hx⟩⟩
 have H1 : Hid (RpAt [(b + 1, 30, mxV X), (b + 2, 28, zR)] w1 B b ⟨.slice la r.l.length lc, .slice oa r.ok.length oc, .slice ca r.ch.length cc, .slice ta r.te.length tc, T0⟩ r) := (show RpAt _ _ _ _ _ _ from (hat.beside (k := b + 2) XZ (by omega) (fun v hv e => by have := hru v hv _ e; omega)).beside (k := b + 1) XM (by omega) (fun v hv e => by have := hru v hv _ e; omega))
 have B1 : Hid (Below B w w1) := hH_ (bw1.mono hB)
 have S1 : Hid (w1.heap.size = b + 3) := (show _ = _ by rw [hw1, hb]; simp)
 have HB : Hid (b = w.heap.size ∧ B ≤ b) := hH_ (⟨hb, by omega⟩)
 have HX : Hid (∀ W, Below B w W → Sls txtE W X.u X.m.l) := hH_ (hX)
 have HR : Hid (RpOk r) := hr
 have HXS : Hid (X.m.l.length ≤ 1048576 ∧ ∀ x ∈ X.m.l, x.size ≤ 1048576) := hH_ (hxs)
 have jm := fun W (hW : Below B w W) => specMok X.m X.u r.p W (hX W hW) hxs.2 hr.p
 clear ho hap hX hr hxs hB bw1 XB XM XZ hru hat
 unfold rpA mxV
 unfold msA Mx.u at jm
 simp only at jm ⊢
 have HM : Hid (MsOk X.m r.p ∧ X.m.t = r.id ∧ X.m.f ≠ r.id) := hH_ (⟨hm, ht, hf⟩)
 have bt : (X.m.t != r.id) = false := by simp [ht]
 have bf : (X.m.f == r.id) = false := by simp [hf]
 rw [msB_yes hm] at jm
 clear hm ht hf
 have HK : Hid (X.m.k = 4) := hk
 have em : Int.tmod X.m.v r.p = X.m.v % r.p := modE HM.out.1.v.1
 have hpz : ¬ r.p = 0 := by rcases HR.out.p with h | h | h <;> rw [h] <;> decide
 have ew : wrap64 (X.m.v % r.p) = X.m.v % r.p := by have := HM.out.1.v; unfold wrap64; rcases HR.out.p with h | h | h <;> rw [h] <;> omega
 obtain ⟨q, hq⟩ : ∃ q : Int, q = X.m.v % r.p := ⟨_, rfl⟩
 have HQ : Hid (q = X.m.v % r.p) := hq
 rw [← hq] at em ew
 clear hq
 have bq : (q != r.id) = true := by rw [HQ.out]; simp [hq4]
 have HE : Hid (rcvF r X.m = (r, [])) := hH_ (by rw [rcv_C HM.out (.inr HK.out)]; exact rcvC_0 ⟨HK.out, hq4⟩)
 clear hk hq4
 go_enter Tryz.func49, Tryz.ntmps49
 go_upto_region 1 with fail
 rw [← hb, ← hw1, show b + 1 + 1 = b + 2 from rfl]
 clear hw1 hb
 go_upto_region 2 with fail
 have bA : Below w1.heap.size w1 (w1.alloc (.cells #[] 30)) := (Below.refl _ w1).alloc (Nat.le_refl _) _
 obtain ⟨e0, he0⟩ : ∃ e0, e0 = w1.heap.size := ⟨_, rfl⟩
 have H2 := hH_ (H1.out.kept bA)
 have B2 := hH_ (B1.out.trans (bA.mono H1.out.le))
 have HE0 : Hid (e0 = b + 3) := (show _ = _ by rw [he0, S1.out])
 rw [← he0]
 generalize w1.alloc (.cells #[] 30) = w2 at H2 B2 ⊢
 clear bA he0 H1 B1 S1
 have y1 : w2.cell? ⟨b, 1, none⟩ = some (.int .i64 r.p) := H2.out.c.cell 1
 go_wp2_with (refine wpList_ldM rfl (.tmp 3) rfl (b + 1) rfl (H2.out.box (k := b + 1) (ty := 30) (vs := mxV X) (by simp)) rfl ?_)
 refine (jm _ B2.out).mono ?_
 rintro e w3 ⟨rfl, hb3⟩
 have H3 := hH_ (H2.out.kept hb3)
 have B3 := hH_ (B2.out.trans (hb3.mono H2.out.le))
 clear hb3 H2 B2 y1 jm
 have y0 : w3.cell? ⟨b, 0, none⟩ = some (.int .i64 r.id) := H3.out.c.cell 0
 have x1 : w3.cell? ⟨b + 1, 1, none⟩ = some (.int .i64 X.m.f) := (H3.out.box (k := b + 1) (ty := 30) (vs := mxV X) (by simp)).cell 1
 have x2 : w3.cell? ⟨b + 1, 2, none⟩ = some (.int .i64 X.m.t) := (H3.out.box (k := b + 1) (ty := 30) (vs := mxV X) (by simp)).cell 2
 have x0 : w3.cell? ⟨b + 1, 0, none⟩ = some (.int .i64 4) := by rw [← HK.out]; exact (H3.out.box (k := b + 1) (ty := 30) (vs := mxV X) (by simp)).cell 0
 have x3 : w3.cell? ⟨b + 1, 3, none⟩ = some (.int .i64 X.m.v) := (H3.out.box (k := b + 1) (ty := 30) (vs := mxV X) (by simp)).cell 3
 have y1 : w3.cell? ⟨b, 1, none⟩ = some (.int .i64 r.p) := H3.out.c.cell 1
 go_upto_region 23 with fail
 go_quiet (fail)
 have BN := hH_ (dwNB w3 nq)
 generalize w3.drewN nq = w5 at BN ⊢
 have H5 := hH_ (H3.out.kept BN.out)
 have B5 := hH_ (B3.out.trans (BN.out.mono H3.out.le))
 clear x0 x1 x2 x3 y0 y1 BN H3 B3
 go_wp2_with (first | (refine wpList_ldR rfl (.tmp 2) rfl b rfl H5.out.c rfl ?_) | (refine wpList_stR rfl rfl (.tmp 4) (.tmp 173) rfl (b + 2) (rpC r ⟨.slice la r.l.length lc, .slice oa r.ok.length oc, .slice ca r.ch.length cc, .slice ta r.te.length tc, T0⟩) rfl rfl (H5.out.box (k := b + 2) (ty := 28) (vs := zR) (by simp)) rfl rfl (rpC_one H5.out.got) ?_; intro w9 hz9 hc9))
 have B9 : Below B w w9 := hc9.below B5.out (by have:=HB.out;have := H5.out.lt; omega) (fun k hk => by have:=HB.out;omega)
 have HO : RpOw w9 B ⟨.slice la r.l.length lc, .slice oa r.ok.length oc, .slice ca r.ch.length cc, .slice ta r.te.length tc, T0⟩ r := H5.out.o.off (fun v hv k hk => hc9.block k (H5.out.under v hv k hk) (fun e => by
  have h5 := (H5.out.fr.k (b + 2, 28, zR) (by simp)).2.2 v hv
  rw [e] at hk
  exact h5 hk))
 have hrl := results_row2 (P := Tryz.prog) (fn := Tryz.f49) (p := 4) (q := 5) (ty := 28) rfl
 refine bodyPost_ret (v := .tuple #[.agg (rpC r ⟨.slice la r.l.length lc, .slice oa r.ok.length oc, .slice ca r.ch.length cc, .slice ta r.te.length tc, T0⟩), .slice (some ⟨e0, 0, none⟩) 0 0]) (hrl _ _ (b + 2) 28 _ (0, 0) _ rfl _ rfl hz9 Tryz.underlying28 rfl (by rw [Tryz.rszR]; rfl)) rfl ?_
 unfold RvE
 rw [HE.out]
 exact ⟨⟨.slice la r.l.length lc, .slice oa r.ok.length oc, .slice ca r.ch.length cc, .slice ta r.te.length tc, T0⟩, _, [], rfl, RvAns.no HO H5.out.apt B9⟩
theorem specRcvC1 (r : Rp) (u : Rv) (B : Nat) (X : Mx) (w : World) (ho : RpOw w B u r) (hap : RpAp u) (hX : ∀ W, Below B w W → Sls txtE W X.u X.m.l) (hr : RpOk r) (hxs : X.m.l.length ≤ 1048576 ∧ ∀ x ∈ X.m.l, x.size ≤ 1048576) (hB : B ≤ w.heap.size) (hm : MsOk X.m r.p) (ht : X.m.t = r.id) (hf : X.m.f ≠ r.id) (hk : X.m.k = 3) (hno : ¬ r.v < X.m.v ∧ (X.m.v ≠ r.v ∨ r.n = true)) :
  Calls Tryz.prog 49 #[rpA r u, .agg (mxV X)] w fun e w' => RvE r X B w e w' := by
 obtain ⟨la, lc, oa, oc, ca, cc, ta, tc, T0, rfl⟩ := ho.got.form
 obtain ⟨b, hb⟩ : ∃ b, b = w.heap.size := ⟨_, rfl⟩
 obtain ⟨w1, hw1⟩ : ∃ w1, w1 = ((w.alloc (.cells #[.int .i64 r.id, .int .i64 r.p, .int .i64 r.v, .bool r.n, .int .i64 r.la, .slice la r.l.length lc, .int .i64 r.c, .slice oa r.ok.length oc, .slice ca r.ch.length cc, .slice ta r.te.length tc] 28)).alloc (.cells #[.int .i64 X.m.k, .int .i64 X.m.f, .int .i64 X.m.t, .int .i64 X.m.v, .int .i64 X.m.la, .slice X.pl X.m.l.length X.cl, .int .i64 X.m.c] 30)).alloc (.cells #[.int .i64 0, .int .i64 0, .int .i64 0, .bool false, .int .i64 0, .slice none 0 0, .int .i64 0, .slice none 0 0, .slice none 0 0, .slice none 0 0] 28) := ⟨_, rfl⟩
 have bw1 : Below w.heap.size w w1 := by rw [hw1]; exact (((Below.refl _ w).alloc (Nat.le_refl _) _).alloc (by simp) _).alloc (by simp; omega) _
 have XB : Bx w1 b 28 #[.int .i64 r.id, .int .i64 r.p, .int .i64 r.v, .bool r.n, .int .i64 r.la, .slice la r.l.length lc, .int .i64 r.c, .slice oa r.ok.length oc, .slice ca r.ch.length cc, .slice ta r.te.length tc] := by rw [hw1, hb]; exact ((Bx.new _ _ _).alloc _).alloc _
 have XM : Bx w1 (b + 1) 30 (mxV X) := by rw [hw1, hb]; exact (Bx.at _ _ (by simp)).alloc _
 have XZ : Bx w1 (b + 2) 28 zR := by rw [hw1, hb]; exact Bx.at _ _ (by simp)
 have hru : ∀ v ∈ Rv.rows ⟨.slice la r.l.length lc, .slice oa r.ok.length oc, .slice ca r.ch.length cc, .slice ta r.te.length tc, T0⟩, ∀ k, v.ownBlock = some k → k < b := fun v hv k hk => by rw [hb]; exact ho.has.under v hv k hk
 have hat : RpAt [] w1 B b ⟨.slice la r.l.length lc, .slice oa r.ok.length oc, .slice ca r.ch.length cc, .slice ta r.te.length tc, T0⟩ r := ⟨XB, ho.kept bw1, hap, by omega, ⟨fun x hx => nomatch hx⟩⟩
 have H1 : Hid (RpAt [(b + 1, 30, mxV X), (b + 2, 28, zR)] w1 B b ⟨.slice la r.l.length lc, .slice oa r.ok.length oc, .slice ca r.ch.length cc, .slice ta r.te.length tc, T0⟩ r) := (show RpAt _ _ _ _ _ _ from (hat.beside (k := b + 2) XZ (by omega) (fun v hv e => by have := hru v hv _ e; omega)).beside (k := b + 1) XM (by omega) (fun v hv e => by have := hru v hv _ e; omega))
 have B1 : Hid (Below B w w1) := hH_ (bw1.mono hB)
 have S1 : Hid (w1.heap.size = b + 3) := (show _ = _ by rw [hw1, hb]; simp)
 have HB : Hid (b = w.heap.size ∧ B ≤ b) := hH_ (⟨hb, by omega⟩)
 have HX : Hid (∀ W, Below B w W → Sls txtE W X.u X.m.l) := hH_ (hX)
 have HR : Hid (RpOk r) := hr
 have HXS : Hid (X.m.l.length ≤ 1048576 ∧ ∀ x ∈ X.m.l, x.size ≤ 1048576) := hH_ (hxs)
 have jm := fun W (hW : Below B w W) => specMok X.m X.u r.p W (hX W hW) hxs.2 hr.p
 clear ho hap hX hr hxs hB bw1 XB XM XZ hru hat
 unfold rpA mxV
 unfold msA Mx.u at jm
 simp only at jm ⊢
 have HM : Hid (MsOk X.m r.p ∧ X.m.t = r.id ∧ X.m.f ≠ r.id) := hH_ (⟨hm, ht, hf⟩)
 have bt : (X.m.t != r.id) = false := by simp [ht]
 have bf : (X.m.f == r.id) = false := by simp [hf]
 rw [msB_yes hm] at jm
 clear hm ht hf
 have HK : Hid (X.m.k = 3) := hk
 clear hk
 have hgt : ¬ r.v < X.m.v := hno.1
 have HE : Hid (rcvF r X.m = (r, [])) := hH_ (by rw [rcv_C HM.out (.inl HK.out)]; exact rcvC_1 (fun h => by have:=HK.out;omega) hno.1 hno.2)
 have HNO : Hid (¬ r.v < X.m.v ∧ (X.m.v ≠ r.v ∨ r.n = true)) := hno
 clear hno
 go_enter Tryz.func49, Tryz.ntmps49
 go_upto_region 1 with fail
 rw [← hb, ← hw1, show b + 1 + 1 = b + 2 from rfl]
 clear hw1 hb
 go_upto_region 2 with fail
 have bA : Below w1.heap.size w1 (w1.alloc (.cells #[] 30)) := (Below.refl _ w1).alloc (Nat.le_refl _) _
 obtain ⟨e0, he0⟩ : ∃ e0, e0 = w1.heap.size := ⟨_, rfl⟩
 have H2 := hH_ (H1.out.kept bA)
 have B2 := hH_ (B1.out.trans (bA.mono H1.out.le))
 have HE0 : Hid (e0 = b + 3) := (show _ = _ by rw [he0, S1.out])
 rw [← he0]
 generalize w1.alloc (.cells #[] 30) = w2 at H2 B2 ⊢
 clear bA he0 H1 B1 S1
 have y1 : w2.cell? ⟨b, 1, none⟩ = some (.int .i64 r.p) := H2.out.c.cell 1
 go_wp2_with (refine wpList_ldM rfl (.tmp 3) rfl (b + 1) rfl (H2.out.box (k := b + 1) (ty := 30) (vs := mxV X) (by simp)) rfl ?_)
 refine (jm _ B2.out).mono ?_
 rintro e w3 ⟨rfl, hb3⟩
 have H3 := hH_ (H2.out.kept hb3)
 have B3 := hH_ (B2.out.trans (hb3.mono H2.out.le))
 clear hb3 H2 B2 y1 jm
 have y0 : w3.cell? ⟨b, 0, none⟩ = some (.int .i64 r.id) := H3.out.c.cell 0
 have x1 : w3.cell? ⟨b + 1, 1, none⟩ = some (.int .i64 X.m.f) := (H3.out.box (k := b + 1) (ty := 30) (vs := mxV X) (by simp)).cell 1
 have x2 : w3.cell? ⟨b + 1, 2, none⟩ = some (.int .i64 X.m.t) := (H3.out.box (k := b + 1) (ty := 30) (vs := mxV X) (by simp)).cell 2
 have x0 : w3.cell? ⟨b + 1, 0, none⟩ = some (.int .i64 3) := by rw [← HK.out]; exact (H3.out.box (k := b + 1) (ty := 30) (vs := mxV X) (by simp)).cell 0
 have x3 : w3.cell? ⟨b + 1, 3, none⟩ = some (.int .i64 X.m.v) := (H3.out.box (k := b + 1) (ty := 30) (vs := mxV X) (by simp)).cell 3
 have y1 : w3.cell? ⟨b, 1, none⟩ = some (.int .i64 r.p) := H3.out.c.cell 1
 go_upto_region 23 with fail
 go_quiet (fail)
 have BN := hH_ (dwNB w3 nq)
 generalize w3.drewN nq = w5 at BN ⊢
 have H5 := hH_ (H3.out.kept BN.out)
 have B5 := hH_ (B3.out.trans (BN.out.mono H3.out.le))
 clear x0 x1 x2 x3 y0 y1 BN H3 B3
 have x3 : w5.cell? ⟨b + 1, 3, none⟩ = some (.int .i64 X.m.v) := (H5.out.box (k := b + 1) (ty := 30) (vs := mxV X) (by simp)).cell 3
 have y2 : w5.cell? ⟨b, 2, none⟩ = some (.int .i64 r.v) := H5.out.c.cell 2
 by_cases heq : X.m.v = r.v
 case neg =>
  have beq : (X.m.v != r.v) = true := by simp [heq]
  clear heq
  go_upto_region 29 with fail
  clear x3 y2 hgt beq
  go_wp2_with (first | (refine wpList_ldR rfl (.tmp 2) rfl b rfl H5.out.c rfl ?_) | (refine wpList_stR rfl rfl (.tmp 4) (.tmp 193) rfl (b + 2) (rpC r ⟨.slice la r.l.length lc, .slice oa r.ok.length oc, .slice ca r.ch.length cc, .slice ta r.te.length tc, T0⟩) rfl rfl (H5.out.box (k := b + 2) (ty := 28) (vs := zR) (by simp)) rfl rfl (rpC_one H5.out.got) ?_; intro w9 hz9 hc9))
  have B9 : Below B w w9 := hc9.below B5.out (by have:=HB.out;have := H5.out.lt; omega) (fun k hk => by have:=HB.out;omega)
  have HO : RpOw w9 B ⟨.slice la r.l.length lc, .slice oa r.ok.length oc, .slice ca r.ch.length cc, .slice ta r.te.length tc, T0⟩ r := H5.out.o.off (fun v hv k hk => hc9.block k (H5.out.under v hv k hk) (fun e => by
   have h5 := (H5.out.fr.k (b + 2, 28, zR) (by simp)).2.2 v hv
   rw [e] at hk
   exact h5 hk))
  have hrl := results_row2 (P := Tryz.prog) (fn := Tryz.f49) (p := 4) (q := 5) (ty := 28) rfl
  refine bodyPost_ret (v := .tuple #[.agg (rpC r ⟨.slice la r.l.length lc, .slice oa r.ok.length oc, .slice ca r.ch.length cc, .slice ta r.te.length tc, T0⟩), .slice (some ⟨e0, 0, none⟩) 0 0]) (hrl _ _ (b + 2) 28 _ (0, 0) _ rfl _ rfl hz9 Tryz.underlying28 rfl (by rw [Tryz.rszR]; rfl)) rfl ?_
  unfold RvE
  rw [HE.out]
  exact ⟨⟨.slice la r.l.length lc, .slice oa r.ok.length oc, .slice ca r.ch.length cc, .slice ta r.te.length tc, T0⟩, _, [], rfl, RvAns.no HO H5.out.apt B9⟩
 have beq : (X.m.v != r.v) = false := by simp [heq]
 have y3 : w5.cell? ⟨b, 3, none⟩ = some (.bool true) := by
  rcases HNO.out.2 with h | h
  ·
   exact absurd heq h
  ·
   rw [← h]; exact H5.out.c.cell 3
 clear heq
 go_upto_region 29 with fail
 clear x3 y2 y3 hgt beq
 go_wp2_with (first | (refine wpList_ldR rfl (.tmp 2) rfl b rfl H5.out.c rfl ?_) | (refine wpList_stR rfl rfl (.tmp 4) (.tmp 193) rfl (b + 2) (rpC r ⟨.slice la r.l.length lc, .slice oa r.ok.length oc, .slice ca r.ch.length cc, .slice ta r.te.length tc, T0⟩) rfl rfl (H5.out.box (k := b + 2) (ty := 28) (vs := zR) (by simp)) rfl rfl (rpC_one H5.out.got) ?_; intro w9 hz9 hc9))
 have B9 : Below B w w9 := hc9.below B5.out (by have:=HB.out;have := H5.out.lt; omega) (fun k hk => by have:=HB.out;omega)
 have HO : RpOw w9 B ⟨.slice la r.l.length lc, .slice oa r.ok.length oc, .slice ca r.ch.length cc, .slice ta r.te.length tc, T0⟩ r := H5.out.o.off (fun v hv k hk => hc9.block k (H5.out.under v hv k hk) (fun e => by
  have h5 := (H5.out.fr.k (b + 2, 28, zR) (by simp)).2.2 v hv
  rw [e] at hk
  exact h5 hk))
 have hrl := results_row2 (P := Tryz.prog) (fn := Tryz.f49) (p := 4) (q := 5) (ty := 28) rfl
 refine bodyPost_ret (v := .tuple #[.agg (rpC r ⟨.slice la r.l.length lc, .slice oa r.ok.length oc, .slice ca r.ch.length cc, .slice ta r.te.length tc, T0⟩), .slice (some ⟨e0, 0, none⟩) 0 0]) (hrl _ _ (b + 2) 28 _ (0, 0) _ rfl _ rfl hz9 Tryz.underlying28 rfl (by rw [Tryz.rszR]; rfl)) rfl ?_
 unfold RvE
 rw [HE.out]
 exact ⟨⟨.slice la r.l.length lc, .slice oa r.ok.length oc, .slice ca r.ch.length cc, .slice ta r.te.length tc, T0⟩, _, [], rfl, RvAns.no HO H5.out.apt B9⟩
theorem specRcvT1 (r : Rp) (u : Rv) (B : Nat) (X : Mx) (w : World) (ho : RpOw w B u r) (hap : RpAp u) (hX : ∀ W, Below B w W → Sls txtE W X.u X.m.l) (hr : RpOk r) (hxs : X.m.l.length ≤ 1048576 ∧ ∀ x ∈ X.m.l, x.size ≤ 1048576) (hB : B ≤ w.heap.size) (hm : MsOk X.m r.p) (ht : X.m.t = r.id) (hf : X.m.f ≠ r.id) (hk : X.m.k = 4) (hq4 : X.m.v % r.p = r.id) (hno : ¬ r.v < X.m.v ∧ (X.m.v ≠ r.v ∨ r.n = true)) :
  Calls Tryz.prog 49 #[rpA r u, .agg (mxV X)] w fun e w' => RvE r X B w e w' := by
 obtain ⟨la, lc, oa, oc, ca, cc, ta, tc, T0, rfl⟩ := ho.got.form
 obtain ⟨b, hb⟩ : ∃ b, b = w.heap.size := ⟨_, rfl⟩
 obtain ⟨w1, hw1⟩ : ∃ w1, w1 = ((w.alloc (.cells #[.int .i64 r.id, .int .i64 r.p, .int .i64 r.v, .bool r.n, .int .i64 r.la, .slice la r.l.length lc, .int .i64 r.c, .slice oa r.ok.length oc, .slice ca r.ch.length cc, .slice ta r.te.length tc] 28)).alloc (.cells #[.int .i64 X.m.k, .int .i64 X.m.f, .int .i64 X.m.t, .int .i64 X.m.v, .int .i64 X.m.la, .slice X.pl X.m.l.length X.cl, .int .i64 X.m.c] 30)).alloc (.cells #[.int .i64 0, .int .i64 0, .int .i64 0, .bool false, .int .i64 0, .slice none 0 0, .int .i64 0, .slice none 0 0, .slice none 0 0, .slice none 0 0] 28) := ⟨_, rfl⟩
 have bw1 : Below w.heap.size w w1 := by rw [hw1]; exact (((Below.refl _ w).alloc (Nat.le_refl _) _).alloc (by simp) _).alloc (by simp; omega) _
 have XB : Bx w1 b 28 #[.int .i64 r.id, .int .i64 r.p, .int .i64 r.v, .bool r.n, .int .i64 r.la, .slice la r.l.length lc, .int .i64 r.c, .slice oa r.ok.length oc, .slice ca r.ch.length cc, .slice ta r.te.length tc] := by rw [hw1, hb]; exact ((Bx.new _ _ _).alloc _).alloc _
 have XM : Bx w1 (b + 1) 30 (mxV X) := by rw [hw1, hb]; exact (Bx.at _ _ (by simp)).alloc _
 have XZ : Bx w1 (b + 2) 28 zR := by rw [hw1, hb]; exact Bx.at _ _ (by simp)
 have hru : ∀ v ∈ Rv.rows ⟨.slice la r.l.length lc, .slice oa r.ok.length oc, .slice ca r.ch.length cc, .slice ta r.te.length tc, T0⟩, ∀ k, v.ownBlock = some k → k < b := fun v hv k hk => by rw [hb]; exact ho.has.under v hv k hk
 have hat : RpAt [] w1 B b ⟨.slice la r.l.length lc, .slice oa r.ok.length oc, .slice ca r.ch.length cc, .slice ta r.te.length tc, T0⟩ r := ⟨XB, ho.kept bw1, hap, by omega, ⟨fun x hx => nomatch hx⟩⟩
 have H1 : Hid (RpAt [(b + 1, 30, mxV X), (b + 2, 28, zR)] w1 B b ⟨.slice la r.l.length lc, .slice oa r.ok.length oc, .slice ca r.ch.length cc, .slice ta r.te.length tc, T0⟩ r) := (show RpAt _ _ _ _ _ _ from (hat.beside (k := b + 2) XZ (by omega) (fun v hv e => by have := hru v hv _ e; omega)).beside (k := b + 1) XM (by omega) (fun v hv e => by have := hru v hv _ e; omega))
 have B1 : Hid (Below B w w1) := hH_ (bw1.mono hB)
 have S1 : Hid (w1.heap.size = b + 3) := (show _ = _ by rw [hw1, hb]; simp)
 have HB : Hid (b = w.heap.size ∧ B ≤ b) := hH_ (⟨hb, by omega⟩)
 have HX : Hid (∀ W, Below B w W → Sls txtE W X.u X.m.l) := hH_ (hX)
 have HR : Hid (RpOk r) := hr
 have HXS : Hid (X.m.l.length ≤ 1048576 ∧ ∀ x ∈ X.m.l, x.size ≤ 1048576) := hH_ (hxs)
 have jm := fun W (hW : Below B w W) => specMok X.m X.u r.p W (hX W hW) hxs.2 hr.p
 clear ho hap hX hr hxs hB bw1 XB XM XZ hru hat
 unfold rpA mxV
 unfold msA Mx.u at jm
 simp only at jm ⊢
 have HM : Hid (MsOk X.m r.p ∧ X.m.t = r.id ∧ X.m.f ≠ r.id) := hH_ (⟨hm, ht, hf⟩)
 have bt : (X.m.t != r.id) = false := by simp [ht]
 have bf : (X.m.f == r.id) = false := by simp [hf]
 rw [msB_yes hm] at jm
 clear hm ht hf
 have HK : Hid (X.m.k = 4) := hk
 have em : Int.tmod X.m.v r.p = X.m.v % r.p := modE HM.out.1.v.1
 have hpz : ¬ r.p = 0 := by rcases HR.out.p with h | h | h <;> rw [h] <;> decide
 have ew : wrap64 (X.m.v % r.p) = X.m.v % r.p := by have := HM.out.1.v; unfold wrap64; rcases HR.out.p with h | h | h <;> rw [h] <;> omega
 obtain ⟨q, hq⟩ : ∃ q : Int, q = X.m.v % r.p := ⟨_, rfl⟩
 have HQ : Hid (q = X.m.v % r.p) := hq
 rw [← hq] at em ew
 clear hq
 have bq : (q != r.id) = false := by rw [HQ.out, hq4]; simp
 have HMI : Hid (X.m.v % r.p = r.id) := hq4
 clear hq4
 clear hk
 have hgt : ¬ r.v < X.m.v := hno.1
 have HE : Hid (rcvF r X.m = (r, [])) := hH_ (by rw [rcv_C HM.out (.inr HK.out)]; exact rcvC_1 (fun h => h.2 HMI.out) hno.1 hno.2)
 have HNO : Hid (¬ r.v < X.m.v ∧ (X.m.v ≠ r.v ∨ r.n = true)) := hno
 clear hno
 go_enter Tryz.func49, Tryz.ntmps49
 go_upto_region 1 with fail
 rw [← hb, ← hw1, show b + 1 + 1 = b + 2 from rfl]
 clear hw1 hb
 go_upto_region 2 with fail
 have bA : Below w1.heap.size w1 (w1.alloc (.cells #[] 30)) := (Below.refl _ w1).alloc (Nat.le_refl _) _
 obtain ⟨e0, he0⟩ : ∃ e0, e0 = w1.heap.size := ⟨_, rfl⟩
 have H2 := hH_ (H1.out.kept bA)
 have B2 := hH_ (B1.out.trans (bA.mono H1.out.le))
 have HE0 : Hid (e0 = b + 3) := (show _ = _ by rw [he0, S1.out])
 rw [← he0]
 generalize w1.alloc (.cells #[] 30) = w2 at H2 B2 ⊢
 clear bA he0 H1 B1 S1
 have y1 : w2.cell? ⟨b, 1, none⟩ = some (.int .i64 r.p) := H2.out.c.cell 1
 go_wp2_with (refine wpList_ldM rfl (.tmp 3) rfl (b + 1) rfl (H2.out.box (k := b + 1) (ty := 30) (vs := mxV X) (by simp)) rfl ?_)
 refine (jm _ B2.out).mono ?_
 rintro e w3 ⟨rfl, hb3⟩
 have H3 := hH_ (H2.out.kept hb3)
 have B3 := hH_ (B2.out.trans (hb3.mono H2.out.le))
 clear hb3 H2 B2 y1 jm
 have y0 : w3.cell? ⟨b, 0, none⟩ = some (.int .i64 r.id) := H3.out.c.cell 0
 have x1 : w3.cell? ⟨b + 1, 1, none⟩ = some (.int .i64 X.m.f) := (H3.out.box (k := b + 1) (ty := 30) (vs := mxV X) (by simp)).cell 1
 have x2 : w3.cell? ⟨b + 1, 2, none⟩ = some (.int .i64 X.m.t) := (H3.out.box (k := b + 1) (ty := 30) (vs := mxV X) (by simp)).cell 2
 have x0 : w3.cell? ⟨b + 1, 0, none⟩ = some (.int .i64 4) := by rw [← HK.out]; exact (H3.out.box (k := b + 1) (ty := 30) (vs := mxV X) (by simp)).cell 0
 have x3 : w3.cell? ⟨b + 1, 3, none⟩ = some (.int .i64 X.m.v) := (H3.out.box (k := b + 1) (ty := 30) (vs := mxV X) (by simp)).cell 3
 have y1 : w3.cell? ⟨b, 1, none⟩ = some (.int .i64 r.p) := H3.out.c.cell 1
 go_upto_region 23 with fail
 go_quiet (fail)
 have BN := hH_ (dwNB w3 nq)
 generalize w3.drewN nq = w5 at BN ⊢
 have H5 := hH_ (H3.out.kept BN.out)
 have B5 := hH_ (B3.out.trans (BN.out.mono H3.out.le))
 clear x0 x1 x2 x3 y0 y1 BN H3 B3
 have x3 : w5.cell? ⟨b + 1, 3, none⟩ = some (.int .i64 X.m.v) := (H5.out.box (k := b + 1) (ty := 30) (vs := mxV X) (by simp)).cell 3
 have y2 : w5.cell? ⟨b, 2, none⟩ = some (.int .i64 r.v) := H5.out.c.cell 2
 by_cases heq : X.m.v = r.v
 case neg =>
  have beq : (X.m.v != r.v) = true := by simp [heq]
  clear heq
  go_upto_region 29 with fail
  clear x3 y2 hgt beq
  go_wp2_with (first | (refine wpList_ldR rfl (.tmp 2) rfl b rfl H5.out.c rfl ?_) | (refine wpList_stR rfl rfl (.tmp 4) (.tmp 193) rfl (b + 2) (rpC r ⟨.slice la r.l.length lc, .slice oa r.ok.length oc, .slice ca r.ch.length cc, .slice ta r.te.length tc, T0⟩) rfl rfl (H5.out.box (k := b + 2) (ty := 28) (vs := zR) (by simp)) rfl rfl (rpC_one H5.out.got) ?_; intro w9 hz9 hc9))
  have B9 : Below B w w9 := hc9.below B5.out (by have:=HB.out;have := H5.out.lt; omega) (fun k hk => by have:=HB.out;omega)
  have HO : RpOw w9 B ⟨.slice la r.l.length lc, .slice oa r.ok.length oc, .slice ca r.ch.length cc, .slice ta r.te.length tc, T0⟩ r := H5.out.o.off (fun v hv k hk => hc9.block k (H5.out.under v hv k hk) (fun e => by
   have h5 := (H5.out.fr.k (b + 2, 28, zR) (by simp)).2.2 v hv
   rw [e] at hk
   exact h5 hk))
  have hrl := results_row2 (P := Tryz.prog) (fn := Tryz.f49) (p := 4) (q := 5) (ty := 28) rfl
  refine bodyPost_ret (v := .tuple #[.agg (rpC r ⟨.slice la r.l.length lc, .slice oa r.ok.length oc, .slice ca r.ch.length cc, .slice ta r.te.length tc, T0⟩), .slice (some ⟨e0, 0, none⟩) 0 0]) (hrl _ _ (b + 2) 28 _ (0, 0) _ rfl _ rfl hz9 Tryz.underlying28 rfl (by rw [Tryz.rszR]; rfl)) rfl ?_
  unfold RvE
  rw [HE.out]
  exact ⟨⟨.slice la r.l.length lc, .slice oa r.ok.length oc, .slice ca r.ch.length cc, .slice ta r.te.length tc, T0⟩, _, [], rfl, RvAns.no HO H5.out.apt B9⟩
 have beq : (X.m.v != r.v) = false := by simp [heq]
 have y3 : w5.cell? ⟨b, 3, none⟩ = some (.bool true) := by
  rcases HNO.out.2 with h | h
  ·
   exact absurd heq h
  ·
   rw [← h]; exact H5.out.c.cell 3
 clear heq
 go_upto_region 29 with fail
 clear x3 y2 y3 hgt beq
 go_wp2_with (first | (refine wpList_ldR rfl (.tmp 2) rfl b rfl H5.out.c rfl ?_) | (refine wpList_stR rfl rfl (.tmp 4) (.tmp 193) rfl (b + 2) (rpC r ⟨.slice la r.l.length lc, .slice oa r.ok.length oc, .slice ca r.ch.length cc, .slice ta r.te.length tc, T0⟩) rfl rfl (H5.out.box (k := b + 2) (ty := 28) (vs := zR) (by simp)) rfl rfl (rpC_one H5.out.got) ?_; intro w9 hz9 hc9))
 have B9 : Below B w w9 := hc9.below B5.out (by have:=HB.out;have := H5.out.lt; omega) (fun k hk => by have:=HB.out;omega)
 have HO : RpOw w9 B ⟨.slice la r.l.length lc, .slice oa r.ok.length oc, .slice ca r.ch.length cc, .slice ta r.te.length tc, T0⟩ r := H5.out.o.off (fun v hv k hk => hc9.block k (H5.out.under v hv k hk) (fun e => by
  have h5 := (H5.out.fr.k (b + 2, 28, zR) (by simp)).2.2 v hv
  rw [e] at hk
  exact h5 hk))
 have hrl := results_row2 (P := Tryz.prog) (fn := Tryz.f49) (p := 4) (q := 5) (ty := 28) rfl
 refine bodyPost_ret (v := .tuple #[.agg (rpC r ⟨.slice la r.l.length lc, .slice oa r.ok.length oc, .slice ca r.ch.length cc, .slice ta r.te.length tc, T0⟩), .slice (some ⟨e0, 0, none⟩) 0 0]) (hrl _ _ (b + 2) 28 _ (0, 0) _ rfl _ rfl hz9 Tryz.underlying28 rfl (by rw [Tryz.rszR]; rfl)) rfl ?_
 unfold RvE
 rw [HE.out]
 exact ⟨⟨.slice la r.l.length lc, .slice oa r.ok.length oc, .slice ca r.ch.length cc, .slice ta r.te.length tc, T0⟩, _, [], rfl, RvAns.no HO H5.out.apt B9⟩
open Go.RowKit Go.Sort Go.Shelf Pg
theorem specRcvTA (r : Rp) (u : Rv) (B : Nat) (X : Mx) (w : World) (ho : RpOw w B u r) (hap : RpAp u) (hX : ∀ W, Below B w W → Sls txtE W X.u X.m.l) (hr : RpOk r) (hxs : X.m.l.length ≤ 1048576 ∧ ∀ x ∈ X.m.l, x.size ≤ 1048576) (hB : B ≤ w.heap.size) (hm : MsOk X.m r.p) (ht : X.m.t = r.id) (hf : X.m.f ≠ r.id) (hk : X.m.k = 4) (hq4 : X.m.v % r.p = r.id) (has : r.v < X.m.v) :
  Calls Tryz.prog 49 #[rpA r u, .agg (mxV X)] w fun e w' => RvE r X B w e w' := by
 obtain ⟨la, lc, oa, oc, ca, cc, ta, tc, T0, rfl⟩ := ho.got.form
 obtain ⟨b, hb⟩ : ∃ b, b = w.heap.size := ⟨_, rfl⟩
 obtain ⟨w1, hw1⟩ : ∃ w1, w1 = ((w.alloc (.cells #[.int .i64 r.id, .int .i64 r.p, .int .i64 r.v, .bool r.n, .int .i64 r.la, .slice la r.l.length lc, .int .i64 r.c, .slice oa r.ok.length oc, .slice ca r.ch.length cc, .slice ta r.te.length tc] 28)).alloc (.cells #[.int .i64 X.m.k, .int .i64 X.m.f, .int .i64 X.m.t, .int .i64 X.m.v, .int .i64 X.m.la, .slice X.pl X.m.l.length X.cl, .int .i64 X.m.c] 30)).alloc (.cells #[.int .i64 0, .int .i64 0, .int .i64 0, .bool false, .int .i64 0, .slice none 0 0, .int .i64 0, .slice none 0 0, .slice none 0 0, .slice none 0 0] 28) := ⟨_, rfl⟩
 have bw1 : Below w.heap.size w w1 := by rw [hw1]; exact (((Below.refl _ w).alloc (Nat.le_refl _) _).alloc (by simp) _).alloc (by simp; omega) _
 have XB : Bx w1 b 28 #[.int .i64 r.id, .int .i64 r.p, .int .i64 r.v, .bool r.n, .int .i64 r.la, .slice la r.l.length lc, .int .i64 r.c, .slice oa r.ok.length oc, .slice ca r.ch.length cc, .slice ta r.te.length tc] := by rw [hw1, hb]; exact ((Bx.new _ _ _).alloc _).alloc _
 have XM : Bx w1 (b + 1) 30 (mxV X) := by rw [hw1, hb]; exact (Bx.at _ _ (by simp)).alloc _
 have XZ : Bx w1 (b + 2) 28 zR := by rw [hw1, hb]; exact Bx.at _ _ (by simp)
 have hru : ∀ v ∈ Rv.rows ⟨.slice la r.l.length lc, .slice oa r.ok.length oc, .slice ca r.ch.length cc, .slice ta r.te.length tc, T0⟩, ∀ k, v.ownBlock = some k → k < b := fun v hv k hk => by rw [hb]; exact ho.has.under v hv k hk
 have hat : RpAt [] w1 B b ⟨.slice la r.l.length lc, .slice oa r.ok.length oc, .slice ca r.ch.length cc, .slice ta r.te.length tc, T0⟩ r := ⟨XB, ho.kept bw1, hap, by omega, ⟨fun x hx => nomatch hx⟩⟩
 have H1 : Hid (RpAt [(b + 1, 30, mxV X), (b + 2, 28, zR)] w1 B b ⟨.slice la r.l.length lc, .slice oa r.ok.length oc, .slice ca r.ch.length cc, .slice ta r.te.length tc, T0⟩ r) := (show RpAt _ _ _ _ _ _ from (hat.beside (k := b + 2) XZ (by omega) (fun v hv e => by have := hru v hv _ e; omega)).beside (k := b + 1) XM (by omega) (fun v hv e => by have := hru v hv _ e; omega))
 have B1 : Hid (Below B w w1) := hH_ (bw1.mono hB)
 have S1 : Hid (w1.heap.size = b + 3) := (show _ = _ by rw [hw1, hb]; simp)
 have HB : Hid (b = w.heap.size ∧ B ≤ b) := hH_ (⟨hb, by omega⟩)
 have HX : Hid (∀ W, Below B w W → Sls txtE W X.u X.m.l) := hH_ (hX)
 have HR : Hid (RpOk r) := hr
 have HXS : Hid (X.m.l.length ≤ 1048576 ∧ ∀ x ∈ X.m.l, x.size ≤ 1048576) := hH_ (hxs)
 have jm := fun W (hW : Below B w W) => specMok X.m X.u r.p W (hX W hW) hxs.2 hr.p
 clear ho hap hX hr hxs hB bw1 XB XM XZ hru hat
 unfold rpA mxV
 unfold msA Mx.u at jm
 simp only at jm ⊢
 have HM : Hid (MsOk X.m r.p ∧ X.m.t = r.id ∧ X.m.f ≠ r.id) := hH_ (⟨hm, ht, hf⟩)
 have bt : (X.m.t != r.id) = false := by simp [ht]
 have bf : (X.m.f == r.id) = false := by simp [hf]
 rw [msB_yes hm] at jm
 clear hm ht hf
 have HK : Hid (X.m.k = 4) := hk
 have em : Int.tmod X.m.v r.p = X.m.v % r.p := modE HM.out.1.v.1
 have hpz : ¬ r.p = 0 := by rcases HR.out.p with h | h | h <;> rw [h] <;> decide
 have ew : wrap64 (X.m.v % r.p) = X.m.v % r.p := by have := HM.out.1.v; unfold wrap64; rcases HR.out.p with h | h | h <;> rw [h] <;> omega
 obtain ⟨q, hq⟩ : ∃ q : Int, q = X.m.v % r.p := ⟨_, rfl⟩
 have HQ : Hid (q = X.m.v % r.p) := hq
 rw [← hq] at em ew
 clear hq
 have bq : (q != r.id) = false := by rw [HQ.out, hq4]; simp
 have HMI : Hid (X.m.v % r.p = r.id) := hq4
 clear hq4
 clear hk
 have HAS : Hid (r.v < X.m.v) := has
 have hgt : r.v < X.m.v := has
 clear has
 go_enter Tryz.func49, Tryz.ntmps49
 go_upto_region 1 with fail
 rw [← hb, ← hw1, show b + 1 + 1 = b + 2 from rfl]
 clear hw1 hb
 go_upto_region 2 with fail
 have bA : Below w1.heap.size w1 (w1.alloc (.cells #[] 30)) := (Below.refl _ w1).alloc (Nat.le_refl _) _
 obtain ⟨e0, he0⟩ : ∃ e0, e0 = w1.heap.size := ⟨_, rfl⟩
 have H2 := hH_ (H1.out.kept bA)
 have B2 := hH_ (B1.out.trans (bA.mono H1.out.le))
 have HE0 : Hid (e0 = b + 3) := (show _ = _ by rw [he0, S1.out])
 rw [← he0]
 generalize w1.alloc (.cells #[] 30) = w2 at H2 B2 ⊢
 clear bA he0 H1 B1 S1
 have y1 : w2.cell? ⟨b, 1, none⟩ = some (.int .i64 r.p) := H2.out.c.cell 1
 go_wp2_with (refine wpList_ldM rfl (.tmp 3) rfl (b + 1) rfl (H2.out.box (k := b + 1) (ty := 30) (vs := mxV X) (by simp)) rfl ?_)
 refine (jm _ B2.out).mono ?_
 rintro e w3 ⟨rfl, hb3⟩
 have H3 := hH_ (H2.out.kept hb3)
 have B3 := hH_ (B2.out.trans (hb3.mono H2.out.le))
 clear hb3 H2 B2 y1 jm
 have y0 : w3.cell? ⟨b, 0, none⟩ = some (.int .i64 r.id) := H3.out.c.cell 0
 have x1 : w3.cell? ⟨b + 1, 1, none⟩ = some (.int .i64 X.m.f) := (H3.out.box (k := b + 1) (ty := 30) (vs := mxV X) (by simp)).cell 1
 have x2 : w3.cell? ⟨b + 1, 2, none⟩ = some (.int .i64 X.m.t) := (H3.out.box (k := b + 1) (ty := 30) (vs := mxV X) (by simp)).cell 2
 have x0 : w3.cell? ⟨b + 1, 0, none⟩ = some (.int .i64 4) := by rw [← HK.out]; exact (H3.out.box (k := b + 1) (ty := 30) (vs := mxV X) (by simp)).cell 0
 have x3 : w3.cell? ⟨b + 1, 3, none⟩ = some (.int .i64 X.m.v) := (H3.out.box (k := b + 1) (ty := 30) (vs := mxV X) (by simp)).cell 3
 have y1 : w3.cell? ⟨b, 1, none⟩ = some (.int .i64 r.p) := H3.out.c.cell 1
 go_upto_region 23 with fail
 go_quiet (fail)
 have BN := hH_ (dwNB w3 nq)
 generalize w3.drewN nq = w5 at BN ⊢
 have H5 := hH_ (H3.out.kept BN.out)
 have B5 := hH_ (B3.out.trans (BN.out.mono H3.out.le))
 clear x0 x1 x2 x3 y0 y1 BN H3 B3
 have x3 : w5.cell? ⟨b + 1, 3, none⟩ = some (.int .i64 X.m.v) := (H5.out.box (k := b + 1) (ty := 30) (vs := mxV X) (by simp)).cell 3
 have y2 : w5.cell? ⟨b, 2, none⟩ = some (.int .i64 r.v) := H5.out.c.cell 2
 go_upto_region 28 with (go_at_call 74; refine (specAsk r _ B b X.m.v _ H5.out).mono ?_; rintro e w6 ⟨rfl, ua, h6, b6⟩)
 obtain ⟨a, ha⟩ : ∃ a, a = askF r X.m.v := ⟨_, rfl⟩
 rw [← ha] at h6
 have H6 : Hid (RpAt [(b + 1, 30, mxV X), (b + 2, 28, zR)] w6 B b ua a) := h6
 have B6 := hH_ (B5.out.trans b6)
 have HAA : Hid (a = if r.v < X.m.v then askF r X.m.v else r) := hH_ (by rw [ha]; exact (if_pos HAS.out).symm)
 have ha9 : RpOk a ∧ a.n = false ∧ a.v = X.m.v ∧ a.p = r.p ∧ a.id = r.id := by rw [ha]; exact ⟨(ask_kp HR.out HAS.out HM.out.1.v.2).ok, rfl, rfl, rfl, rfl⟩
 clear x3 y2 h6 b6 ha hgt H5 B5
 have x3 : w6.cell? ⟨b + 1, 3, none⟩ = some (.int .i64 X.m.v) := (H6.out.box (k := b + 1) (ty := 30) (vs := mxV X) (by simp)).cell 3
 have y2 : w6.cell? ⟨b, 2, none⟩ = some (.int .i64 X.m.v) := by rw [← ha9.2.2.1]; exact H6.out.c.cell 2
 have y3 : w6.cell? ⟨b, 3, none⟩ = some (.bool false) := by rw [← ha9.2.1]; exact H6.out.c.cell 3
 have Ha9 : Hid (RpOk a ∧ a.n = false ∧ a.v = X.m.v ∧ a.p = r.p ∧ a.id = r.id) := ha9
 clear ha9
 go_upto_region 30 with fail
 have ha9 := Ha9
 clear x3 y2 y3 Ha9
 have HA : Hid (RpOk a ∧ a.n = false ∧ a.v = X.m.v ∧ a.p = r.p ∧ a.id = r.id) := ha9
 clear ha9
 have hch := HA.out.1.ch1 HA.out.2.1
 have hcl := HA.out.1.ch5
 obtain ⟨g, cap, hgc⟩ : ∃ g cap, ua.ch = .slice (some ⟨g, 0, none⟩) a.ch.length cap := by
  obtain ⟨ad, cap, e, _⟩ := H6.out.o.ch.form
  obtain ⟨g, e2⟩ := ownsN_some (by rw [← e]; exact H6.out.o.ch) (List.length_pos_of_mem hch.1)
  exact ⟨g, cap, by rw [e, e2]⟩
 have y8 : w6.cell? ⟨b, 8, none⟩ = some (.slice (some ⟨g, 0, none⟩) a.ch.length cap) := by rw [← hgc]; exact H6.out.c.cell 8
 have y1 : w6.cell? ⟨b, 1, none⟩ = some (.int .i64 a.p) := H6.out.c.cell 1
 have j1 := fun W => specMaj a.ch.length a.p W (by omega)
 obtain ⟨BM, hBM⟩ : ∃ BM, BM = dB (maj a.ch.length a.p) := ⟨_, rfl⟩
 have HBM : Hid (BM = dB (maj a.ch.length a.p)) := hBM
 rw [← hBM] at j1
 clear hBM
 go_upto_region 31 with (go_at_call 109; refine (j1 _).mono ?_; rintro e wm ⟨rfl, rfl⟩)
 have x1 : w6.cell? ⟨b + 1, 1, none⟩ = some (.int .i64 X.m.f) := (H6.out.box (k := b + 1) (ty := 30) (vs := mxV X) (by simp)).cell 1
 have jp := specPutG g cap a.ch X.m.f B w6 (by rw [← hgc]; exact H6.out.o.ch) hch.2.1 (by omega) H6.out.le
 clear hch hcl j1
 go_upto_region 32 with (first | (go_at_call 110; refine jp.mono ?_; rintro e wp ⟨g9, c9, rfl, o9, b9, n9⟩) | (refine wpList_rpPut H6.out b9 rfl rfl (.tmp 206) (.tmp 205) rfl o9 (putN8 hgc n9) rfl rfl ?_; intro w7 h7 b7))
 obtain ⟨c1, hc1⟩ : ∃ c1 : Rp, c1 = { a with ch := Sk.put X.m.f a.ch } := ⟨_, rfl⟩
 rw [← hc1] at h7
 have HC1 : Hid (c1 = { a with ch := Sk.put X.m.f a.ch }) := hc1
 have hK1 : RpOk c1 := by rw [hc1]; exact (ch_kp HA.out.1 HA.out.2.1 (by rw [HA.out.2.2.2.1]; exact HM.out.1.f)).ok
 have HK1 : Hid (RpOk c1 ∧ c1.n = false ∧ c1.v = X.m.v ∧ c1.p = r.p ∧ c1.id = r.id) := hH_ (⟨hK1, by rw [hc1]; exact HA.out.2.1, by rw [hc1]; exact HA.out.2.2.1, by rw [hc1]; exact HA.out.2.2.2.1, by rw [hc1]; exact HA.out.2.2.2.2⟩)
 have H7 : Hid (RpAt [(b + 1, 30, mxV X), (b + 2, 28, zR)] w7 B b _ c1) := h7
 have B7 := hH_ (B6.out.trans b7)
 have hl2 : c1.ch.length ≤ 1048576 := by have := hK1.ch5; omega
 have e2 : (Sk.put X.m.f a.ch).length = c1.ch.length := by rw [hc1]
 have y8 : w7.cell? ⟨b, 8, none⟩ = some (.slice (some ⟨g9, 0, none⟩) c1.ch.length c9) := by rw [← e2]; exact H7.out.c.cell 8
 have y1 : w7.cell? ⟨b, 1, none⟩ = some (.int .i64 c1.p) := H7.out.c.cell 1
 have x0 : w7.cell? ⟨b + 1, 0, none⟩ = some (.int .i64 4) := by rw [← HK.out]; exact (H7.out.box (k := b + 1) (ty := 30) (vs := mxV X) (by simp)).cell 0
 have j1 := fun W => specMaj c1.ch.length c1.p W hl2
 obtain ⟨NM, hNM⟩ : ∃ NM, NM = dB (maj c1.ch.length c1.p) := ⟨_, rfl⟩
 have HNM : Hid (NM = dB (maj c1.ch.length c1.p)) := hNM
 rw [← hNM] at j1
 rw [e2]
 clear hNM h7 b7 o9 b9 n9 hgc hc1 hK1 hl2 e2 x1 jp H6 B6
 go_upto_region 34 with (go_at_call 109; refine (j1 _).mono ?_; rintro e wm ⟨rfl, rfl⟩)
 clear y8 y1 x0 j1
 have js := specTell c1 _ B b X.m X.u w7 H7.out (HX.out w7 B7.out) HXS.out.1 (by rw [← List.length_map (f := (·.m)), H7.out.o.t]; have := HK1.out.1.te5; omega)
 unfold msA Mx.u at js
 go_upto_region 35 with (first | (refine wpList_ldM rfl (.tmp 3) rfl (b + 1) rfl (H7.out.box (k := b + 1) (ty := 30) (vs := mxV X) (by simp)) rfl ?_) | (go_at_call 111; refine js.mono ?_; rintro e w8 ⟨rfl, u8, h8, b8⟩))
 obtain ⟨d1, hd1⟩ : ∃ d1 : Rp, d1 = { c1 with te := putM X.m c1.te } := ⟨_, rfl⟩
 rw [← hd1] at h8
 have HD1 : Hid (d1 = { c1 with te := putM X.m c1.te }) := hd1
 have HKD : Hid (RpOk d1) := (show RpOk _ from by
  rw [hd1]
  refine (te_kp HK1.out.1 HK1.out.2.1 (by unfold mine; rw [HK1.out.2.2.1, HK1.out.2.2.2.1, HK1.out.2.2.2.2]; exact HMI.out) ⟨HK.out, by rw [HM.out.2.1, HK1.out.2.2.2.2], HK1.out.2.2.1.symm, by rw [HK1.out.2.2.2.1]; exact HM.out.1⟩).ok)
 have H8 : Hid (RpAt [(b + 1, 30, mxV X), (b + 2, 28, zR)] w8 B b u8 d1) := h8
 have B8 := hH_ (B7.out.trans b8)
 clear h8 b8 js hd1 H7 B7
 go_upto_region 36 with (go_at_call 75; refine (specTld _ _ B b _ H8.out HKD.out).mono ?_; rintro e w9 ⟨rfl, ux, h9, b9⟩)
 obtain ⟨R, hR⟩ : ∃ R, R = told d1 := ⟨_, rfl⟩
 rw [← hR] at h9
 have HRR : Hid (R = told d1) := hR
 have HK9 : Hid (RpOk R) := (show RpOk _ from by rw [hR]; exact (told_kp HKD.out).ok)
 have HH : Hid (RpAt [(b + 1, 30, mxV X), (b + 2, 28, zR)] w9 B b ux R) := h9
 have BB := hH_ (B8.out.trans b9)
 clear h9 b9 hR H8 B8
 have HT : Hid (rcvF r X.m = if r.v < X.m.v ∨ R.n = true then (R, sprL R) else (R, [])) := (show _ = _ from by
  rw [rcv_C HM.out (.inr HK.out), rcvC_T (fun h => h.2 HMI.out) HAA.out (by rintro (h | h); exact h HA.out.2.2.1.symm; rw [HA.out.2.1] at h; cases h) HK.out, HRR.out, HD1.out, HC1.out])
 have HE : Hid (rcvF r X.m = (R, sprL R)) := hH_ (by rw [HT.out]; exact if_pos (.inl HAS.out))
 clear HT
 go_upto_region 37 with fail
 have HW : Hid (RpAt [(b + 1, 30, mxV X), (b + 2, 28, zR)] w9 B b ux R) := HH
 have BW : Hid (Below B w w9) := BB
 clear HH BB
 have hz2 := Bx.lt (HW.out.box (k := b + 2) (ty := 28) (vs := zR) (by simp))
 have HC : Hid (∀ x, StS w9 (b + 2) x → Bx x b 28 (rpC R ux)) := hH_ (fun x hS => (hS.ch.block b HW.out.lt (by omega)).trans HW.out.c)
 have HOX := fun x (hS : StS w9 (b + 2) x) => (show RpOw x B ux R from HW.out.o.off (fun v hv k hk => hS.ch.block k (HW.out.under v hv k hk) (fun e => by
  have h5 := (HW.out.fr.k (b + 2, 28, zR) (by simp)).2.2 v hv
  rw [e] at hk
  exact h5 hk)))
 have jS := fun x (hS : StS w9 (b + 2) x) => specSpr R ux x (HOX x hS).got ⟨HK9.out.v.1, by have := HK9.out.v; omega⟩ HK9.out.p (by have := logB_sm HK9.out.l; omega) (by have := HK9.out.ch5; omega)
 unfold rpA at jS
 have S0 : StS w9 (b + 2) w9.drew := ⟨⟨rfl, rfl, rfl, Nat.le_refl _, fun _ _ _ => rfl⟩, zR, (HW.out.box (k := b + 2) (ty := 28) (vs := zR) (by simp)), rfl⟩
 have HLT : Hid (b + 2 < w9.heap.size) := hz2
 have Z9 : Hid (w.heap.size ≤ w9.heap.size) := hH_ (BW.out.size)
 clear hz2
 obtain ⟨lo, hlo⟩ : ∃ lo, lo = w9.heap.size := ⟨_, rfl⟩
 generalize hA : Act.mk _ _ = A
 obtain ⟨s, hs, s2_, s4_⟩ : ∃ s : Nat → Value, A = frRcS s s ∧ s 2 = .pointer (some ⟨b, 0, none⟩) ∧ s 4 = .pointer (some ⟨b + 2, 0, none⟩) := by
  refine ⟨fun i => A.tmps.getD i undef, ?_, ?_, ?_⟩ <;> rw [← hA] <;> rfl
 rw [hs]
 clear hs hA
 refine region_heads 4 mixed (by decide) (by kernel_rfl) (by kernel_rfl) (by kernel_rfl) (by kernel_rfl) (frRcS s) dRcS (fun x => StS w9 (b + 2) x) (GRcS R ux b lo) (fun i j hi hj h => dRcS_ne hi hj h) ?put s rfl S0 ?step ?done
 case put =>
  intro i o hi ho t v
  rcases (show i = 0 ∨ i = 1 ∨ i = 2 ∨ i = 3 by omega) with rfl | rfl | rfl | rfl
  all_goals
   obtain rfl := Option.some.inj ho
   rfl
 case step =>
  intro i o hi ho t x hS hdep K hK
  rcases (show i = 0 ∨ i = 1 ∨ i = 2 ∨ i = 3 by omega) with rfl | rfl | rfl | rfl
  all_goals obtain rfl := Option.some.inj ho
  ·
   have h2 := hK (.agg (rpC R ux)) x hS kI_ rfl
   refine ldG (by rfl) (.tmp 2) rfl b (by show (frRcS s t).eval (.tmp 2) = _; unfold frRcS; simp [Act.eval, s2_]) (HC.out x hS) (rpC_size R ux) ?_
   exact h2
  ·
   have h2 := hK (.agg (rpC R ux)) x hS kI_ rfl
   refine ldG (by rfl) (.tmp 2) rfl b (by show (frRcS s t).eval (.tmp 2) = _; unfold frRcS; simp [Act.eval, s2_]) (HC.out x hS) (rpC_size R ux) ?_
   exact h2
  ·
   have e1 : t 225 = .agg (rpC R ux) := hdep ⟨1, .data⟩ (by simp) rfl
   refine callG1 (by rfl) 73 (.tmp 225) _ rfl (.agg (rpC R ux)) e1 (Go.Proofs.enters_of Tryz.func73 (by kernel_rfl) rfl _) (fun v y => (∃ (C : Nat) (T : List Mx) (p1 : Option Addr) (d1 : Nat), v = .slice p1 T.length d1 ∧ (lo ≤ C ∧ C ≤ y.heap.size ∧ MsOwn y C (.slice p1 T.length d1) T (sprL R))) ∧ Below x.heap.size x y) ((jS x hS).mono ?_) ?_
   ·
    rintro e0 y0 ⟨u0, T0, h0, h1, h2⟩
    obtain ⟨q1, g1, rfl, _⟩ := h1.row.form
    exact ⟨_, h0, ⟨x.heap.size, T0, q1, g1, rfl, by rw [hlo]; exact hS.ch.size, h2.size, h1⟩, h2⟩
   ·
    rintro v y ⟨h0, hb2⟩
    exact hK v y (hS.kept hb2) (fun j u hj hne h => GRcS.keep hb2 j u hj h) h0
  ·
   have e0 : t 224 = .agg (rpC R ux) := hdep ⟨0, .data⟩ (by simp) rfl
   obtain ⟨old, ho1, ho2⟩ := hS.bx
   refine stG (by rfl) (.tmp 4) (.tmp 224) rfl (b + 2) (rpC R ux) (by show (frRcS s t).eval (.tmp 4) = _; unfold frRcS; simp [Act.eval, s4_]) (by show (frRcS s t).eval (.tmp 224) = _; unfold frRcS; simp [Act.eval, e0]) ho1 ho2 (rpC_size R ux) (rpC_one HW.out.got) ?_
   intro W hW hc
   exact hK undef W (hS.put hW (rpC_size R ux) hc) (fun j u hj hne h => GRcS.keepS (by rw [hlo]; exact HLT.out) hc j u hj hne h) ⟨rfl, hW⟩
 case done =>
  intro tt wz hS hG
  obtain ⟨C, TT, p1, d1', e7, k2⟩ : ∃ (C : Nat) (T : List Mx) (p1 : Option Addr) (d1 : Nat), tt 226 = .slice p1 T.length d1 ∧ (lo ≤ C ∧ C ≤ wz.heap.size ∧ MsOwn wz C (.slice p1 T.length d1) T (sprL R)) := hG 2 (by decide)
  obtain ⟨_, hz12⟩ : tt 100003 = undef ∧ Bx wz (b + 2) 28 (rpC R ux) := hG 3 (by decide)
  rw [hlo] at k2
  have HO : Hid (RpOw wz B ux R) := hH_ (HOX wz hS)
  have HZ : Hid (Bx wz (b + 2) 28 (rpC R ux)) := hz12
  have BB : Hid (Below B w wz) := hH_ (hS.ch.below BW.out HW.out.le (fun k hk => by have:=HB.out;omega))
  have K2 : Hid (w9.heap.size ≤ C ∧ C ≤ wz.heap.size ∧ MsOwn wz C (.slice p1 TT.length d1') TT (sprL R)) := hH_ (k2)
  clear jS HC HOX hG hS S0 hlo BW k2 hz12
  show wpList Tryz.prog _ _ [_] _ wz
  unfold frRcS
  simp only [e7, s2_, s4_]
  clear e7 s2_ s4_
  go_wp2_with fail
  have hrl := results_row2 (P := Tryz.prog) (fn := Tryz.f49) (p := 4) (q := 5) (ty := 28) rfl
  refine bodyPost_ret (v := .tuple #[.agg (rpC R ux), .slice p1 TT.length d1']) (hrl _ _ (b + 2) 28 _ (0, 0) _ rfl _ rfl HZ.out Tryz.underlying28 rfl (by rw [Tryz.rszR]; rfl)) rfl ?_
  unfold RvE
  rw [HE.out]
  exact ⟨ux, _, TT, rfl, ⟨HO.out, HW.out.apt, ⟨C, fun v hv k hk => Nat.lt_of_lt_of_le (HW.out.under v hv k hk) K2.out.1, Nat.le_trans Z9.out K2.out.1, K2.out.2.1, .inl K2.out.2.2⟩, BB.out⟩⟩
open Go.RowKit Go.Sort Go.Shelf Pg
theorem specRcvTB (r : Rp) (u : Rv) (B : Nat) (X : Mx) (w : World) (ho : RpOw w B u r) (hap : RpAp u) (hX : ∀ W, Below B w W → Sls txtE W X.u X.m.l) (hr : RpOk r) (hxs : X.m.l.length ≤ 1048576 ∧ ∀ x ∈ X.m.l, x.size ≤ 1048576) (hB : B ≤ w.heap.size) (hm : MsOk X.m r.p) (ht : X.m.t = r.id) (hf : X.m.f ≠ r.id) (hk : X.m.k = 4) (hq4 : X.m.v % r.p = r.id) (heq : X.m.v = r.v) (hnn : r.n = false) :
  Calls Tryz.prog 49 #[rpA r u, .agg (mxV X)] w fun e w' => RvE r X B w e w' := by
 obtain ⟨la, lc, oa, oc, ca, cc, ta, tc, T0, rfl⟩ := ho.got.form
 obtain ⟨b, hb⟩ : ∃ b, b = w.heap.size := ⟨_, rfl⟩
 obtain ⟨w1, hw1⟩ : ∃ w1, w1 = ((w.alloc (.cells #[.int .i64 r.id, .int .i64 r.p, .int .i64 r.v, .bool r.n, .int .i64 r.la, .slice la r.l.length lc, .int .i64 r.c, .slice oa r.ok.length oc, .slice ca r.ch.length cc, .slice ta r.te.length tc] 28)).alloc (.cells #[.int .i64 X.m.k, .int .i64 X.m.f, .int .i64 X.m.t, .int .i64 X.m.v, .int .i64 X.m.la, .slice X.pl X.m.l.length X.cl, .int .i64 X.m.c] 30)).alloc (.cells #[.int .i64 0, .int .i64 0, .int .i64 0, .bool false, .int .i64 0, .slice none 0 0, .int .i64 0, .slice none 0 0, .slice none 0 0, .slice none 0 0] 28) := ⟨_, rfl⟩
 have bw1 : Below w.heap.size w w1 := by rw [hw1]; exact (((Below.refl _ w).alloc (Nat.le_refl _) _).alloc (by simp) _).alloc (by simp; omega) _
 have XB : Bx w1 b 28 #[.int .i64 r.id, .int .i64 r.p, .int .i64 r.v, .bool r.n, .int .i64 r.la, .slice la r.l.length lc, .int .i64 r.c, .slice oa r.ok.length oc, .slice ca r.ch.length cc, .slice ta r.te.length tc] := by rw [hw1, hb]; exact ((Bx.new _ _ _).alloc _).alloc _
 have XM : Bx w1 (b + 1) 30 (mxV X) := by rw [hw1, hb]; exact (Bx.at _ _ (by simp)).alloc _
 have XZ : Bx w1 (b + 2) 28 zR := by rw [hw1, hb]; exact Bx.at _ _ (by simp)
 have hru : ∀ v ∈ Rv.rows ⟨.slice la r.l.length lc, .slice oa r.ok.length oc, .slice ca r.ch.length cc, .slice ta r.te.length tc, T0⟩, ∀ k, v.ownBlock = some k → k < b := fun v hv k hk => by rw [hb]; exact ho.has.under v hv k hk
 have hat : RpAt [] w1 B b ⟨.slice la r.l.length lc, .slice oa r.ok.length oc, .slice ca r.ch.length cc, .slice ta r.te.length tc, T0⟩ r := ⟨XB, ho.kept bw1, hap, by omega, ⟨fun x hx => nomatch hx⟩⟩
 have H1 : Hid (RpAt [(b + 1, 30, mxV X), (b + 2, 28, zR)] w1 B b ⟨.slice la r.l.length lc, .slice oa r.ok.length oc, .slice ca r.ch.length cc, .slice ta r.te.length tc, T0⟩ r) := (show RpAt _ _ _ _ _ _ from (hat.beside (k := b + 2) XZ (by omega) (fun v hv e => by have := hru v hv _ e; omega)).beside (k := b + 1) XM (by omega) (fun v hv e => by have := hru v hv _ e; omega))
 have B1 : Hid (Below B w w1) := hH_ (bw1.mono hB)
 have S1 : Hid (w1.heap.size = b + 3) := (show _ = _ by rw [hw1, hb]; simp)
 have HB : Hid (b = w.heap.size ∧ B ≤ b) := hH_ (⟨hb, by omega⟩)
 have HX : Hid (∀ W, Below B w W → Sls txtE W X.u X.m.l) := hH_ (hX)
 have HR : Hid (RpOk r) := hr
 have HXS : Hid (X.m.l.length ≤ 1048576 ∧ ∀ x ∈ X.m.l, x.size ≤ 1048576) := hH_ (hxs)
 have jm := fun W (hW : Below B w W) => specMok X.m X.u r.p W (hX W hW) hxs.2 hr.p
 clear ho hap hX hr hxs hB bw1 XB XM XZ hru hat
 unfold rpA mxV
 unfold msA Mx.u at jm
 simp only at jm ⊢
 have HM : Hid (MsOk X.m r.p ∧ X.m.t = r.id ∧ X.m.f ≠ r.id) := hH_ (⟨hm, ht, hf⟩)
 have bt : (X.m.t != r.id) = false := by simp [ht]
 have bf : (X.m.f == r.id) = false := by simp [hf]
 rw [msB_yes hm] at jm
 clear hm ht hf
 have HK : Hid (X.m.k = 4) := hk
 have em : Int.tmod X.m.v r.p = X.m.v % r.p := modE HM.out.1.v.1
 have hpz : ¬ r.p = 0 := by rcases HR.out.p with h | h | h <;> rw [h] <;> decide
 have ew : wrap64 (X.m.v % r.p) = X.m.v % r.p := by have := HM.out.1.v; unfold wrap64; rcases HR.out.p with h | h | h <;> rw [h] <;> omega
 obtain ⟨q, hq⟩ : ∃ q : Int, q = X.m.v % r.p := ⟨_, rfl⟩
 have HQ : Hid (q = X.m.v % r.p) := hq
 rw [← hq] at em ew
 clear hq
 have bq : (q != r.id) = false := by rw [HQ.out, hq4]; simp
 have HMI : Hid (X.m.v % r.p = r.id) := hq4
 clear hq4
 clear hk
 have HAS : Hid (¬ r.v < X.m.v) := hH_ (by omega)
 have hgt : ¬ r.v < X.m.v := by omega
 have HEQ : Hid (X.m.v = r.v) := heq
 have HNN : Hid (r.n = false) := hnn
 clear heq hnn
 go_enter Tryz.func49, Tryz.ntmps49
 go_upto_region 1 with fail
 rw [← hb, ← hw1, show b + 1 + 1 = b + 2 from rfl]
 clear hw1 hb
 go_upto_region 2 with fail
 have bA : Below w1.heap.size w1 (w1.alloc (.cells #[] 30)) := (Below.refl _ w1).alloc (Nat.le_refl _) _
 obtain ⟨e0, he0⟩ : ∃ e0, e0 = w1.heap.size := ⟨_, rfl⟩
 have H2 := hH_ (H1.out.kept bA)
 have B2 := hH_ (B1.out.trans (bA.mono H1.out.le))
 have HE0 : Hid (e0 = b + 3) := (show _ = _ by rw [he0, S1.out])
 rw [← he0]
 generalize w1.alloc (.cells #[] 30) = w2 at H2 B2 ⊢
 clear bA he0 H1 B1 S1
 have y1 : w2.cell? ⟨b, 1, none⟩ = some (.int .i64 r.p) := H2.out.c.cell 1
 go_wp2_with (refine wpList_ldM rfl (.tmp 3) rfl (b + 1) rfl (H2.out.box (k := b + 1) (ty := 30) (vs := mxV X) (by simp)) rfl ?_)
 refine (jm _ B2.out).mono ?_
 rintro e w3 ⟨rfl, hb3⟩
 have H3 := hH_ (H2.out.kept hb3)
 have B3 := hH_ (B2.out.trans (hb3.mono H2.out.le))
 clear hb3 H2 B2 y1 jm
 have y0 : w3.cell? ⟨b, 0, none⟩ = some (.int .i64 r.id) := H3.out.c.cell 0
 have x1 : w3.cell? ⟨b + 1, 1, none⟩ = some (.int .i64 X.m.f) := (H3.out.box (k := b + 1) (ty := 30) (vs := mxV X) (by simp)).cell 1
 have x2 : w3.cell? ⟨b + 1, 2, none⟩ = some (.int .i64 X.m.t) := (H3.out.box (k := b + 1) (ty := 30) (vs := mxV X) (by simp)).cell 2
 have x0 : w3.cell? ⟨b + 1, 0, none⟩ = some (.int .i64 4) := by rw [← HK.out]; exact (H3.out.box (k := b + 1) (ty := 30) (vs := mxV X) (by simp)).cell 0
 have x3 : w3.cell? ⟨b + 1, 3, none⟩ = some (.int .i64 X.m.v) := (H3.out.box (k := b + 1) (ty := 30) (vs := mxV X) (by simp)).cell 3
 have y1 : w3.cell? ⟨b, 1, none⟩ = some (.int .i64 r.p) := H3.out.c.cell 1
 go_upto_region 23 with fail
 go_quiet (fail)
 have BN := hH_ (dwNB w3 nq)
 generalize w3.drewN nq = w5 at BN ⊢
 have H5 := hH_ (H3.out.kept BN.out)
 have B5 := hH_ (B3.out.trans (BN.out.mono H3.out.le))
 clear x0 x1 x2 x3 y0 y1 BN H3 B3
 have beq : (X.m.v != r.v) = false := by simp [HEQ.out]
 have x3 : w5.cell? ⟨b + 1, 3, none⟩ = some (.int .i64 X.m.v) := (H5.out.box (k := b + 1) (ty := 30) (vs := mxV X) (by simp)).cell 3
 have y2 : w5.cell? ⟨b, 2, none⟩ = some (.int .i64 r.v) := H5.out.c.cell 2
 have y3 : w5.cell? ⟨b, 3, none⟩ = some (.bool false) := by rw [← HNN.out]; exact H5.out.c.cell 3
 go_upto_region 30 with fail
 clear x3 y2 y3 hgt beq
 obtain ⟨w6, hw6⟩ : ∃ w6, w6 = w5 := ⟨_, rfl⟩
 rw [← hw6] at H5 B5 ⊢
 clear hw6
 obtain ⟨a, ha⟩ : ∃ a, a = r := ⟨_, rfl⟩
 obtain ⟨ua, H6⟩ : ∃ ua, Hid (RpAt [(b + 1, 30, mxV X), (b + 2, 28, zR)] w6 B b ua a) := ⟨_, (show Hid _ from by rw [ha]; exact H5.out)⟩
 have B6 : Hid (Below B w w6) := B5
 have HAA : Hid (a = if r.v < X.m.v then askF r X.m.v else r) := hH_ (by rw [ha]; exact (if_neg (fun h => absurd HAS.out (by omega))).symm)
 have ha9 : Hid (RpOk a ∧ a.n = false ∧ a.v = X.m.v ∧ a.p = r.p ∧ a.id = r.id) := hH_ (by rw [ha]; exact ⟨HR.out, HNN.out, HEQ.out.symm, rfl, rfl⟩)
 clear ha H5 B5
 have HA : Hid (RpOk a ∧ a.n = false ∧ a.v = X.m.v ∧ a.p = r.p ∧ a.id = r.id) := ha9
 clear ha9
 have hch := HA.out.1.ch1 HA.out.2.1
 have hcl := HA.out.1.ch5
 obtain ⟨g, cap, hgc⟩ : ∃ g cap, ua.ch = .slice (some ⟨g, 0, none⟩) a.ch.length cap := by
  obtain ⟨ad, cap, e, _⟩ := H6.out.o.ch.form
  obtain ⟨g, e2⟩ := ownsN_some (by rw [← e]; exact H6.out.o.ch) (List.length_pos_of_mem hch.1)
  exact ⟨g, cap, by rw [e, e2]⟩
 have y8 : w6.cell? ⟨b, 8, none⟩ = some (.slice (some ⟨g, 0, none⟩) a.ch.length cap) := by rw [← hgc]; exact H6.out.c.cell 8
 have y1 : w6.cell? ⟨b, 1, none⟩ = some (.int .i64 a.p) := H6.out.c.cell 1
 have j1 := fun W => specMaj a.ch.length a.p W (by omega)
 obtain ⟨BM, hBM⟩ : ∃ BM, BM = dB (maj a.ch.length a.p) := ⟨_, rfl⟩
 have HBM : Hid (BM = dB (maj a.ch.length a.p)) := hBM
 rw [← hBM] at j1
 clear hBM
 go_upto_region 31 with (go_at_call 109; refine (j1 _).mono ?_; rintro e wm ⟨rfl, rfl⟩)
 have x1 : w6.cell? ⟨b + 1, 1, none⟩ = some (.int .i64 X.m.f) := (H6.out.box (k := b + 1) (ty := 30) (vs := mxV X) (by simp)).cell 1
 have jp := specPutG g cap a.ch X.m.f B w6 (by rw [← hgc]; exact H6.out.o.ch) hch.2.1 (by omega) H6.out.le
 clear hch hcl j1
 go_upto_region 32 with (first | (go_at_call 110; refine jp.mono ?_; rintro e wp ⟨g9, c9, rfl, o9, b9, n9⟩) | (refine wpList_rpPut H6.out b9 rfl rfl (.tmp 206) (.tmp 205) rfl o9 (putN8 hgc n9) rfl rfl ?_; intro w7 h7 b7))
 obtain ⟨c1, hc1⟩ : ∃ c1 : Rp, c1 = { a with ch := Sk.put X.m.f a.ch } := ⟨_, rfl⟩
 rw [← hc1] at h7
 have HC1 : Hid (c1 = { a with ch := Sk.put X.m.f a.ch }) := hc1
 have hK1 : RpOk c1 := by rw [hc1]; exact (ch_kp HA.out.1 HA.out.2.1 (by rw [HA.out.2.2.2.1]; exact HM.out.1.f)).ok
 have HK1 : Hid (RpOk c1 ∧ c1.n = false ∧ c1.v = X.m.v ∧ c1.p = r.p ∧ c1.id = r.id) := hH_ (⟨hK1, by rw [hc1]; exact HA.out.2.1, by rw [hc1]; exact HA.out.2.2.1, by rw [hc1]; exact HA.out.2.2.2.1, by rw [hc1]; exact HA.out.2.2.2.2⟩)
 have H7 : Hid (RpAt [(b + 1, 30, mxV X), (b + 2, 28, zR)] w7 B b _ c1) := h7
 have B7 := hH_ (B6.out.trans b7)
 have hl2 : c1.ch.length ≤ 1048576 := by have := hK1.ch5; omega
 have e2 : (Sk.put X.m.f a.ch).length = c1.ch.length := by rw [hc1]
 have y8 : w7.cell? ⟨b, 8, none⟩ = some (.slice (some ⟨g9, 0, none⟩) c1.ch.length c9) := by rw [← e2]; exact H7.out.c.cell 8
 have y1 : w7.cell? ⟨b, 1, none⟩ = some (.int .i64 c1.p) := H7.out.c.cell 1
 have x0 : w7.cell? ⟨b + 1, 0, none⟩ = some (.int .i64 4) := by rw [← HK.out]; exact (H7.out.box (k := b + 1) (ty := 30) (vs := mxV X) (by simp)).cell 0
 have j1 := fun W => specMaj c1.ch.length c1.p W hl2
 obtain ⟨NM, hNM⟩ : ∃ NM, NM = dB (maj c1.ch.length c1.p) := ⟨_, rfl⟩
 have HNM : Hid (NM = dB (maj c1.ch.length c1.p)) := hNM
 rw [← hNM] at j1
 rw [e2]
 clear hNM h7 b7 o9 b9 n9 hgc hc1 hK1 hl2 e2 x1 jp H6 B6
 go_upto_region 34 with (go_at_call 109; refine (j1 _).mono ?_; rintro e wm ⟨rfl, rfl⟩)
 clear y8 y1 x0 j1
 have js := specTell c1 _ B b X.m X.u w7 H7.out (HX.out w7 B7.out) HXS.out.1 (by rw [← List.length_map (f := (·.m)), H7.out.o.t]; have := HK1.out.1.te5; omega)
 unfold msA Mx.u at js
 go_upto_region 35 with (first | (refine wpList_ldM rfl (.tmp 3) rfl (b + 1) rfl (H7.out.box (k := b + 1) (ty := 30) (vs := mxV X) (by simp)) rfl ?_) | (go_at_call 111; refine js.mono ?_; rintro e w8 ⟨rfl, u8, h8, b8⟩))
 obtain ⟨d1, hd1⟩ : ∃ d1 : Rp, d1 = { c1 with te := putM X.m c1.te } := ⟨_, rfl⟩
 rw [← hd1] at h8
 have HD1 : Hid (d1 = { c1 with te := putM X.m c1.te }) := hd1
 have HKD : Hid (RpOk d1) := (show RpOk _ from by
  rw [hd1]
  refine (te_kp HK1.out.1 HK1.out.2.1 (by unfold mine; rw [HK1.out.2.2.1, HK1.out.2.2.2.1, HK1.out.2.2.2.2]; exact HMI.out) ⟨HK.out, by rw [HM.out.2.1, HK1.out.2.2.2.2], HK1.out.2.2.1.symm, by rw [HK1.out.2.2.2.1]; exact HM.out.1⟩).ok)
 have H8 : Hid (RpAt [(b + 1, 30, mxV X), (b + 2, 28, zR)] w8 B b u8 d1) := h8
 have B8 := hH_ (B7.out.trans b8)
 clear h8 b8 js hd1 H7 B7
 go_upto_region 36 with (go_at_call 75; refine (specTld _ _ B b _ H8.out HKD.out).mono ?_; rintro e w9 ⟨rfl, ux, h9, b9⟩)
 obtain ⟨R, hR⟩ : ∃ R, R = told d1 := ⟨_, rfl⟩
 rw [← hR] at h9
 have HRR : Hid (R = told d1) := hR
 have HK9 : Hid (RpOk R) := (show RpOk _ from by rw [hR]; exact (told_kp HKD.out).ok)
 have HH : Hid (RpAt [(b + 1, 30, mxV X), (b + 2, 28, zR)] w9 B b ux R) := h9
 have BB := hH_ (B8.out.trans b9)
 clear h9 b9 hR H8 B8
 have HT : Hid (rcvF r X.m = if r.v < X.m.v ∨ R.n = true then (R, sprL R) else (R, [])) := (show _ = _ from by
  rw [rcv_C HM.out (.inr HK.out), rcvC_T (fun h => h.2 HMI.out) HAA.out (by rintro (h | h); exact h HA.out.2.2.1.symm; rw [HA.out.2.1] at h; cases h) HK.out, HRR.out, HD1.out, HC1.out])
 rcases Bool.eq_false_or_eq_true R.n with hn9 | hn9
 case inl =>
  have HE : Hid (rcvF r X.m = (R, sprL R)) := hH_ (by rw [HT.out]; exact if_pos (.inr hn9))
  have y3 : w9.cell? ⟨b, 3, none⟩ = some (.bool true) := by rw [← hn9]; exact HH.out.c.cell 3
  clear HT hn9
  go_upto_region 37 with fail
  clear y3
  have HW : Hid (RpAt [(b + 1, 30, mxV X), (b + 2, 28, zR)] w9 B b ux R) := HH
  have BW : Hid (Below B w w9) := BB
  clear HH BB
  have hz2 := Bx.lt (HW.out.box (k := b + 2) (ty := 28) (vs := zR) (by simp))
  have HC : Hid (∀ x, StS w9 (b + 2) x → Bx x b 28 (rpC R ux)) := hH_ (fun x hS => (hS.ch.block b HW.out.lt (by omega)).trans HW.out.c)
  have HOX := fun x (hS : StS w9 (b + 2) x) => (show RpOw x B ux R from HW.out.o.off (fun v hv k hk => hS.ch.block k (HW.out.under v hv k hk) (fun e => by
   have h5 := (HW.out.fr.k (b + 2, 28, zR) (by simp)).2.2 v hv
   rw [e] at hk
   exact h5 hk)))
  have jS := fun x (hS : StS w9 (b + 2) x) => specSpr R ux x (HOX x hS).got ⟨HK9.out.v.1, by have := HK9.out.v; omega⟩ HK9.out.p (by have := logB_sm HK9.out.l; omega) (by have := HK9.out.ch5; omega)
  unfold rpA at jS
  have S0 : StS w9 (b + 2) w9.drew := ⟨⟨rfl, rfl, rfl, Nat.le_refl _, fun _ _ _ => rfl⟩, zR, (HW.out.box (k := b + 2) (ty := 28) (vs := zR) (by simp)), rfl⟩
  have HLT : Hid (b + 2 < w9.heap.size) := hz2
  have Z9 : Hid (w.heap.size ≤ w9.heap.size) := hH_ (BW.out.size)
  clear hz2
  obtain ⟨lo, hlo⟩ : ∃ lo, lo = w9.heap.size := ⟨_, rfl⟩
  generalize hA : Act.mk _ _ = A
  obtain ⟨s, hs, s2_, s4_⟩ : ∃ s : Nat → Value, A = frRcS s s ∧ s 2 = .pointer (some ⟨b, 0, none⟩) ∧ s 4 = .pointer (some ⟨b + 2, 0, none⟩) := by
   refine ⟨fun i => A.tmps.getD i undef, ?_, ?_, ?_⟩ <;> rw [← hA] <;> rfl
  rw [hs]
  clear hs hA
  refine region_heads 4 mixed (by decide) (by kernel_rfl) (by kernel_rfl) (by kernel_rfl) (by kernel_rfl) (frRcS s) dRcS (fun x => StS w9 (b + 2) x) (GRcS R ux b lo) (fun i j hi hj h => dRcS_ne hi hj h) ?put s rfl S0 ?step ?done
  case put =>
   intro i o hi ho t v
   rcases (show i = 0 ∨ i = 1 ∨ i = 2 ∨ i = 3 by omega) with rfl | rfl | rfl | rfl
   all_goals
    obtain rfl := Option.some.inj ho
    rfl
  case step =>
   intro i o hi ho t x hS hdep K hK
   rcases (show i = 0 ∨ i = 1 ∨ i = 2 ∨ i = 3 by omega) with rfl | rfl | rfl | rfl
   all_goals obtain rfl := Option.some.inj ho
   ·
    have h2 := hK (.agg (rpC R ux)) x hS kI_ rfl
    refine ldG (by rfl) (.tmp 2) rfl b (by show (frRcS s t).eval (.tmp 2) = _; unfold frRcS; simp [Act.eval, s2_]) (HC.out x hS) (rpC_size R ux) ?_
    exact h2
   ·
    have h2 := hK (.agg (rpC R ux)) x hS kI_ rfl
    refine ldG (by rfl) (.tmp 2) rfl b (by show (frRcS s t).eval (.tmp 2) = _; unfold frRcS; simp [Act.eval, s2_]) (HC.out x hS) (rpC_size R ux) ?_
    exact h2
   ·
    have e1 : t 225 = .agg (rpC R ux) := hdep ⟨1, .data⟩ (by simp) rfl
    refine callG1 (by rfl) 73 (.tmp 225) _ rfl (.agg (rpC R ux)) e1 (Go.Proofs.enters_of Tryz.func73 (by kernel_rfl) rfl _) (fun v y => (∃ (C : Nat) (T : List Mx) (p1 : Option Addr) (d1 : Nat), v = .slice p1 T.length d1 ∧ (lo ≤ C ∧ C ≤ y.heap.size ∧ MsOwn y C (.slice p1 T.length d1) T (sprL R))) ∧ Below x.heap.size x y) ((jS x hS).mono ?_) ?_
    ·
     rintro e0 y0 ⟨u0, T0, h0, h1, h2⟩
     obtain ⟨q1, g1, rfl, _⟩ := h1.row.form
     exact ⟨_, h0, ⟨x.heap.size, T0, q1, g1, rfl, by rw [hlo]; exact hS.ch.size, h2.size, h1⟩, h2⟩
    ·
     rintro v y ⟨h0, hb2⟩
     exact hK v y (hS.kept hb2) (fun j u hj hne h => GRcS.keep hb2 j u hj h) h0
   ·
    have e0 : t 224 = .agg (rpC R ux) := hdep ⟨0, .data⟩ (by simp) rfl
    obtain ⟨old, ho1, ho2⟩ := hS.bx
    refine stG (by rfl) (.tmp 4) (.tmp 224) rfl (b + 2) (rpC R ux) (by show (frRcS s t).eval (.tmp 4) = _; unfold frRcS; simp [Act.eval, s4_]) (by show (frRcS s t).eval (.tmp 224) = _; unfold frRcS; simp [Act.eval, e0]) ho1 ho2 (rpC_size R ux) (rpC_one HW.out.got) ?_
    intro W hW hc
    exact hK undef W (hS.put hW (rpC_size R ux) hc) (fun j u hj hne h => GRcS.keepS (by rw [hlo]; exact HLT.out) hc j u hj hne h) ⟨rfl, hW⟩
  case done =>
   intro tt wz hS hG
   obtain ⟨C, TT, p1, d1', e7, k2⟩ : ∃ (C : Nat) (T : List Mx) (p1 : Option Addr) (d1 : Nat), tt 226 = .slice p1 T.length d1 ∧ (lo ≤ C ∧ C ≤ wz.heap.size ∧ MsOwn wz C (.slice p1 T.length d1) T (sprL R)) := hG 2 (by decide)
   obtain ⟨_, hz12⟩ : tt 100003 = undef ∧ Bx wz (b + 2) 28 (rpC R ux) := hG 3 (by decide)
   rw [hlo] at k2
   have HO : Hid (RpOw wz B ux R) := hH_ (HOX wz hS)
   have HZ : Hid (Bx wz (b + 2) 28 (rpC R ux)) := hz12
   have BB : Hid (Below B w wz) := hH_ (hS.ch.below BW.out HW.out.le (fun k hk => by have:=HB.out;omega))
   have K2 : Hid (w9.heap.size ≤ C ∧ C ≤ wz.heap.size ∧ MsOwn wz C (.slice p1 TT.length d1') TT (sprL R)) := hH_ (k2)
   clear jS HC HOX hG hS S0 hlo BW k2 hz12
   show wpList Tryz.prog _ _ [_] _ wz
   unfold frRcS
   simp only [e7, s2_, s4_]
   clear e7 s2_ s4_
   go_wp2_with fail
   have hrl := results_row2 (P := Tryz.prog) (fn := Tryz.f49) (p := 4) (q := 5) (ty := 28) rfl
   refine bodyPost_ret (v := .tuple #[.agg (rpC R ux), .slice p1 TT.length d1']) (hrl _ _ (b + 2) 28 _ (0, 0) _ rfl _ rfl HZ.out Tryz.underlying28 rfl (by rw [Tryz.rszR]; rfl)) rfl ?_
   unfold RvE
   rw [HE.out]
   exact ⟨ux, _, TT, rfl, ⟨HO.out, HW.out.apt, ⟨C, fun v hv k hk => Nat.lt_of_lt_of_le (HW.out.under v hv k hk) K2.out.1, Nat.le_trans Z9.out K2.out.1, K2.out.2.1, .inl K2.out.2.2⟩, BB.out⟩⟩
 have HE : Hid (rcvF r X.m = (R, [])) := hH_ (by rw [HT.out]; exact if_neg (by rintro (h | h); (have:=HAS.out;omega); rw [hn9] at h; cases h))
 have y3 : w9.cell? ⟨b, 3, none⟩ = some (.bool false) := by rw [← hn9]; exact HH.out.c.cell 3
 clear HT hn9
 have H9 : Hid (RpAt [(b + 1, 30, mxV X), (b + 2, 28, zR)] w9 B b ux R) := HH
 have BW9 : Hid (Below B w w9) := BB
 clear HH BB
 go_upto_region 38 with fail
 clear y3
 go_wp2_with (first | (refine wpList_ldR rfl (.tmp 2) rfl b rfl H9.out.c rfl ?_) | (refine wpList_stR rfl rfl (.tmp 4) (.tmp 227) rfl (b + 2) (rpC R ux) rfl rfl (H9.out.box (k := b + 2) (ty := 28) (vs := zR) (by simp)) rfl rfl (rpC_one H9.out.got) ?_; intro w99 hz9 hc9))
 have B9 : Below B w w99 := hc9.below BW9.out (by have:=HB.out;have := H9.out.lt; omega) (fun k hk => by have:=HB.out;omega)
 have HO : RpOw w99 B ux R := H9.out.o.off (fun v hv k hk => hc9.block k (H9.out.under v hv k hk) (fun e => by
  have h5 := (H9.out.fr.k (b + 2, 28, zR) (by simp)).2.2 v hv
  rw [e] at hk
  exact h5 hk))
 have hrl := results_row2 (P := Tryz.prog) (fn := Tryz.f49) (p := 4) (q := 5) (ty := 28) rfl
 refine bodyPost_ret (v := .tuple #[.agg (rpC R ux), .slice (some ⟨e0, 0, none⟩) 0 0]) (hrl _ _ (b + 2) 28 _ (0, 0) _ rfl _ rfl hz9 Tryz.underlying28 rfl (by rw [Tryz.rszR]; rfl)) rfl ?_
 unfold RvE
 rw [HE.out]
 exact ⟨ux, _, [], rfl, RvAns.no HO H9.out.apt B9⟩
open Go.RowKit Go.Sort Go.Shelf Pg
theorem specRcvCA (r : Rp) (u : Rv) (B : Nat) (X : Mx) (w : World) (ho : RpOw w B u r) (hap : RpAp u) (hX : ∀ W, Below B w W → Sls txtE W X.u X.m.l) (hr : RpOk r) (hxs : X.m.l.length ≤ 1048576 ∧ ∀ x ∈ X.m.l, x.size ≤ 1048576) (hB : B ≤ w.heap.size) (hm : MsOk X.m r.p) (ht : X.m.t = r.id) (hf : X.m.f ≠ r.id) (hk : X.m.k = 3) (has : r.v < X.m.v) :
  Calls Tryz.prog 49 #[rpA r u, .agg (mxV X)] w fun e w' => RvE r X B w e w' := by
 obtain ⟨la, lc, oa, oc, ca, cc, ta, tc, T0, rfl⟩ := ho.got.form
 obtain ⟨b, hb⟩ : ∃ b, b = w.heap.size := ⟨_, rfl⟩
 obtain ⟨w1, hw1⟩ : ∃ w1, w1 = ((w.alloc (.cells #[.int .i64 r.id, .int .i64 r.p, .int .i64 r.v, .bool r.n, .int .i64 r.la, .slice la r.l.length lc, .int .i64 r.c, .slice oa r.ok.length oc, .slice ca r.ch.length cc, .slice ta r.te.length tc] 28)).alloc (.cells #[.int .i64 X.m.k, .int .i64 X.m.f, .int .i64 X.m.t, .int .i64 X.m.v, .int .i64 X.m.la, .slice X.pl X.m.l.length X.cl, .int .i64 X.m.c] 30)).alloc (.cells #[.int .i64 0, .int .i64 0, .int .i64 0, .bool false, .int .i64 0, .slice none 0 0, .int .i64 0, .slice none 0 0, .slice none 0 0, .slice none 0 0] 28) := ⟨_, rfl⟩
 have bw1 : Below w.heap.size w w1 := by rw [hw1]; exact (((Below.refl _ w).alloc (Nat.le_refl _) _).alloc (by simp) _).alloc (by simp; omega) _
 have XB : Bx w1 b 28 #[.int .i64 r.id, .int .i64 r.p, .int .i64 r.v, .bool r.n, .int .i64 r.la, .slice la r.l.length lc, .int .i64 r.c, .slice oa r.ok.length oc, .slice ca r.ch.length cc, .slice ta r.te.length tc] := by rw [hw1, hb]; exact ((Bx.new _ _ _).alloc _).alloc _
 have XM : Bx w1 (b + 1) 30 (mxV X) := by rw [hw1, hb]; exact (Bx.at _ _ (by simp)).alloc _
 have XZ : Bx w1 (b + 2) 28 zR := by rw [hw1, hb]; exact Bx.at _ _ (by simp)
 have hru : ∀ v ∈ Rv.rows ⟨.slice la r.l.length lc, .slice oa r.ok.length oc, .slice ca r.ch.length cc, .slice ta r.te.length tc, T0⟩, ∀ k, v.ownBlock = some k → k < b := fun v hv k hk => by rw [hb]; exact ho.has.under v hv k hk
 have hat : RpAt [] w1 B b ⟨.slice la r.l.length lc, .slice oa r.ok.length oc, .slice ca r.ch.length cc, .slice ta r.te.length tc, T0⟩ r := ⟨XB, ho.kept bw1, hap, by omega, ⟨fun x hx => nomatch hx⟩⟩
 have H1 : Hid (RpAt [(b + 1, 30, mxV X), (b + 2, 28, zR)] w1 B b ⟨.slice la r.l.length lc, .slice oa r.ok.length oc, .slice ca r.ch.length cc, .slice ta r.te.length tc, T0⟩ r) := (show RpAt _ _ _ _ _ _ from (hat.beside (k := b + 2) XZ (by omega) (fun v hv e => by have := hru v hv _ e; omega)).beside (k := b + 1) XM (by omega) (fun v hv e => by have := hru v hv _ e; omega))
 have B1 : Hid (Below B w w1) := hH_ (bw1.mono hB)
 have S1 : Hid (w1.heap.size = b + 3) := (show _ = _ by rw [hw1, hb]; simp)
 have HB : Hid (b = w.heap.size ∧ B ≤ b) := hH_ (⟨hb, by omega⟩)
 have HX : Hid (∀ W, Below B w W → Sls txtE W X.u X.m.l) := hH_ (hX)
 have HR : Hid (RpOk r) := hr
 have HXS : Hid (X.m.l.length ≤ 1048576 ∧ ∀ x ∈ X.m.l, x.size ≤ 1048576) := hH_ (hxs)
 have jm := fun W (hW : Below B w W) => specMok X.m X.u r.p W (hX W hW) hxs.2 hr.p
 clear ho hap hX hr hxs hB bw1 XB XM XZ hru hat
 unfold rpA mxV
 unfold msA Mx.u at jm
 simp only at jm ⊢
 have HM : Hid (MsOk X.m r.p ∧ X.m.t = r.id ∧ X.m.f ≠ r.id) := hH_ (⟨hm, ht, hf⟩)
 have bt : (X.m.t != r.id) = false := by simp [ht]
 have bf : (X.m.f == r.id) = false := by simp [hf]
 rw [msB_yes hm] at jm
 clear hm ht hf
 have HK : Hid (X.m.k = 3) := hk
 clear hk
 have HAS : Hid (r.v < X.m.v) := has
 have hgt : r.v < X.m.v := has
 clear has
 go_enter Tryz.func49, Tryz.ntmps49
 go_upto_region 1 with fail
 rw [← hb, ← hw1, show b + 1 + 1 = b + 2 from rfl]
 clear hw1 hb
 go_upto_region 2 with fail
 have bA : Below w1.heap.size w1 (w1.alloc (.cells #[] 30)) := (Below.refl _ w1).alloc (Nat.le_refl _) _
 obtain ⟨e0, he0⟩ : ∃ e0, e0 = w1.heap.size := ⟨_, rfl⟩
 have H2 := hH_ (H1.out.kept bA)
 have B2 := hH_ (B1.out.trans (bA.mono H1.out.le))
 have HE0 : Hid (e0 = b + 3) := (show _ = _ by rw [he0, S1.out])
 rw [← he0]
 generalize w1.alloc (.cells #[] 30) = w2 at H2 B2 ⊢
 clear bA he0 H1 B1 S1
 have y1 : w2.cell? ⟨b, 1, none⟩ = some (.int .i64 r.p) := H2.out.c.cell 1
 go_wp2_with (refine wpList_ldM rfl (.tmp 3) rfl (b + 1) rfl (H2.out.box (k := b + 1) (ty := 30) (vs := mxV X) (by simp)) rfl ?_)
 refine (jm _ B2.out).mono ?_
 rintro e w3 ⟨rfl, hb3⟩
 have H3 := hH_ (H2.out.kept hb3)
 have B3 := hH_ (B2.out.trans (hb3.mono H2.out.le))
 clear hb3 H2 B2 y1 jm
 have y0 : w3.cell? ⟨b, 0, none⟩ = some (.int .i64 r.id) := H3.out.c.cell 0
 have x1 : w3.cell? ⟨b + 1, 1, none⟩ = some (.int .i64 X.m.f) := (H3.out.box (k := b + 1) (ty := 30) (vs := mxV X) (by simp)).cell 1
 have x2 : w3.cell? ⟨b + 1, 2, none⟩ = some (.int .i64 X.m.t) := (H3.out.box (k := b + 1) (ty := 30) (vs := mxV X) (by simp)).cell 2
 have x0 : w3.cell? ⟨b + 1, 0, none⟩ = some (.int .i64 3) := by rw [← HK.out]; exact (H3.out.box (k := b + 1) (ty := 30) (vs := mxV X) (by simp)).cell 0
 have x3 : w3.cell? ⟨b + 1, 3, none⟩ = some (.int .i64 X.m.v) := (H3.out.box (k := b + 1) (ty := 30) (vs := mxV X) (by simp)).cell 3
 have y1 : w3.cell? ⟨b, 1, none⟩ = some (.int .i64 r.p) := H3.out.c.cell 1
 go_upto_region 23 with fail
 go_quiet (fail)
 have BN := hH_ (dwNB w3 nq)
 generalize w3.drewN nq = w5 at BN ⊢
 have H5 := hH_ (H3.out.kept BN.out)
 have B5 := hH_ (B3.out.trans (BN.out.mono H3.out.le))
 clear x0 x1 x2 x3 y0 y1 BN H3 B3
 have x3 : w5.cell? ⟨b + 1, 3, none⟩ = some (.int .i64 X.m.v) := (H5.out.box (k := b + 1) (ty := 30) (vs := mxV X) (by simp)).cell 3
 have y2 : w5.cell? ⟨b, 2, none⟩ = some (.int .i64 r.v) := H5.out.c.cell 2
 go_upto_region 28 with (go_at_call 74; refine (specAsk r _ B b X.m.v _ H5.out).mono ?_; rintro e w6 ⟨rfl, ua, h6, b6⟩)
 obtain ⟨a, ha⟩ : ∃ a, a = askF r X.m.v := ⟨_, rfl⟩
 rw [← ha] at h6
 have H6 : Hid (RpAt [(b + 1, 30, mxV X), (b + 2, 28, zR)] w6 B b ua a) := h6
 have B6 := hH_ (B5.out.trans b6)
 have HAA : Hid (a = if r.v < X.m.v then askF r X.m.v else r) := hH_ (by rw [ha]; exact (if_pos HAS.out).symm)
 have ha9 : RpOk a ∧ a.n = false ∧ a.v = X.m.v ∧ a.p = r.p ∧ a.id = r.id := by rw [ha]; exact ⟨(ask_kp HR.out HAS.out HM.out.1.v.2).ok, rfl, rfl, rfl, rfl⟩
 clear x3 y2 h6 b6 ha hgt H5 B5
 have x3 : w6.cell? ⟨b + 1, 3, none⟩ = some (.int .i64 X.m.v) := (H6.out.box (k := b + 1) (ty := 30) (vs := mxV X) (by simp)).cell 3
 have y2 : w6.cell? ⟨b, 2, none⟩ = some (.int .i64 X.m.v) := by rw [← ha9.2.2.1]; exact H6.out.c.cell 2
 have y3 : w6.cell? ⟨b, 3, none⟩ = some (.bool false) := by rw [← ha9.2.1]; exact H6.out.c.cell 3
 have Ha9 : Hid (RpOk a ∧ a.n = false ∧ a.v = X.m.v ∧ a.p = r.p ∧ a.id = r.id) := ha9
 clear ha9
 go_upto_region 30 with fail
 have ha9 := Ha9
 clear x3 y2 y3 Ha9
 have HA : Hid (RpOk a ∧ a.n = false ∧ a.v = X.m.v ∧ a.p = r.p ∧ a.id = r.id) := ha9
 clear ha9
 have hch := HA.out.1.ch1 HA.out.2.1
 have hcl := HA.out.1.ch5
 obtain ⟨g, cap, hgc⟩ : ∃ g cap, ua.ch = .slice (some ⟨g, 0, none⟩) a.ch.length cap := by
  obtain ⟨ad, cap, e, _⟩ := H6.out.o.ch.form
  obtain ⟨g, e2⟩ := ownsN_some (by rw [← e]; exact H6.out.o.ch) (List.length_pos_of_mem hch.1)
  exact ⟨g, cap, by rw [e, e2]⟩
 have y8 : w6.cell? ⟨b, 8, none⟩ = some (.slice (some ⟨g, 0, none⟩) a.ch.length cap) := by rw [← hgc]; exact H6.out.c.cell 8
 have y1 : w6.cell? ⟨b, 1, none⟩ = some (.int .i64 a.p) := H6.out.c.cell 1
 have j1 := fun W => specMaj a.ch.length a.p W (by omega)
 obtain ⟨BM, hBM⟩ : ∃ BM, BM = dB (maj a.ch.length a.p) := ⟨_, rfl⟩
 have HBM : Hid (BM = dB (maj a.ch.length a.p)) := hBM
 rw [← hBM] at j1
 clear hBM
 go_upto_region 31 with (go_at_call 109; refine (j1 _).mono ?_; rintro e wm ⟨rfl, rfl⟩)
 have x1 : w6.cell? ⟨b + 1, 1, none⟩ = some (.int .i64 X.m.f) := (H6.out.box (k := b + 1) (ty := 30) (vs := mxV X) (by simp)).cell 1
 have jp := specPutG g cap a.ch X.m.f B w6 (by rw [← hgc]; exact H6.out.o.ch) hch.2.1 (by omega) H6.out.le
 clear hch hcl j1
 go_upto_region 32 with (first | (go_at_call 110; refine jp.mono ?_; rintro e wp ⟨g9, c9, rfl, o9, b9, n9⟩) | (refine wpList_rpPut H6.out b9 rfl rfl (.tmp 206) (.tmp 205) rfl o9 (putN8 hgc n9) rfl rfl ?_; intro w7 h7 b7))
 obtain ⟨c1, hc1⟩ : ∃ c1 : Rp, c1 = { a with ch := Sk.put X.m.f a.ch } := ⟨_, rfl⟩
 rw [← hc1] at h7
 have HC1 : Hid (c1 = { a with ch := Sk.put X.m.f a.ch }) := hc1
 have hK1 : RpOk c1 := by rw [hc1]; exact (ch_kp HA.out.1 HA.out.2.1 (by rw [HA.out.2.2.2.1]; exact HM.out.1.f)).ok
 have HK1 : Hid (RpOk c1 ∧ c1.n = false ∧ c1.v = X.m.v ∧ c1.p = r.p ∧ c1.id = r.id) := hH_ (⟨hK1, by rw [hc1]; exact HA.out.2.1, by rw [hc1]; exact HA.out.2.2.1, by rw [hc1]; exact HA.out.2.2.2.1, by rw [hc1]; exact HA.out.2.2.2.2⟩)
 have H7 : Hid (RpAt [(b + 1, 30, mxV X), (b + 2, 28, zR)] w7 B b _ c1) := h7
 have B7 := hH_ (B6.out.trans b7)
 have hl2 : c1.ch.length ≤ 1048576 := by have := hK1.ch5; omega
 have e2 : (Sk.put X.m.f a.ch).length = c1.ch.length := by rw [hc1]
 have y8 : w7.cell? ⟨b, 8, none⟩ = some (.slice (some ⟨g9, 0, none⟩) c1.ch.length c9) := by rw [← e2]; exact H7.out.c.cell 8
 have y1 : w7.cell? ⟨b, 1, none⟩ = some (.int .i64 c1.p) := H7.out.c.cell 1
 have x0 : w7.cell? ⟨b + 1, 0, none⟩ = some (.int .i64 3) := by rw [← HK.out]; exact (H7.out.box (k := b + 1) (ty := 30) (vs := mxV X) (by simp)).cell 0
 have j1 := fun W => specMaj c1.ch.length c1.p W hl2
 obtain ⟨NM, hNM⟩ : ∃ NM, NM = dB (maj c1.ch.length c1.p) := ⟨_, rfl⟩
 have HNM : Hid (NM = dB (maj c1.ch.length c1.p)) := hNM
 rw [← hNM] at j1
 rw [e2]
 clear hNM h7 b7 o9 b9 n9 hgc hc1 hK1 hl2 e2 x1 jp H6 B6
 go_upto_region 39 with (go_at_call 109; refine (j1 _).mono ?_; rintro e wm ⟨rfl, rfl⟩)
 clear y8 y1 x0 j1
 have HT : Hid (rcvF r X.m = @ite _ (r.v < X.m.v ∨ (maj c1.ch.length c1.p ∧ ¬ maj a.ch.length a.p)) (Classical.propDecidable _) (told c1, sprL (told c1)) (c1, [])) := (show _ = _ from by
  rw [rcv_C HM.out (.inl HK.out), rcvC_C HAA.out (by rintro (h | h); exact h HA.out.2.2.1.symm; rw [HA.out.2.1] at h; cases h) HK.out HA.out.2.2.2.1, HC1.out]
  exact ite_one _ _ _ _)
 have HE : Hid (rcvF r X.m = (told c1, sprL (told c1))) := hH_ (by rw [HT.out]; exact if_pos (.inl HAS.out))
 clear HT
 go_upto_region 40 with fail
 go_upto_region 41 with (go_at_call 75; refine (specTld _ _ B b _ H7.out HK1.out.1).mono ?_; rintro e w9 ⟨rfl, ux, h9, b9⟩)
 obtain ⟨R, hR⟩ : ∃ R, R = told c1 := ⟨_, rfl⟩
 rw [← hR] at h9 HE
 have HK9 : Hid (RpOk R) := (show RpOk _ from by rw [hR]; exact (told_kp HK1.out.1).ok)
 have HH : Hid (RpAt [(b + 1, 30, mxV X), (b + 2, 28, zR)] w9 B b ux R) := h9
 have BB := hH_ (B7.out.trans b9)
 clear h9 b9 hR H7 B7
 have HW : Hid (RpAt [(b + 1, 30, mxV X), (b + 2, 28, zR)] w9 B b ux R) := HH
 have BW : Hid (Below B w w9) := BB
 clear HH BB
 have hz2 := Bx.lt (HW.out.box (k := b + 2) (ty := 28) (vs := zR) (by simp))
 have HC : Hid (∀ x, StS w9 (b + 2) x → Bx x b 28 (rpC R ux)) := hH_ (fun x hS => (hS.ch.block b HW.out.lt (by omega)).trans HW.out.c)
 have HOX := fun x (hS : StS w9 (b + 2) x) => (show RpOw x B ux R from HW.out.o.off (fun v hv k hk => hS.ch.block k (HW.out.under v hv k hk) (fun e => by
  have h5 := (HW.out.fr.k (b + 2, 28, zR) (by simp)).2.2 v hv
  rw [e] at hk
  exact h5 hk)))
 have jS := fun x (hS : StS w9 (b + 2) x) => specSpr R ux x (HOX x hS).got ⟨HK9.out.v.1, by have := HK9.out.v; omega⟩ HK9.out.p (by have := logB_sm HK9.out.l; omega) (by have := HK9.out.ch5; omega)
 unfold rpA at jS
 have S0 : StS w9 (b + 2) w9.drew := ⟨⟨rfl, rfl, rfl, Nat.le_refl _, fun _ _ _ => rfl⟩, zR, (HW.out.box (k := b + 2) (ty := 28) (vs := zR) (by simp)), rfl⟩
 have HLT : Hid (b + 2 < w9.heap.size) := hz2
 have Z9 : Hid (w.heap.size ≤ w9.heap.size) := hH_ (BW.out.size)
 clear hz2
 obtain ⟨lo, hlo⟩ : ∃ lo, lo = w9.heap.size := ⟨_, rfl⟩
 generalize hA : Act.mk _ _ = A
 obtain ⟨s, hs, s2_, s4_⟩ : ∃ s : Nat → Value, A = frRcU s s ∧ s 2 = .pointer (some ⟨b, 0, none⟩) ∧ s 4 = .pointer (some ⟨b + 2, 0, none⟩) := by
  refine ⟨fun i => A.tmps.getD i undef, ?_, ?_, ?_⟩ <;> rw [← hA] <;> rfl
 rw [hs]
 clear hs hA
 refine region_heads 4 mixed (by decide) (by kernel_rfl) (by kernel_rfl) (by kernel_rfl) (by kernel_rfl) (frRcU s) dRcU (fun x => StS w9 (b + 2) x) (GRcU R ux b lo) (fun i j hi hj h => dRcU_ne hi hj h) ?put s rfl S0 ?step ?done
 case put =>
  intro i o hi ho t v
  rcases (show i = 0 ∨ i = 1 ∨ i = 2 ∨ i = 3 by omega) with rfl | rfl | rfl | rfl
  all_goals
   obtain rfl := Option.some.inj ho
   rfl
 case step =>
  intro i o hi ho t x hS hdep K hK
  rcases (show i = 0 ∨ i = 1 ∨ i = 2 ∨ i = 3 by omega) with rfl | rfl | rfl | rfl
  all_goals obtain rfl := Option.some.inj ho
  ·
   have h2 := hK (.agg (rpC R ux)) x hS kI_ rfl
   refine ldG (by rfl) (.tmp 2) rfl b (by show (frRcU s t).eval (.tmp 2) = _; unfold frRcU; simp [Act.eval, s2_]) (HC.out x hS) (rpC_size R ux) ?_
   exact h2
  ·
   have h2 := hK (.agg (rpC R ux)) x hS kI_ rfl
   refine ldG (by rfl) (.tmp 2) rfl b (by show (frRcU s t).eval (.tmp 2) = _; unfold frRcU; simp [Act.eval, s2_]) (HC.out x hS) (rpC_size R ux) ?_
   exact h2
  ·
   have e1 : t 239 = .agg (rpC R ux) := hdep ⟨1, .data⟩ (by simp) rfl
   refine callG1 (by rfl) 73 (.tmp 239) _ rfl (.agg (rpC R ux)) e1 (Go.Proofs.enters_of Tryz.func73 (by kernel_rfl) rfl _) (fun v y => (∃ (C : Nat) (T : List Mx) (p1 : Option Addr) (d1 : Nat), v = .slice p1 T.length d1 ∧ (lo ≤ C ∧ C ≤ y.heap.size ∧ MsOwn y C (.slice p1 T.length d1) T (sprL R))) ∧ Below x.heap.size x y) ((jS x hS).mono ?_) ?_
   ·
    rintro e0 y0 ⟨u0, T0, h0, h1, h2⟩
    obtain ⟨q1, g1, rfl, _⟩ := h1.row.form
    exact ⟨_, h0, ⟨x.heap.size, T0, q1, g1, rfl, by rw [hlo]; exact hS.ch.size, h2.size, h1⟩, h2⟩
   ·
    rintro v y ⟨h0, hb2⟩
    exact hK v y (hS.kept hb2) (fun j u hj hne h => GRcU.keep hb2 j u hj h) h0
  ·
   have e0 : t 238 = .agg (rpC R ux) := hdep ⟨0, .data⟩ (by simp) rfl
   obtain ⟨old, ho1, ho2⟩ := hS.bx
   refine stG (by rfl) (.tmp 4) (.tmp 238) rfl (b + 2) (rpC R ux) (by show (frRcU s t).eval (.tmp 4) = _; unfold frRcU; simp [Act.eval, s4_]) (by show (frRcU s t).eval (.tmp 238) = _; unfold frRcU; simp [Act.eval, e0]) ho1 ho2 (rpC_size R ux) (rpC_one HW.out.got) ?_
   intro W hW hc
   exact hK undef W (hS.put hW (rpC_size R ux) hc) (fun j u hj hne h => GRcU.keepS (by rw [hlo]; exact HLT.out) hc j u hj hne h) ⟨rfl, hW⟩
 case done =>
  intro tt wz hS hG
  obtain ⟨C, TT, p1, d1', e7, k2⟩ : ∃ (C : Nat) (T : List Mx) (p1 : Option Addr) (d1 : Nat), tt 240 = .slice p1 T.length d1 ∧ (lo ≤ C ∧ C ≤ wz.heap.size ∧ MsOwn wz C (.slice p1 T.length d1) T (sprL R)) := hG 2 (by decide)
  obtain ⟨_, hz12⟩ : tt 100003 = undef ∧ Bx wz (b + 2) 28 (rpC R ux) := hG 3 (by decide)
  rw [hlo] at k2
  have HO : Hid (RpOw wz B ux R) := hH_ (HOX wz hS)
  have HZ : Hid (Bx wz (b + 2) 28 (rpC R ux)) := hz12
  have BB : Hid (Below B w wz) := hH_ (hS.ch.below BW.out HW.out.le (fun k hk => by have:=HB.out;omega))
  have K2 : Hid (w9.heap.size ≤ C ∧ C ≤ wz.heap.size ∧ MsOwn wz C (.slice p1 TT.length d1') TT (sprL R)) := hH_ (k2)
  clear jS HC HOX hG hS S0 hlo BW k2 hz12
  show wpList Tryz.prog _ _ [_] _ wz
  unfold frRcU
  simp only [e7, s2_, s4_]
  clear e7 s2_ s4_
  go_wp2_with fail
  have hrl := results_row2 (P := Tryz.prog) (fn := Tryz.f49) (p := 4) (q := 5) (ty := 28) rfl
  refine bodyPost_ret (v := .tuple #[.agg (rpC R ux), .slice p1 TT.length d1']) (hrl _ _ (b + 2) 28 _ (0, 0) _ rfl _ rfl HZ.out Tryz.underlying28 rfl (by rw [Tryz.rszR]; rfl)) rfl ?_
  unfold RvE
  rw [HE.out]
  exact ⟨ux, _, TT, rfl, ⟨HO.out, HW.out.apt, ⟨C, fun v hv k hk => Nat.lt_of_lt_of_le (HW.out.under v hv k hk) K2.out.1, Nat.le_trans Z9.out K2.out.1, K2.out.2.1, .inl K2.out.2.2⟩, BB.out⟩⟩
end Go.Proofs.YtdkhdjickkcaiaaGreat.Rl.Fr

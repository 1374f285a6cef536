/-
  The laws' copy of messages and rows of them.
  The laws' marks on rows of messages.
  What is held of rows of messages.
-/
import Derived.Test.YtdkhdjickkcaiaaRN09
namespace Go.Proofs.Ytdkhdjickkcaiaa.Rl
open Go.RowKit Go.Sort
set_option linter.unusedVariables false
set_option linter.unusedSimpArgs false

/-- No block of the one is the other's. -/
def ap (v v' : Value) : Prop := ∀ k, v.ownBlock = some k → v'.ownBlock ≠ some k
theorem _root_.Go.Proofs.Ytdkhdjickkcaiaa.Bx.at {W : World} {b : Nat} (ty : TypeId) (vs : Array Value) (o : W.heap.size = b) : Bx (W.alloc (.cells vs ty)) b ty vs := o ▸ Bx.new W ty vs
def setsM : List Value → List Value → Nat → List Value
  | l, [], _ => l
  | l, v :: vs, i => setsM (l.set i v) vs (i + 1)
theorem putM_heap {g : Nat} {T : TypeId} : ∀ (vs : List Value) (i : Nat) (x : World) (c : Array Value), x.heap[g]? = some (Obj.cells c T (0, 0)) → ∃ c' : Array Value, (putL x g vs i).heap[g]? = some (Obj.cells c' T (0, 0)) ∧ c'.toList = setsM c.toList vs i ∧ c'.size = c.size
  | [], _, x, c, h => ⟨c, h, rfl, rfl⟩
  | v :: vs, i, x, c, h => by
    obtain ⟨c', h1, h2, h3⟩ := putM_heap vs (i + 1) _ _ (heap_setCell_same x g i c T v h)
    refine ⟨c', h1, ?_, by rw [h3]; simp⟩
    rw [h2]
    show setsM (c.setIfInBounds i v).toList vs (i + 1) = setsM (c.toList.set i v) vs (i + 1)
    rw [Array.toList_setIfInBounds]
theorem setsM_mid : ∀ (vs pre mid post : List Value), mid.length = vs.length → setsM (pre ++ mid ++ post) vs pre.length = pre ++ vs ++ post
  | [], pre, mid, post, h => by
    have : mid = [] := List.eq_nil_of_length_eq_zero h
    subst this
    rfl
  | v :: vs, pre, [], post, h => by simp at h
  | v :: vs, pre, m :: mid, post, h => by
    have e : (pre ++ m :: mid ++ post).set pre.length v = (pre ++ [v]) ++ mid ++ post := by simp
    have e2 := setsM_mid vs (pre ++ [v]) mid post (by simpa using h)
    rw [List.length_append] at e2
    show setsM ((pre ++ m :: mid ++ post).set pre.length v) vs (pre.length + 1) = _
    rw [e]
    have e3 : pre.length + [v].length = pre.length + 1 := rfl
    rw [e3] at e2
    rw [e2]
    simp
theorem HasM.puts {α : Type} {E : Enc α} {ty : TypeId} {w : World} {B g n cap : Nat} {l : List α} (h : HasE E ty w B (.slice (some ⟨g, 0, Option.none⟩) n cap) l) {j : Nat} (hj : j < l.length) (y : α) : HasE E ty (putL w g (E.c y) (j * E.k)) B (.slice (some ⟨g, 0, Option.none⟩) n cap) (l.set j y) := by
  rcases h with ⟨h0, _⟩ | ⟨g', cap', cur, hv, hB, hg, h1, h2, h3, h4⟩
  · cases h0
  · cases hv
    obtain ⟨c', k1, k2, k3⟩ := putM_heap (E.c y) (j * E.k) w cur hg
    refine .inr ⟨g, cap, c', by rw [List.length_set], hB, k1, by rw [List.length_set]; exact h1, h2, by rw [k3]; exact h3, ?_⟩
    rw [List.length_set, k2]
    have hsplit : cur.toList = cellsE E l ++ cur.toList.drop (l.length * E.k) := by rw [← h4, List.take_append_drop]
    have hl : l = l.take j ++ [l[j]] ++ l.drop (j + 1) := by simp
    have hc : cellsE E l = cellsE E (l.take j) ++ E.c l[j] ++ cellsE E (l.drop (j + 1)) := by
      conv => lhs; rw [hl]
      rw [cellsE_append, cellsE_append, cellsE_single]
    have hpl : (cellsE E (l.take j)).length = j * E.k := by rw [cellsE_length, List.length_take]; congr 1; omega
    have hs : l.set j y = l.take j ++ [y] ++ l.drop (j + 1) := by rw [List.set_eq_take_append_cons_drop, if_pos hj]; simp
    rw [hsplit, hc, List.append_assoc, ← hpl, setsM_mid _ _ _ _ (by rw [E.len, E.len]), hs, cellsE_append, cellsE_append, cellsE_single]
    rw [← List.append_assoc]
    refine List.take_left' ?_
    have hlen := cellsE_length E l
    rw [hc] at hlen
    simp only [List.length_append, E.len] at hlen ⊢
    exact hlen
abbrev HasM := HasE mxE 57
/-- Every log lies in a block of its own. -/
structure Logs (w : World) (B : Nat) (T : List Mx) : Prop where
  l : ∀ x ∈ T, HasX w B x.u x.m.l
  ap : (T.map Mx.u).Pairwise ap
theorem Logs.kept {w w' : World} {B : Nat} {T : List Mx} (h : Logs w B T) (hb : Below w.heap.size w w') : Logs w' B T := ⟨fun x hx => (h.l x hx).kept hb, h.ap⟩
theorem Logs.got {w : World} {B : Nat} {T : List Mx} (h : Logs w B T) : ∀ x ∈ T, MsGot w x.u x.m := fun x hx => (h.l x hx).sls
theorem Logs.nil (w : World) (B : Nat) : Logs w B [] := ⟨fun x hx => (by cases hx), List.Pairwise.nil⟩
theorem Logs.same {w w' : World} {B : Nat} {T : List Mx} (h : Logs w B T) (hk : ∀ k, B ≤ k → k < w.heap.size → w'.heap[k]? = w.heap[k]?) : Logs w' B T := ⟨fun x hx => (h.l x hx).off fun k hk' => hk k ((h.l x hx).from k hk') ((h.l x hx).under k hk'), h.ap⟩
end Go.Proofs.Ytdkhdjickkcaiaa.Rl
namespace Go.Proofs.Ytdkhdjickkcaiaa.Rl
open Go.RowKit Go.Sort
set_option linter.unusedVariables false
set_option linter.unusedSimpArgs false

/-- Of what was there, blocks of S alone may have changed. -/
structure ChS (S : Nat → Prop) (W W' : World) : Prop where
  os : W'.os = W.os
  tape : W'.tape = W.tape
  output : W'.output = W.output
  size : W.heap.size ≤ W'.heap.size
  block : ∀ k, k < W.heap.size → ¬ S k → W'.heap[k]? = W.heap[k]?
theorem ChS.refl (S : Nat → Prop) (W : World) : ChS S W W := ⟨rfl, rfl, rfl, Nat.le_refl _, fun _ _ _ => rfl⟩
theorem ChS.trans {S : Nat → Prop} {W1 W2 W3 : World} (h : ChS S W1 W2) (h' : ChS S W2 W3) : ChS S W1 W3 :=
  ⟨h'.os.trans h.os, h'.tape.trans h.tape, h'.output.trans h.output, Nat.le_trans h.size h'.size, fun k hk hn => (h'.block k (Nat.lt_of_lt_of_le hk h.size) hn).trans (h.block k hk hn)⟩
theorem ChS.mono {S S' : Nat → Prop} {W W' : World} (h : ChS S W W') (hs : ∀ k, S k → S' k) : ChS S' W W' := ⟨h.os, h.tape, h.output, h.size, fun k hk hn => h.block k hk fun e => hn (hs k e)⟩
theorem ChS.grown {S : Nat → Prop} {W W' : World} {r : Option Nat} (h : W.grownBy W' r) (hr : ∀ k, r = some k → S k) : ChS S W W' := ⟨h.os, h.tape, h.output, h.size, fun k hk hn => h.block k hk fun e => hn (hr k e.symm)⟩
theorem ChS.of_below {S : Nat → Prop} {W W' : World} (h : Below W.heap.size W W') : ChS S W W' := ⟨h.os, h.tape, h.output, h.size, fun k hk _ => h.block k hk⟩
theorem ChS.set {S : Nat → Prop} {W0 W : World} (h : ChS S W0 W) (a : Addr) (v : Value) (hs : S a.block) : ChS S W0 (W.setCell a v) :=
  ⟨h.os, h.tape, h.output, by rw [World.size_setCell]; exact h.size, fun k hk hn => (Below.heap_setCell _ _ _ _ (fun e => hn (by rw [e]; exact hs))).trans (h.block k hk hn)⟩
theorem ChS.below {S : Nat → Prop} {B : Nat} {w W W' : World} (h : ChS S W W') (hb : Below B w W) (h1 : B ≤ W.heap.size) (h2 : ∀ k, S k → B ≤ k) : Below B w W' :=
  ⟨h.os.trans hb.os, h.tape.trans hb.tape, h.output.trans hb.output, Nat.le_trans hb.size h.size, fun k hk => (h.block k (Nat.lt_of_lt_of_le hk h1) (fun e => by have := h2 k e; omega)).trans (hb.block k hk)⟩
theorem HasE.chs {α : Type} {E : Enc α} {ty : TypeId} {S : Nat → Prop} {w w' : World} {B : Nat} {v : Value} {l : List α} (h : HasE E ty w B v l) (hc : ChS S w w') (hn : ∀ k, v.ownBlock = some k → ¬ S k) : HasE E ty w' B v l :=
  h.off fun k hk => hc.block k (h.under k hk) (hn k hk)
/-- A message whose numbers and texts are marked from s on. -/
def mk1 (s : Nat) (x : Mx) : Mx := ⟨⟨(s : Int), (s : Int) + 1, (s : Int) + 2, (s : Int) + 3, (s : Int) + 4, marksX (s + 5) x.m.l.length, (s : Int) + 5 + (x.m.l.length : Int)⟩, x.pl, x.cl⟩
def mkTe : Nat → List Mx → List Mx
  | _, [] => []
  | s, x :: t => mk1 s x :: mkTe (s + 6 + x.m.l.length) t
def cT (T : List Mx) : Nat := T.length * 6 + cL T
theorem mk1_u (s : Nat) (x : Mx) : (mk1 s x).u = x.u := by unfold mk1 Mx.u; simp [marksX_length]
theorem mkTe_u : ∀ (s : Nat) (T : List Mx), (mkTe s T).map Mx.u = T.map Mx.u
  | _, [] => rfl
  | s, x :: t => by rw [mkTe, List.map_cons, List.map_cons, mk1_u, mkTe_u]
theorem mkTe_length (s : Nat) (T : List Mx) : (mkTe s T).length = T.length := by have := congrArg List.length (mkTe_u s T); simpa using this
theorem cT_cons (x : Mx) (t : List Mx) : cT (x :: t) = 6 + x.m.l.length + cT t := by unfold cT cL; simp; omega
theorem mkTe_append : ∀ (s : Nat) (T T' : List Mx), mkTe s (T ++ T') = mkTe s T ++ mkTe (s + cT T) T'
  | s, [], T' => by simp [mkTe, cT, cL]
  | s, x :: t, T' => by
    rw [List.cons_append, mkTe, mkTe_append, mkTe, cT_cons, List.cons_append]
    congr 3
    omega
theorem cT_next {T : List Mx} {k : Nat} (h : k < T.length) : cT (T.take (k + 1)) = cT (T.take k) + 6 + T[k].m.l.length := by
  unfold cT
  rw [cL_next h]
  simp
  omega
theorem cT_le (T : List Mx) (k : Nat) : cT (T.take k) ≤ cT T := by
  unfold cT cL
  conv => rhs; rw [← List.take_append_drop k T, List.map_append, List.sum_append, List.length_append]
  omega
def mkP (s : Nat) (T : List Mx) (k : Nat) : List Mx := mkTe s (T.take k) ++ T.drop k
theorem mkP_length (s : Nat) (T : List Mx) (k : Nat) (h : k ≤ T.length) : (mkP s T k).length = T.length := by unfold mkP; simp [mkTe_length]; omega
theorem mkP_zero (s : Nat) (T : List Mx) : mkP s T 0 = T := by simp [mkP, mkTe]
theorem mkP_all (s : Nat) (T : List Mx) : mkP s T T.length = mkTe s T := by simp [mkP]
theorem mkP_u (s : Nat) (T : List Mx) (k : Nat) : (mkP s T k).map Mx.u = T.map Mx.u := by
  unfold mkP
  rw [List.map_append, mkTe_u, ← List.map_append, List.take_append_drop]
theorem mkP_at (s : Nat) (T : List Mx) (k : Nat) (h : k < T.length) (h' : k < (mkP s T k).length) : (mkP s T k)[k] = T[k] := by
  have e : (mkTe s (T.take k)).length = k := by rw [mkTe_length, List.length_take]; omega
  have : (mkP s T k)[k]? = some T[k] := by
    unfold mkP
    rw [List.getElem?_append_right (by omega), e, Nat.sub_self, List.getElem?_drop, Nat.add_zero, List.getElem?_eq_getElem h]
  rw [List.getElem?_eq_getElem h'] at this
  exact Option.some.inj this
theorem mkP_next (s : Nat) (T : List Mx) (k : Nat) (h : k < T.length) : (mkP s T k).set k (mk1 (s + cT (T.take k)) T[k]) = mkP s T (k + 1) := by
  have e : (mkTe s (T.take k)).length = k := by rw [mkTe_length, List.length_take]; omega
  unfold mkP
  rw [List.set_append_right _ _ (by omega), e, Nat.sub_self, List.drop_eq_getElem_cons h, List.set_cons_zero, List.take_succ_eq_append_getElem h, mkTe_append, List.append_assoc]
  rfl
/-- The blocks of rows. -/
def Bl (vs : List Value) (k : Nat) : Prop := ∃ v ∈ vs, v.ownBlock = some k
theorem Bl.of {vs : List Value} {v : Value} {k : Nat} (h : v ∈ vs) (hk : v.ownBlock = some k) : Bl vs k := ⟨v, h, hk⟩
theorem HasE.oth {α : Type} {E : Enc α} {ty : TypeId} {w : World} {B : Nat} {v : Value} {l : List α} (h : HasE E ty w B v l) (a : Addr) (u : Value) (hne : ∀ k, v.ownBlock = some k → k ≠ a.block) : HasE E ty (w.setCell a u) B v l := h.off fun k hk => Below.heap_setCell _ _ _ _ (hne k hk)
theorem HasM.st {w : World} {B g n cap : Nat} {L : List Mx} {j : Nat} {x : Mx} (h : HasM w B (.slice (some ⟨g, 0, none⟩) n cap) (L.set j x)) (hj : j < L.length) (i : Nat) (hi : i < 7) (u : Value) (y : Mx) (hy : mxC y = (mxC x).set i u) :
    HasM (w.setCell ⟨g, j * 7 + i, none⟩ u) B (.slice (some ⟨g, 0, none⟩) n cap) (L.set j y) := by
  have := HasE.put h (j := j) (by simpa using hj) (i := i) hi u y (by rw [List.getElem_set_self]; exact hy)
  rw [List.set_set] at this
  exact this
theorem apU {T : List Mx} (h : (T.map Mx.u).Pairwise ap) {j k : Nat} (hj : j < T.length) (hk : k < T.length) (hne : j ≠ k) : ap T[j].u T[k].u := by
  rw [List.pairwise_iff_getElem] at h
  rcases Nat.lt_or_gt_of_ne hne with hlt | hgt
  · have := h j k (by simpa using hj) (by simpa using hk) hlt
    simpa using this
  · have := h k j (by simpa using hk) (by simpa using hj) hgt
    have h2 : ap T[k].u T[j].u := by simpa using this
    exact fun q h3 h4 => h2 q h4 h3
theorem mkP_uj (s : Nat) (T : List Mx) (k j : Nat) (hj : j < T.length) (h' : j < (mkP s T k).length) : (mkP s T k)[j].u = T[j].u := by
  have := congrArg (fun l => l[j]?) (mkP_u s T k)
  simpa [h', hj] using this
set_option maxRecDepth 100000 in
set_option maxHeartbeats 8000000 in
theorem markMsS (s : Nat) (hs1 : 1 ≤ s) (v : Value) (T : List Mx) (hs2 : s + cT T ≤ 50000000) (B : Nat) (w : World) (h : HasM w B v T) (hL : Logs w B T) (hap : ∀ x ∈ T, ap v x.u) (hl : ∀ x ∈ T, x.m.l.length ≤ 1048576) (hn : T.length ≤ 1048576) :
    Calls Try.prog 35 #[v, .int .i64 (s : Int)] w fun e w' => e = .returned (.int .i64 ((s : Int) + (cT T : Int))) ∧ HasM w' B v (mkTe s T) ∧ Logs w' B (mkTe s T) ∧ ChS (Bl (v :: T.map Mx.u)) w w' := by
  obtain ⟨a, cap, rfl, h1, h2, h3⟩ := h.form
  unfold maxLen at h2
  have HAP : Hid (∀ x ∈ T, ap (.slice a T.length cap) x.u) := hap
  have HLN : Hid (∀ x ∈ T, x.m.l.length ≤ 1048576) := hl
  have HLP : Hid ((T.map Mx.u).Pairwise ap) := hL.ap
  have H0 : Hid (HasM w B (.slice a T.length cap) T) := h
  have L0 : Hid (Logs w B T) := hL
  have H3 : Hid (0 < T.length → ∃ g, a = some ⟨g, 0, none⟩) := h3
  clear hap hl hL h h3
  go_enter Try.func35, Try.ntmps35
  go_wp2
  go_loopw [1, 5] (fun m i wr => ∃ k : Nat, k ≤ T.length ∧ i = .int .i64 k ∧ m = .int .i64 ((s : Int) + (cT (T.take k) : Int)) ∧ Hid (HasM wr B (.slice a T.length cap) (mkP s T k)) ∧ Hid (∀ x ∈ mkP s T k, HasX wr B x.u x.m.l) ∧ Hid (ChS (Bl (.slice a T.length cap :: T.map Mx.u)) w wr)) (fun _ i _ => T.length - (intOf i).toNat)
  case atStart => exact ⟨0, Nat.zero_le _, rfl, by simp [cT, cL], (show Hid _ from by rw [mkP_zero]; exact H0.out), (show Hid _ from by rw [mkP_zero]; exact L0.out.l), (show Hid _ from ChS.refl _ _)⟩
  case round =>
    clear H0 L0
    obtain ⟨k, hk, rfl, rfl, ho, hlg, hch⟩ := hrel
    by_cases hlt : k < T.length
    · obtain ⟨g, rfl⟩ := H3.out (by omega)
      have hml := mkP_length s T k hk
      have hat := mkP_at s T k hlt (by omega)
      have hnx : Hid _ := mkP_next s T k hlt
      have hct : Hid (cT (T.take (k + 1)) = cT (T.take k) + 6 + T[k].m.l.length) := cT_next hlt
      have hup : cT (T.take (k + 1)) ≤ cT T := cT_le T (k + 1)
      have hup2 : cT (T.take k) + 6 + T[k].m.l.length ≤ cT T := by have := hct.out; omega
      have hki : (k : Int) < (T.length : Int) := by omega
      have hll := HLN.out T[k] (List.getElem_mem hlt)
      have CK := mxCells ho.out.sls (j := k) (by omega)
      have hx := hlg.out T[k] (by rw [← hat]; exact List.getElem_mem _)
      have hav := HAP.out T[k] (List.getElem_mem hlt)
      have fz := ho.out.free
      have F0 := fz (k * 7)
      have F1 := fz (k * 7 + 1)
      have F2 := fz (k * 7 + 2)
      have F3 := fz (k * 7 + 3)
      have F4 := fz (k * 7 + 4)
      have F6 := fz (k * 7 + 6)
      rw [hat] at CK
      obtain ⟨n0, hn0⟩ : ∃ n, n = s + cT (T.take k) := ⟨_, rfl⟩
      have hn0i : (s : Int) + (cT (T.take k) : Int) = (n0 : Int) := by omega
      have HN0 : Hid (n0 = s + cT (T.take k)) := hn0
      rw [hn0i]
      have hn1 : 1 ≤ n0 := by omega
      have hn2 : n0 + 6 + T[k].m.l.length ≤ 50000000 := by omega
      rw [← hn0] at hnx
      have HLT : Hid (k < (mkP s T k).length) := (show k < _ by omega)
      have HXU : Hid (∀ j (hj : j < T.length) (hj' : j < (mkP s T k).length), (mkP s T k)[j].u = T[j].u) := fun j hj hj' => mkP_uj s T k j hj hj'
      have HAU : Hid (∀ j (hj : j < T.length), j ≠ k → ap T[j].u T[k].u) := fun j hj hne => apU HLP.out hj hlt hne
      have P0 : Hid (HasM wr B (.slice (some ⟨g, 0, none⟩) T.length cap) ((mkP s T k).set k T[k])) := by
        show HasM _ _ _ _
        rw [← hat, List.set_getElem_self]
        exact ho.out
      have hAX : Hid (∀ j (hj : j < T.length), ap (.slice (some ⟨g, 0, none⟩) T.length cap) T[j].u) := fun j hj => HAP.out T[j] (List.getElem_mem hj)
      have HLJ : Hid (∀ j (hj : j < (mkP s T k).length), HasX wr B (mkP s T k)[j].u (mkP s T k)[j].m.l) := fun j hj => hlg.out _ (List.getElem_mem hj)
      obtain ⟨x, hxk⟩ : ∃ x, T[k] = x := ⟨_, rfl⟩
      have hnx2 := hnx.out
      have hct2 := hct.out
      have P02 := P0.out
      rw [hxk] at CK hx hav hll hn2 hup2 hnx2 hct2 P02
      have P03 : Hid _ := P02
      have HNX : Hid _ := hnx2
      have HCT : Hid _ := hct2
      have HXK : Hid (T[k] = x) := hxk
      obtain ⟨⟨mk, mf, mt, mv, ma, ml, mc⟩, px, cx⟩ := x
      have hsx : Hid (∀ q, (Mx.u ⟨⟨mk, mf, mt, mv, ma, ml, mc⟩, px, cx⟩).ownBlock = some q → q ≠ g) := (show ∀ _, _ from fun q h1 h2 => hav q (by rw [h2]; rfl) h1)
      simp only at hll hn2 hup2
      unfold Mx.u at CK
      simp only [Nat.zero_add] at CK
      obtain ⟨c0, c1, c2, c3, c4, c5, c6⟩ := CK
      have j1 := fun W hW => markTxt (n0 + 5) (by omega) (by omega) (Mx.u ⟨⟨mk, mf, mt, mv, ma, ml, mc⟩, px, cx⟩) ml B W hW hll
      obtain ⟨N0, hN0⟩ : ∃ N : Int, N = (n0 : Int) := ⟨_, rfl⟩
      obtain ⟨N1, hN1⟩ : ∃ N : Int, N = (n0 : Int) + 1 := ⟨_, rfl⟩
      obtain ⟨N2, hN2⟩ : ∃ N : Int, N = (n0 : Int) + 2 := ⟨_, rfl⟩
      obtain ⟨N3, hN3⟩ : ∃ N : Int, N = (n0 : Int) + 3 := ⟨_, rfl⟩
      obtain ⟨N4, hN4⟩ : ∃ N : Int, N = (n0 : Int) + 4 := ⟨_, rfl⟩
      obtain ⟨N5, hN5⟩ : ∃ N : Int, N = (n0 : Int) + 5 := ⟨_, rfl⟩
      obtain ⟨N6, hN6⟩ : ∃ N : Int, N = (n0 : Int) + 5 + (ml.length : Int) := ⟨_, rfl⟩
      obtain ⟨N7, hN7⟩ : ∃ N : Int, N = (n0 : Int) + 6 + (ml.length : Int) := ⟨_, rfl⟩
      have ew1 : wrap64 (N0 + 1) = N1 := by unfold wrap64; omega
      have ew2 : wrap64 (N1 + 1) = N2 := by unfold wrap64; omega
      have ew3 : wrap64 (N2 + 1) = N3 := by unfold wrap64; omega
      have ew4 : wrap64 (N3 + 1) = N4 := by unfold wrap64; omega
      have ew5 : wrap64 (N4 + 1) = N5 := by unfold wrap64; omega
      have ew6 : wrap64 (N6 + 1) = N7 := by unfold wrap64; omega
      have hnn : ((n0 + 5 : Nat) : Int) = N5 := by omega
      have hnm : N5 + (ml.length : Int) = N6 := by omega
      rw [hnn, hnm] at j1
      rw [← hN0]
      have HN : Hid (N0 = (n0 : Int) ∧ N1 = (n0 : Int) + 1 ∧ N2 = (n0 : Int) + 2 ∧ N3 = (n0 : Int) + 3 ∧ N4 = (n0 : Int) + 4 ∧ N6 = (n0 : Int) + 5 + (ml.length : Int) ∧ N7 = (n0 : Int) + 6 + (ml.length : Int)) := ⟨hN0, hN1, hN2, hN3, hN4, hN6, hN7⟩
      have hcm : mxC (mk1 n0 ⟨⟨mk, mf, mt, mv, ma, ml, mc⟩, px, cx⟩) = (mxC ⟨⟨N0, N1, N2, N3, N4, ml, mc⟩, px, cx⟩).set 6 (.int .i64 N6) := by
        simp only [mxC, mk1, Mx.u, marksX_length, List.set_cons_succ, List.set_cons_zero]
        rw [hN0, hN1, hN2, hN3, hN4, hN6]
      have HCM : Hid _ := hcm
      unfold Mx.u at j1
      simp only at j1
      have HX0 : Hid (HasX wr B (Value.slice px ml.length cx) ml) := hx
      have q1 := HasM.st P03.out HLT.out 0 (by decide) (.int .i64 N0) ⟨⟨N0, mf, mt, mv, ma, ml, mc⟩, px, cx⟩ rfl
      have q2 := HasM.st q1 HLT.out 1 (by decide) (.int .i64 N1) ⟨⟨N0, N1, mt, mv, ma, ml, mc⟩, px, cx⟩ rfl
      have q3 := HasM.st q2 HLT.out 2 (by decide) (.int .i64 N2) ⟨⟨N0, N1, N2, mv, ma, ml, mc⟩, px, cx⟩ rfl
      have q4 := HasM.st q3 HLT.out 3 (by decide) (.int .i64 N3) ⟨⟨N0, N1, N2, N3, ma, ml, mc⟩, px, cx⟩ rfl
      have q5 := HasM.st q4 HLT.out 4 (by decide) (.int .i64 N4) ⟨⟨N0, N1, N2, N3, N4, ml, mc⟩, px, cx⟩ rfl
      rw [Nat.add_zero] at q1 q2 q3 q4 q5
      have Q5 : Hid _ := q5
      clear q1 q2 q3 q4 q5 P0 P02 P03 hx ho hlg fz hxk hnx2 hct2 hnx hct hat hn0 hn0i hup hup2 hnn hnm hll hav hn2 hN0 hN1 hN2 hN3 hN4 hN5 hN6 hN7 hn1 hcm
      go_wp2_with fail
      refine (j1 _ (by
        repeat (refine HasE.oth ?_ _ _ (fun q hq => by simpa using hsx.out q hq))
        exact HX0.out)).mono ?_
      rintro e w6 ⟨rfl, hx6, hg6⟩
      have H6 : Hid (HasM w6 B (.slice (some ⟨g, 0, none⟩) T.length cap) ((mkP s T k).set k ⟨⟨N0, N1, N2, N3, N4, ml, mc⟩, px, cx⟩)) := (show Hid _ from HasE.grown Q5.out hg6 (fun q hq => by
        have e : q = g := by simpa [Value.ownBlock] using hq.symm
        subst e
        intro h2
        exact hsx.out q h2 rfl))
      have C6 : Hid (ChS (Bl (Value.slice (some ⟨g, 0, none⟩) T.length cap :: T.map Mx.u)) w w6) := by
        refine (show Hid _ from ChS.trans (W2 := _) ?_ (ChS.grown hg6 fun q hq => Bl.of (v := T[k].u) (List.mem_cons_of_mem _ (List.mem_map_of_mem (List.getElem_mem hlt))) (by rw [HXK.out]; exact hq)))
        repeat (refine ChS.set ?_ _ _ (Bl.of (List.mem_cons_self) rfl))
        exact hch.out
      have HJ6 : Hid (∀ j (hj : j < (mkP s T k).length), j ≠ k → HasX w6 B (mkP s T k)[j].u (mkP s T k)[j].m.l) := fun j hj hne => by
        have hjT : j < T.length := by have := hml; omega
        have a1 := hAX.out j hjT
        have a2 := HAU.out j hjT hne
        have h0 := HLJ.out j hj
        rw [HXU.out j hjT hj] at h0 ⊢
        rw [HXK.out] at a2
        refine HasE.grown (w := _) ?_ hg6 (fun q h1 h2 => a2 q h1 h2)
        repeat (refine HasE.oth ?_ _ _ (fun q hq => by
          have := a1 g rfl
          intro e
          simp at e
          subst e
          exact this hq))
        exact h0
      have HX6 : Hid (HasX w6 B (Value.slice px ml.length cx) (marksX (n0 + 5) ml.length)) := hx6
      have c6' := (mxCells H6.out.sls (j := k) (by simp; exact HLT.out)).2.2.2.2.2.2
      rw [List.getElem_set_self] at c6'
      simp only [Nat.zero_add] at c6'
      have f6' := H6.out.free (k * 7 + 6)
      have q7 := HasM.st H6.out HLT.out 6 (by decide) (.int .i64 N6) (mk1 n0 ⟨⟨mk, mf, mt, mv, ma, ml, mc⟩, px, cx⟩) HCM.out
      have H7 : Hid _ := q7
      clear hx6 hg6 q7 F0 F1 F2 F3 F4 F6 c0 c1 c2 c3 c4 c5 c6 j1 HX0 Q5 H6 HLJ hch
      go_wp2_with fail
      go_roundw
      case rel =>
        refine ⟨k + 1, by omega, by go_num, ?_, ?_, ?_, ?_⟩
        · have e1 := HCT.out
          have e2 := HN0.out
          have e3 := HN.out.2.2.2.2.2.2
          rw [e1, ew6, e3]
          congr 1
          omega
        · rw [← HNX.out]; exact H7.out
        · show Hid _
          rw [← HNX.out]
          refine (show Hid _ from fun y hy => ?_)
          obtain ⟨j, hj, rfl⟩ := List.getElem_of_mem hy
          have hj' : j < (mkP s T k).length := by simpa using hj
          by_cases hjk : j = k
          · subst hjk
            rw [List.getElem_set_self, mk1_u]
            refine HasE.oth ?_ _ _ (fun q hq => hsx.out q hq)
            exact HX6.out
          · rw [List.getElem_set_ne (fun e => hjk e.symm)]
            refine HasE.oth (HJ6.out j hj' hjk) _ _ (fun q hq => ?_)
            have hjT : j < T.length := by have := hml; omega
            have a1 := hAX.out j hjT
            rw [HXU.out j hjT hj'] at hq
            have := a1 g rfl
            intro e
            simp at e
            subst e
            exact this hq
        · exact (show Hid _ from ChS.set C6.out _ _ (Bl.of (List.mem_cons_self) rfl))
      case measure => simp [intOf]; omega
    · obtain rfl : k = T.length := by omega
      rw [mkP_all] at ho hlg
      have et : T.take T.length = T := List.take_of_length_le (Nat.le_refl _)
      rw [et]
      go_wp2
      go_ret
      exact ⟨rfl, ho.out, ⟨hlg.out, by rw [mkTe_u]; exact HLP.out⟩, hch.out⟩

theorem ap.comm {v v' : Value} (h : ap v v') : ap v' v := fun k h1 h2 => h k h2 h1
end Go.Proofs.Ytdkhdjickkcaiaa.Rl
namespace Go.Proofs.Ytdkhdjickkcaiaa.Rl
open Go.RowKit Go.Sort
set_option linter.unusedVariables false
set_option linter.unusedSimpArgs false

theorem cell_ltR {w : World} {b o : Nat} {v : Value} (h : w.cell? ⟨b, o, none⟩ = some v) : b < w.heap.size := by
  simp only [World.cell?] at h
  cases e : w.heap[b]? with
  | none => rw [e] at h; cases h
  | some x => exact (Array.getElem?_eq_some_iff.1 e).1
theorem mkTe_at (s : Nat) (T : List Mx) (k : Nat) (h : k < T.length) (h' : k < (mkTe s T).length) : (mkTe s T)[k] = mk1 (s + cT (T.take k)) T[k] := by
  have e := mkP_next s T k h
  have e2 : (mkTe s T)[k]? = (mkP s T (k + 1))[k]? := by
    unfold mkP
    rw [List.getElem?_append_left (by rw [mkTe_length, List.length_take]; omega)]
    conv => lhs; rw [← List.take_append_drop (k + 1) T, mkTe_append]
    rw [List.getElem?_append_left (by rw [mkTe_length, List.length_take]; omega)]
  rw [← e, List.getElem?_set_self (by rw [mkP_length _ _ _ (by omega)]; exact h), List.getElem?_eq_getElem h'] at e2
  exact Option.some.inj e2
set_option maxRecDepth 100000 in
set_option maxHeartbeats 8000000 in
theorem heldMsS (s : Nat) (hs1 : 1 ≤ s) (v : Value) (T : List Mx) (hs2 : s + cT T ≤ 50000000) (w : World) (h : TeGot w v (mkTe s T)) (hl : ∀ x ∈ T, x.m.l.length ≤ 1048576) (hn : T.length ≤ 1048576) :
    Calls Try.prog 37 #[v, .int .i64 (s : Int)] w fun e w' => e = .returned (.int .i64 ((s : Int) + (cT T : Int))) ∧ Below w.heap.size w w' := by
  have HH : Hid (TeGot w v (mkTe s T)) := h
  have hml := mkTe_length s T
  obtain ⟨⟨a, cap, rfl, _⟩, _⟩ := h
  have HLN : Hid (∀ x ∈ T, x.m.l.length ≤ 1048576) := hl
  rw [hml] at HH ⊢
  have HML : Hid ((mkTe s T).length = T.length) := hml
  clear hl hml
  go_enter Try.func37, Try.ntmps37
  go_wp2
  go_loopw [1, 5] (fun m i wr => ∃ k : Nat, k ≤ T.length ∧ i = .int .i64 k ∧ m = .int .i64 ((s : Int) + (cT (T.take k) : Int)) ∧ Hid (Below w.heap.size w wr)) (fun _ i _ => T.length - (intOf i).toNat)
  case atStart => exact ⟨0, Nat.zero_le _, rfl, by simp [cT, cL], (show Hid _ from Below.refl _ _)⟩
  case round =>
    obtain ⟨k, hk, rfl, rfl, hb⟩ := hrel
    by_cases hlt : k < T.length
    · have H2 := HH.out.kept hb.out
      obtain ⟨g, q, rfl⟩ := mxAt H2.1 (by rw [HML.out]; omega)
      have hkm : k < (mkTe s T).length := by rw [HML.out]; exact hlt
      have CK := mxCells H2.1 hkm
      have hob := H2.2 _ (List.getElem_mem hkm)
      rw [mkTe_at s T k hlt hkm] at CK hob
      have hct : Hid (cT (T.take (k + 1)) = cT (T.take k) + 6 + T[k].m.l.length) := cT_next hlt
      have hup : cT (T.take (k + 1)) ≤ cT T := cT_le T (k + 1)
      have hup2 : cT (T.take k) + 6 + T[k].m.l.length ≤ cT T := by have := hct.out; omega
      have hki : (k : Int) < (T.length : Int) := by omega
      have hll := HLN.out T[k] (List.getElem_mem hlt)
      obtain ⟨n0, hn0⟩ : ∃ n, n = s + cT (T.take k) := ⟨_, rfl⟩
      have hn0i : (s : Int) + (cT (T.take k) : Int) = (n0 : Int) := by omega
      have HN0 : Hid (n0 = s + cT (T.take k)) := hn0
      rw [hn0i]
      rw [← hn0] at CK hob
      have HCT : Hid (cT (T.take (k + 1)) = cT (T.take k) + 6 + T[k].m.l.length) := hct
      clear hct
      generalize T[k] = x at CK hob hll hup2 HCT
      obtain ⟨⟨mk, mf, mt, mv, ma, ml, mc⟩, px, cx⟩ := x
      unfold mk1 Mx.u at CK
      unfold mk1 Mx.u MsGot at hob
      simp only [marksX_length] at CK hob hll hup2 HCT
      obtain ⟨c0, c1, c2, c3, c4, c5, c6⟩ := CK
      have j1 := fun W hW => heldTxt (n0 + 5) (by omega) (by omega) (Value.slice px ml.length cx) ml.length W hW hll
      obtain ⟨N0, hN0⟩ : ∃ N : Int, N = (n0 : Int) := ⟨_, rfl⟩
      obtain ⟨N1, hN1⟩ : ∃ N : Int, N = (n0 : Int) + 1 := ⟨_, rfl⟩
      obtain ⟨N2, hN2⟩ : ∃ N : Int, N = (n0 : Int) + 2 := ⟨_, rfl⟩
      obtain ⟨N3, hN3⟩ : ∃ N : Int, N = (n0 : Int) + 3 := ⟨_, rfl⟩
      obtain ⟨N4, hN4⟩ : ∃ N : Int, N = (n0 : Int) + 4 := ⟨_, rfl⟩
      obtain ⟨N5, hN5⟩ : ∃ N : Int, N = (n0 : Int) + 5 := ⟨_, rfl⟩
      obtain ⟨N6, hN6⟩ : ∃ N : Int, N = (n0 : Int) + 5 + (ml.length : Int) := ⟨_, rfl⟩
      obtain ⟨N7, hN7⟩ : ∃ N : Int, N = (n0 : Int) + 6 + (ml.length : Int) := ⟨_, rfl⟩
      have ew1 : wrap64 (N0 + 1) = N1 := by unfold wrap64; omega
      have ew2 : wrap64 (N1 + 1) = N2 := by unfold wrap64; omega
      have ew3 : wrap64 (N2 + 1) = N3 := by unfold wrap64; omega
      have ew4 : wrap64 (N3 + 1) = N4 := by unfold wrap64; omega
      have ew5 : wrap64 (N4 + 1) = N5 := by unfold wrap64; omega
      have ew6 : wrap64 (N6 + 1) = N7 := by unfold wrap64; omega
      have hnn : ((n0 + 5 : Nat) : Int) = N5 := by omega
      have hnm : N5 + (ml.length : Int) = N6 := by omega
      rw [hnn, hnm] at j1
      rw [← hN0] at c0 ⊢
      rw [← hN1] at c1
      rw [← hN2] at c2
      rw [← hN3] at c3
      rw [← hN4] at c4
      rw [← hN6] at c6
      have HN : Hid (N7 = (n0 : Int) + 6 + (ml.length : Int)) := hN7
      have d0 : (N0 != N0) = false := by simp
      have d1 : (N1 != N1) = false := by simp
      have d2 : (N2 != N2) = false := by simp
      have d3 : (N3 != N3) = false := by simp
      have d4 : (N4 != N4) = false := by simp
      have d6 : (N6 != N6) = false := by simp
      have hneg : ¬ N6 < 0 := by omega
      have HOB : Hid (Sls txtE wr (Value.slice px ml.length cx) (marksX (n0 + 5) ml.length)) := hob
      clear hn0 hn0i hup hup2 hnn hnm hll hN0 hN1 hN2 hN3 hN4 hN5 hN6 hN7 hob H2
      go_wp2_with fail
      refine (j1 _ HOB.out).mono ?_
      rintro e w6 ⟨rfl, hb6⟩
      have B6 : Hid (Below w.heap.size w w6) := hb.out.trans (hb6.mono hb.out.size)
      have k6 := (hb6.cell (p := ⟨g, q + k * 7 + 6, none⟩) (cell_ltR c6)).trans c6
      clear hb6 c0 c1 c2 c3 c4 c5 c6 j1 d0 d1 d2 d3 d4
      go_wp2_with fail
      go_roundw
      case rel =>
        refine ⟨k + 1, by omega, by go_num, ?_, B6⟩
        have e1 := HCT.out
        have e2 := HN0.out
        have e3 := HN.out
        rw [e1, ew6, e3]
        congr 1
        omega
      case measure => simp [intOf]; omega
    · obtain rfl : k = T.length := by omega
      have et : T.take T.length = T := List.take_of_length_le (Nat.le_refl _)
      rw [et]
      go_wp2
      go_ret
      exact ⟨rfl, hb.out⟩
end Go.Proofs.Ytdkhdjickkcaiaa.Rl

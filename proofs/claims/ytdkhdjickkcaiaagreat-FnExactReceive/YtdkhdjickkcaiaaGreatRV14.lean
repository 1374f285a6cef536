/-
  The laws' marks on rows of messages.
  What is held of rows of messages.
  The laws' comparison and copy of messages and rows of them.
  The laws' helpers on replicas: compared, measured, turned.
  The laws' helpers on replicas: turned, marked, held.
  The laws' marks on replicas.
-/
import Derived.Test.YtdkhdjickkcaiaaGreatRVS
import Derived.Test.YtdkhdjickkcaiaaGreatRV13
set_option linter.unusedVariables false
set_option linter.unusedSimpArgs false
set_option maxRecDepth 100000
set_option maxHeartbeats 64000000
namespace Go.Proofs.YtdkhdjickkcaiaaGreat.Rl
open Go.RowKit Go.Sort

structure ChS (S : Nat → Prop) (W W' : World) : Prop where
 os : W'.os = W.os
 tape : W'.tape = W.tape
 output : W'.output = W.output
 size : W.heap.size ≤ W'.heap.size
 block : ∀ k, k < W.heap.size → ¬ S k → W'.heap[k]? = W.heap[k]?
theorem ChS.refl (S : Nat → Prop) (W : World) : ChS S W W := ⟨rfl, rfl, rfl, Nat.le_refl _, fun _ _ _ => rfl⟩
theorem ChS.trans {S : Nat → Prop} {W1 W2 W3 : World} (h : ChS S W1 W2) (h' : ChS S W2 W3) : ChS S W1 W3 :=
 ⟨h'.os.trans h.os, h'.tape.trans h.tape, h'.output.trans h.output, Nat.le_trans h.size h'.size, fun k hk hn => (h'.block k (Nat.lt_of_lt_of_le hk h.size) hn).trans (h.block k hk hn)⟩
theorem ChS.mono {S S' : Nat → Prop} {W W' : World} (h : ChS S W W') (hs : ∀ k, S k → S' k) : ChS S' W W' := ⟨h.os, h.tape, h.output, h.size, fun k hk hn => h.block k hk fun e => hn (hs k e)⟩
theorem ChS.grown {S : Nat → Prop} {W W' : World} {r : Option Nat} (h : W.grownBy W' r) (hr : ∀ k, r = some k → S k) : ChS S W W' := ⟨h.os, h.tape, h.output, h.size, fun k hk hn => h.block k hk fun e => hn (hr k e.symm)⟩
theorem ChS.of_below {S : Nat → Prop} {W W' : World} (h : Below W.heap.size W W') : ChS S W W' := ⟨h.os, h.tape, h.output, h.size, fun k hk _ => h.block k hk⟩
theorem ChS.set {S : Nat → Prop} {W0 W : World} (h : ChS S W0 W) (a : Addr) (v : Value) (hs : S a.block) : ChS S W0 (W.setCell a v) :=
 ⟨h.os, h.tape, h.output, by rw [World.size_setCell]; exact h.size, fun k hk hn => (Below.heap_setCell _ _ _ _ (fun e => hn (by rw [e]; exact hs))).trans (h.block k hk hn)⟩
theorem ChS.below {S : Nat → Prop} {B : Nat} {w W W' : World} (h : ChS S W W') (hb : Below B w W) (h1 : B ≤ W.heap.size) (h2 : ∀ k, S k → B ≤ k) : Below B w W' :=
 ⟨h.os.trans hb.os, h.tape.trans hb.tape, h.output.trans hb.output, Nat.le_trans hb.size h.size, fun k hk => (h.block k (Nat.lt_of_lt_of_le hk h1) (fun e => by have := h2 k e; omega)).trans (hb.block k hk)⟩
theorem ChS.chg {S : Nat → Prop} {lo hi : Nat} {W W' : World} (h : ChS S W W') (hs : ∀ k, S k → lo ≤ k ∧ k < hi) : Chg lo hi W W' :=
 ⟨h.os, h.tape, h.output, h.size, fun k hk hn => h.block k hk fun e => hn (hs k e)⟩
theorem HasE.chs {α : Type} {E : Enc α} {ty : TypeId} {S : Nat → Prop} {w w' : World} {B : Nat} {v : Value} {l : List α} (h : HasE E ty w B v l) (hc : ChS S w w') (hn : ∀ k, v.ownBlock = some k → ¬ S k) : HasE E ty w' B v l :=
 h.off fun k hk => hc.block k (h.under k hk) (hn k hk)
def mk1 (s : Nat) (x : Mx) : Mx := ⟨⟨(s : Int), (s : Int) + 1, (s : Int) + 2, (s : Int) + 3, (s : Int) + 4, marksX (s + 5) x.m.l.length, (s : Int) + 5 + (x.m.l.length : Int)⟩, x.pl, x.cl⟩
def mkTe : Nat → List Mx → List Mx
 | _, [] => []
 | s, x :: t => mk1 s x :: mkTe (s + 6 + x.m.l.length) t
def cT (T : List Mx) : Nat := T.length * 6 + cL T
theorem mk1_u (s : Nat) (x : Mx) : (mk1 s x).u = x.u := by unfold mk1 Mx.u; simp [marksX_length]
theorem mkTe_u : ∀ (s : Nat) (T : List Mx), (mkTe s T).map Mx.u = T.map Mx.u
 | _, [] => rfl
 | s, x :: t => by rw [mkTe, List.map_cons, List.map_cons, mk1_u, mkTe_u]
theorem mkTe_length (s : Nat) (T : List Mx) : (mkTe s T).length = T.length := by have := congrArg List.length (mkTe_u s T); simpa using this
theorem cT_cons (x : Mx) (t : List Mx) : cT (x :: t) = 6 + x.m.l.length + cT t := by unfold cT cL; simp; omega
theorem mkTe_append : ∀ (s : Nat) (T T' : List Mx), mkTe s (T ++ T') = mkTe s T ++ mkTe (s + cT T) T'
 | s, [], T' => by simp [mkTe, cT, cL]
 | s, x :: t, T' => by
  rw [List.cons_append, mkTe, mkTe_append, mkTe, cT_cons, List.cons_append]
  congr 3
  omega
theorem cT_next {T : List Mx} {k : Nat} (h : k < T.length) : cT (T.take (k + 1)) = cT (T.take k) + 6 + T[k].m.l.length := by
 unfold cT
 rw [cL_next h]
 simp
 omega
theorem cT_le (T : List Mx) (k : Nat) : cT (T.take k) ≤ cT T := by
 unfold cT cL
 conv => rhs; rw [← List.take_append_drop k T, List.map_append, List.sum_append, List.length_append]
 omega
def mkP (s : Nat) (T : List Mx) (k : Nat) : List Mx := mkTe s (T.take k) ++ T.drop k
theorem mkP_length (s : Nat) (T : List Mx) (k : Nat) (h : k ≤ T.length) : (mkP s T k).length = T.length := by unfold mkP; simp [mkTe_length]; omega
theorem mkP_zero (s : Nat) (T : List Mx) : mkP s T 0 = T := by simp [mkP, mkTe]
theorem mkP_all (s : Nat) (T : List Mx) : mkP s T T.length = mkTe s T := by simp [mkP]
theorem mkP_u (s : Nat) (T : List Mx) (k : Nat) : (mkP s T k).map Mx.u = T.map Mx.u := by
 unfold mkP
 rw [List.map_append, mkTe_u, ← List.map_append, List.take_append_drop]
theorem mkP_at (s : Nat) (T : List Mx) (k : Nat) (h : k < T.length) (h' : k < (mkP s T k).length) : (mkP s T k)[k] = T[k] := by
 have e : (mkTe s (T.take k)).length = k := by rw [mkTe_length, List.length_take]; omega
 have : (mkP s T k)[k]? = some T[k] := by
  unfold mkP
  rw [List.getElem?_append_right (by omega), e, Nat.sub_self, List.getElem?_drop, Nat.add_zero, List.getElem?_eq_getElem h]
 rw [List.getElem?_eq_getElem h'] at this
 exact Option.some.inj this
theorem mkP_next (s : Nat) (T : List Mx) (k : Nat) (h : k < T.length) : (mkP s T k).set k (mk1 (s + cT (T.take k)) T[k]) = mkP s T (k + 1) := by
 have e : (mkTe s (T.take k)).length = k := by rw [mkTe_length, List.length_take]; omega
 unfold mkP
 rw [List.set_append_right _ _ (by omega), e, Nat.sub_self, List.drop_eq_getElem_cons h, List.set_cons_zero, List.take_succ_eq_append_getElem h, mkTe_append, List.append_assoc]
 rfl
def Bl (vs : List Value) (k : Nat) : Prop := ∃ v ∈ vs, v.ownBlock = some k
theorem Bl.of {vs : List Value} {v : Value} {k : Nat} (h : v ∈ vs) (hk : v.ownBlock = some k) : Bl vs k := ⟨v, h, hk⟩
theorem HasE.oth {α : Type} {E : Enc α} {ty : TypeId} {w : World} {B : Nat} {v : Value} {l : List α} (h : HasE E ty w B v l) (a : Addr) (u : Value) (hne : ∀ k, v.ownBlock = some k → k ≠ a.block) : HasE E ty (w.setCell a u) B v l := h.off fun k hk => Below.heap_setCell _ _ _ _ (hne k hk)
theorem HasM.st {w : World} {B g n cap : Nat} {L : List Mx} {j : Nat} {x : Mx} (h : HasM w B (.slice (some ⟨g, 0, none⟩) n cap) (L.set j x)) (hj : j < L.length) (i : Nat) (hi : i < 7) (u : Value) (y : Mx) (hy : mxC y = (mxC x).set i u) :
  HasM (w.setCell ⟨g, j * 7 + i, none⟩ u) B (.slice (some ⟨g, 0, none⟩) n cap) (L.set j y) := by
 have := HasE.put h (j := j) (by simpa using hj) (i := i) hi u y (by rw [List.getElem_set_self]; exact hy)
 rw [List.set_set] at this
 exact this
theorem apU {T : List Mx} (h : (T.map Mx.u).Pairwise ap) {j k : Nat} (hj : j < T.length) (hk : k < T.length) (hne : j ≠ k) : ap T[j].u T[k].u := by
 rw [List.pairwise_iff_getElem] at h
 rcases Nat.lt_or_gt_of_ne hne with hlt | hgt
 ·
  have := h j k (by simpa using hj) (by simpa using hk) hlt
  simpa using this
 ·
  have := h k j (by simpa using hk) (by simpa using hj) hgt
  have h2 : ap T[k].u T[j].u := by simpa using this
  exact fun q h3 h4 => h2 q h4 h3
theorem mkP_uj (s : Nat) (T : List Mx) (k j : Nat) (hj : j < T.length) (h' : j < (mkP s T k).length) : (mkP s T k)[j].u = T[j].u := by
 have := congrArg (fun l => l[j]?) (mkP_u s T k)
 simpa [h', hj] using this
theorem markMsS (s : Nat) (hs1 : 1 ≤ s) (v : Value) (T : List Mx) (hs2 : s + cT T ≤ 50000000) (B : Nat) (w : World) (h : HasM w B v T) (hL : Logs w B T) (hap : ∀ x ∈ T, ap v x.u) (hl : ∀ x ∈ T, x.m.l.length ≤ 1048576) (hn : T.length ≤ 1048576) :
  Calls Tryz.prog 38 #[v, .int .i64 (s : Int)] w fun e w' => e = .returned (.int .i64 ((s : Int) + (cT T : Int))) ∧ HasM w' B v (mkTe s T) ∧ Logs w' B (mkTe s T) ∧ ChS (Bl (v :: T.map Mx.u)) w w' := by
 obtain ⟨a, cap, rfl, h1, h2, h3⟩ := h.form
 unfold maxLen at h2
 have HAP : Hid (∀ x ∈ T, ap (.slice a T.length cap) x.u) := hap
 have HLN : Hid (∀ x ∈ T, x.m.l.length ≤ 1048576) := hl
 have HLP : Hid ((T.map Mx.u).Pairwise ap) := hL.ap
 have H0 : Hid (HasM w B (.slice a T.length cap) T) := h
 have L0 : Hid (Logs w B T) := hL
 have H3 : Hid (0 < T.length → ∃ g, a = some ⟨g, 0, none⟩) := h3
 clear hap hl hL h h3
 go_enter Tryz.func38, Tryz.ntmps38
 go_wp2
 go_loopw [1, 5] (fun m i wr => ∃ k : Nat, k ≤ T.length ∧ i = .int .i64 k ∧ m = .int .i64 ((s : Int) + (cT (T.take k) : Int)) ∧ Hid (HasM wr B (.slice a T.length cap) (mkP s T k)) ∧ Hid (∀ x ∈ mkP s T k, HasX wr B x.u x.m.l) ∧ Hid (ChS (Bl (.slice a T.length cap :: T.map Mx.u)) w wr)) (fun _ i _ => T.length - (intOf i).toNat)
 case atStart => exact ⟨0, Nat.zero_le _, rfl, by simp [cT, cL], (show Hid _ from by rw [mkP_zero]; exact H0.out), (show Hid _ from by rw [mkP_zero]; exact L0.out.l), (show Hid _ from ChS.refl _ _)⟩
 case round =>
  clear H0 L0
  obtain ⟨k, hk, rfl, rfl, ho, hlg, hch⟩ := hrel
  by_cases hlt : k < T.length
  ·
   obtain ⟨g, rfl⟩ := H3.out (by omega)
   have hml := mkP_length s T k hk
   have hat := mkP_at s T k hlt (by omega)
   have hnx : Hid _ := mkP_next s T k hlt
   have hct : Hid (cT (T.take (k + 1)) = cT (T.take k) + 6 + T[k].m.l.length) := cT_next hlt
   have hup : cT (T.take (k + 1)) ≤ cT T := cT_le T (k + 1)
   have hup2 : cT (T.take k) + 6 + T[k].m.l.length ≤ cT T := by have:=hct.out;omega
   have hki : (k : Int) < (T.length : Int) := by omega
   have hll := HLN.out T[k] (List.getElem_mem hlt)
   have CK := mxCells ho.out.sls (j := k) (by omega)
   have hx := hlg.out T[k] (by rw [← hat]; exact List.getElem_mem _)
   have hav := HAP.out T[k] (List.getElem_mem hlt)
   have fz := ho.out.free
   have F0 := fz (k * 7)
   have F1 := fz (k * 7 + 1)
   have F2 := fz (k * 7 + 2)
   have F3 := fz (k * 7 + 3)
   have F4 := fz (k * 7 + 4)
   have F6 := fz (k * 7 + 6)
   rw [hat] at CK
   obtain ⟨n0, hn0⟩ : ∃ n, n = s + cT (T.take k) := ⟨_, rfl⟩
   have hn0i : (s : Int) + (cT (T.take k) : Int) = (n0 : Int) := by omega
   have HN0 : Hid (n0 = s + cT (T.take k)) := hn0
   rw [hn0i]
   have hn1 : 1 ≤ n0 := by omega
   have hn2 : n0 + 6 + T[k].m.l.length ≤ 50000000 := by omega
   rw [← hn0] at hnx
   have HLT : Hid (k < (mkP s T k).length) := (show k < _ by omega)
   have HXU : Hid (∀ j (hj : j < T.length) (hj' : j < (mkP s T k).length), (mkP s T k)[j].u = T[j].u) := fun j hj hj' => mkP_uj s T k j hj hj'
   have HAU : Hid (∀ j (hj : j < T.length), j ≠ k → ap T[j].u T[k].u) := fun j hj hne => apU HLP.out hj hlt hne
   have P0 : Hid (HasM wr B (.slice (some ⟨g, 0, none⟩) T.length cap) ((mkP s T k).set k T[k])) := by
    show HasM _ _ _ _
    rw [← hat, List.set_getElem_self]
    exact ho.out
   have hAX : Hid (∀ j (hj : j < T.length), ap (.slice (some ⟨g, 0, none⟩) T.length cap) T[j].u) := fun j hj => HAP.out T[j] (List.getElem_mem hj)
   have HLJ : Hid (∀ j (hj : j < (mkP s T k).length), HasX wr B (mkP s T k)[j].u (mkP s T k)[j].m.l) := fun j hj => hlg.out _ (List.getElem_mem hj)
   obtain ⟨x, hxk⟩ : ∃ x, T[k] = x := ⟨_, rfl⟩
   have hnx2 := hnx.out
   have hct2 := hct.out
   have P02 := P0.out
   rw [hxk] at CK hx hav hll hn2 hup2 hnx2 hct2 P02
   have P03 : Hid _ := P02
   have HNX : Hid _ := hnx2
   have HCT : Hid _ := hct2
   have HXK : Hid (T[k] = x) := hxk
   obtain ⟨⟨mk, mf, mt, mv, ma, ml, mc⟩, px, cx⟩ := x
   have hsx : Hid (∀ q, (Mx.u ⟨⟨mk, mf, mt, mv, ma, ml, mc⟩, px, cx⟩).ownBlock = some q → q ≠ g) := hH_ (fun q h1 h2 => hav q (by rw [h2]; rfl) h1)
   simp only at hll hn2 hup2
   unfold Mx.u at CK
   simp only [Nat.zero_add] at CK
   obtain ⟨c0, c1, c2, c3, c4, c5, c6⟩ := CK
   have j1 := fun W hW => markTxt (n0 + 5) (by omega) (by omega) (Mx.u ⟨⟨mk, mf, mt, mv, ma, ml, mc⟩, px, cx⟩) ml B W hW hll
   obtain ⟨N0, hN0⟩ : ∃ N : Int, N = (n0 : Int) := ⟨_, rfl⟩
   obtain ⟨N1, hN1⟩ : ∃ N : Int, N = (n0 : Int) + 1 := ⟨_, rfl⟩
   obtain ⟨N2, hN2⟩ : ∃ N : Int, N = (n0 : Int) + 2 := ⟨_, rfl⟩
   obtain ⟨N3, hN3⟩ : ∃ N : Int, N = (n0 : Int) + 3 := ⟨_, rfl⟩
   obtain ⟨N4, hN4⟩ : ∃ N : Int, N = (n0 : Int) + 4 := ⟨_, rfl⟩
   obtain ⟨N5, hN5⟩ : ∃ N : Int, N = (n0 : Int) + 5 := ⟨_, rfl⟩
   obtain ⟨N6, hN6⟩ : ∃ N : Int, N = (n0 : Int) + 5 + (ml.length : Int) := ⟨_, rfl⟩
   obtain ⟨N7, hN7⟩ : ∃ N : Int, N = (n0 : Int) + 6 + (ml.length : Int) := ⟨_, rfl⟩
   have ew1 : wrap64 (N0 + 1) = N1 := by unfold wrap64; omega
   have ew2 : wrap64 (N1 + 1) = N2 := by unfold wrap64; omega
   have ew3 : wrap64 (N2 + 1) = N3 := by unfold wrap64; omega
   have ew4 : wrap64 (N3 + 1) = N4 := by unfold wrap64; omega
   have ew5 : wrap64 (N4 + 1) = N5 := by unfold wrap64; omega
   have ew6 : wrap64 (N6 + 1) = N7 := by unfold wrap64; omega
   have hnn : ((n0 + 5 : Nat) : Int) = N5 := by omega
   have hnm : N5 + (ml.length : Int) = N6 := by omega
   rw [hnn, hnm] at j1
   rw [← hN0]
   have HN : Hid (N0 = (n0 : Int) ∧ N1 = (n0 : Int) + 1 ∧ N2 = (n0 : Int) + 2 ∧ N3 = (n0 : Int) + 3 ∧ N4 = (n0 : Int) + 4 ∧ N6 = (n0 : Int) + 5 + (ml.length : Int) ∧ N7 = (n0 : Int) + 6 + (ml.length : Int)) := ⟨hN0, hN1, hN2, hN3, hN4, hN6, hN7⟩
   have hcm : mxC (mk1 n0 ⟨⟨mk, mf, mt, mv, ma, ml, mc⟩, px, cx⟩) = (mxC ⟨⟨N0, N1, N2, N3, N4, ml, mc⟩, px, cx⟩).set 6 (.int .i64 N6) := by
    simp only [mxC, mk1, Mx.u, marksX_length, List.set_cons_succ, List.set_cons_zero]
    rw [hN0, hN1, hN2, hN3, hN4, hN6]
   have HCM : Hid _ := hcm
   unfold Mx.u at j1
   simp only at j1
   have HX0 : Hid (HasX wr B (Value.slice px ml.length cx) ml) := hx
   have q1 := HasM.st P03.out HLT.out 0 (by decide) (.int .i64 N0) ⟨⟨N0, mf, mt, mv, ma, ml, mc⟩, px, cx⟩ rfl
   have q2 := HasM.st q1 HLT.out 1 (by decide) (.int .i64 N1) ⟨⟨N0, N1, mt, mv, ma, ml, mc⟩, px, cx⟩ rfl
   have q3 := HasM.st q2 HLT.out 2 (by decide) (.int .i64 N2) ⟨⟨N0, N1, N2, mv, ma, ml, mc⟩, px, cx⟩ rfl
   have q4 := HasM.st q3 HLT.out 3 (by decide) (.int .i64 N3) ⟨⟨N0, N1, N2, N3, ma, ml, mc⟩, px, cx⟩ rfl
   have q5 := HasM.st q4 HLT.out 4 (by decide) (.int .i64 N4) ⟨⟨N0, N1, N2, N3, N4, ml, mc⟩, px, cx⟩ rfl
   rw [Nat.add_zero] at q1 q2 q3 q4 q5
   have Q5 : Hid _ := q5
   clear q1 q2 q3 q4 q5 P0 P02 P03 hx ho hlg fz hxk hnx2 hct2 hnx hct hat hn0 hn0i hup hup2 hnn hnm hll hav hn2 hN0 hN1 hN2 hN3 hN4 hN5 hN6 hN7 hn1 hcm
   go_wp2_with fail
   refine (j1 _ (by
    repeat (refine HasE.oth ?_ _ _ (fun q hq => by simpa using hsx.out q hq))
    exact HX0.out)).mono ?_
   rintro e w6 ⟨rfl, hx6, hg6⟩
   have H6 : Hid (HasM w6 B (.slice (some ⟨g, 0, none⟩) T.length cap) ((mkP s T k).set k ⟨⟨N0, N1, N2, N3, N4, ml, mc⟩, px, cx⟩)) := (show Hid _ from HasE.grown Q5.out hg6 (fun q hq => by
    have e : q = g := by simpa [Value.ownBlock] using hq.symm
    subst e
    intro h2
    exact hsx.out q h2 rfl))
   have C6 : Hid (ChS (Bl (Value.slice (some ⟨g, 0, none⟩) T.length cap :: T.map Mx.u)) w w6) := by
    refine (show Hid _ from ChS.trans (W2 := _) ?_ (ChS.grown hg6 fun q hq => Bl.of (v := T[k].u) (List.mem_cons_of_mem _ (List.mem_map_of_mem (List.getElem_mem hlt))) (by rw [HXK.out]; exact hq)))
    repeat (refine ChS.set ?_ _ _ (Bl.of (List.mem_cons_self) rfl))
    exact hch.out
   have HJ6 : Hid (∀ j (hj : j < (mkP s T k).length), j ≠ k → HasX w6 B (mkP s T k)[j].u (mkP s T k)[j].m.l) := fun j hj hne => by
    have hjT : j < T.length := by have := hml; omega
    have a1 := hAX.out j hjT
    have a2 := HAU.out j hjT hne
    have h0 := HLJ.out j hj
    rw [HXU.out j hjT hj] at h0 ⊢
    rw [HXK.out] at a2
    refine HasE.grown (w := _) ?_ hg6 (fun q h1 h2 => a2 q h1 h2)
    repeat (refine HasE.oth ?_ _ _ (fun q hq => by
     have := a1 g rfl
     intro e
     simp at e
     subst e
     exact this hq))
    exact h0
   have HX6 : Hid (HasX w6 B (Value.slice px ml.length cx) (marksX (n0 + 5) ml.length)) := hx6
   have c6' := (mxCells H6.out.sls (j := k) (by simp; exact HLT.out)).2.2.2.2.2.2
   rw [List.getElem_set_self] at c6'
   simp only [Nat.zero_add] at c6'
   have f6' := H6.out.free (k * 7 + 6)
   have q7 := HasM.st H6.out HLT.out 6 (by decide) (.int .i64 N6) (mk1 n0 ⟨⟨mk, mf, mt, mv, ma, ml, mc⟩, px, cx⟩) HCM.out
   have H7 : Hid _ := q7
   clear hx6 hg6 q7 F0 F1 F2 F3 F4 F6 c0 c1 c2 c3 c4 c5 c6 j1 HX0 Q5 H6 HLJ hch
   go_wp2_with fail
   go_roundw
   case rel =>
    refine ⟨k + 1, by omega, by go_num, ?_, ?_, ?_, ?_⟩
    ·
     have e1 := HCT.out
     have e2 := HN0.out
     have e3 := HN.out.2.2.2.2.2.2
     rw [e1, ew6, e3]
     congr 1
     omega
    ·
     rw [← HNX.out]; exact H7.out
    ·
     show Hid _
     rw [← HNX.out]
     refine (show Hid _ from fun y hy => ?_)
     obtain ⟨j, hj, rfl⟩ := List.getElem_of_mem hy
     have hj' : j < (mkP s T k).length := by simpa using hj
     by_cases hjk : j = k
     ·
      subst hjk
      rw [List.getElem_set_self, mk1_u]
      refine HasE.oth ?_ _ _ (fun q hq => hsx.out q hq)
      exact HX6.out
     ·
      rw [List.getElem_set_ne (fun e => hjk e.symm)]
      refine HasE.oth (HJ6.out j hj' hjk) _ _ (fun q hq => ?_)
      have hjT : j < T.length := by have := hml; omega
      have a1 := hAX.out j hjT
      rw [HXU.out j hjT hj'] at hq
      have := a1 g rfl
      intro e
      simp at e
      subst e
      exact this hq
    ·
     exact (show Hid _ from ChS.set C6.out _ _ (Bl.of (List.mem_cons_self) rfl))
   case measure => simp [intOf]; omega
  ·
   obtain rfl : k = T.length := by omega
   rw [mkP_all] at ho hlg
   have et : T.take T.length = T := List.take_of_length_le (Nat.le_refl _)
   rw [et]
   go_wp2
   go_ret
   exact ⟨rfl, ho.out, ⟨hlg.out, by rw [mkTe_u]; exact HLP.out⟩, hch.out⟩

theorem ap.comm {v v' : Value} (h : ap v v') : ap v' v := fun k h1 h2 => h k h2 h1
open Go.RowKit Go.Sort

theorem cell_ltR {w : World} {b o : Nat} {v : Value} (h : w.cell? ⟨b, o, none⟩ = some v) : b < w.heap.size := by
 simp only [World.cell?] at h
 cases e : w.heap[b]? with
 | none => rw [e] at h; cases h
 | some x => exact (Array.getElem?_eq_some_iff.1 e).1
theorem mkTe_at (s : Nat) (T : List Mx) (k : Nat) (h : k < T.length) (h' : k < (mkTe s T).length) : (mkTe s T)[k] = mk1 (s + cT (T.take k)) T[k] := by
 have e := mkP_next s T k h
 have e2 : (mkTe s T)[k]? = (mkP s T (k + 1))[k]? := by
  unfold mkP
  rw [List.getElem?_append_left (by rw [mkTe_length, List.length_take]; omega)]
  conv => lhs; rw [← List.take_append_drop (k + 1) T, mkTe_append]
  rw [List.getElem?_append_left (by rw [mkTe_length, List.length_take]; omega)]
 rw [← e, List.getElem?_set_self (by rw [mkP_length _ _ _ (by omega)]; exact h), List.getElem?_eq_getElem h'] at e2
 exact Option.some.inj e2
theorem heldMsS (s : Nat) (hs1 : 1 ≤ s) (v : Value) (T : List Mx) (hs2 : s + cT T ≤ 50000000) (w : World) (h : TeGot w v (mkTe s T)) (hl : ∀ x ∈ T, x.m.l.length ≤ 1048576) (hn : T.length ≤ 1048576) :
  Calls Tryz.prog 40 #[v, .int .i64 (s : Int)] w fun e w' => e = .returned (.int .i64 ((s : Int) + (cT T : Int))) ∧ Below w.heap.size w w' := by
 have HH : Hid (TeGot w v (mkTe s T)) := h
 have hml := mkTe_length s T
 obtain ⟨⟨a, cap, rfl, _⟩, _⟩ := h
 have HLN : Hid (∀ x ∈ T, x.m.l.length ≤ 1048576) := hl
 rw [hml] at HH ⊢
 have HML : Hid ((mkTe s T).length = T.length) := hml
 clear hl hml
 go_enter Tryz.func40, Tryz.ntmps40
 go_wp2
 go_loopw [1, 5] (fun m i wr => ∃ k : Nat, k ≤ T.length ∧ i = .int .i64 k ∧ m = .int .i64 ((s : Int) + (cT (T.take k) : Int)) ∧ Hid (Below w.heap.size w wr)) (fun _ i _ => T.length - (intOf i).toNat)
 case atStart => exact ⟨0, Nat.zero_le _, rfl, by simp [cT, cL], (show Hid _ from Below.refl _ _)⟩
 case round =>
  obtain ⟨k, hk, rfl, rfl, hb⟩ := hrel
  by_cases hlt : k < T.length
  ·
   have H2 := HH.out.kept hb.out
   obtain ⟨g, q, rfl⟩ := mxAt H2.1 (by rw [HML.out]; omega)
   have hkm : k < (mkTe s T).length := by rw [HML.out]; exact hlt
   have CK := mxCells H2.1 hkm
   have hob := H2.2 _ (List.getElem_mem hkm)
   rw [mkTe_at s T k hlt hkm] at CK hob
   have hct : Hid (cT (T.take (k + 1)) = cT (T.take k) + 6 + T[k].m.l.length) := cT_next hlt
   have hup : cT (T.take (k + 1)) ≤ cT T := cT_le T (k + 1)
   have hup2 : cT (T.take k) + 6 + T[k].m.l.length ≤ cT T := by have:=hct.out;omega
   have hki : (k : Int) < (T.length : Int) := by omega
   have hll := HLN.out T[k] (List.getElem_mem hlt)
   obtain ⟨n0, hn0⟩ : ∃ n, n = s + cT (T.take k) := ⟨_, rfl⟩
   have hn0i : (s : Int) + (cT (T.take k) : Int) = (n0 : Int) := by omega
   have HN0 : Hid (n0 = s + cT (T.take k)) := hn0
   rw [hn0i]
   rw [← hn0] at CK hob
   have HCT : Hid (cT (T.take (k + 1)) = cT (T.take k) + 6 + T[k].m.l.length) := hct
   clear hct
   generalize T[k] = x at CK hob hll hup2 HCT
   obtain ⟨⟨mk, mf, mt, mv, ma, ml, mc⟩, px, cx⟩ := x
   unfold mk1 Mx.u at CK
   unfold mk1 Mx.u MsGot at hob
   simp only [marksX_length] at CK hob hll hup2 HCT
   obtain ⟨c0, c1, c2, c3, c4, c5, c6⟩ := CK
   have j1 := fun W hW => heldTxt (n0 + 5) (by omega) (by omega) (Value.slice px ml.length cx) ml.length W hW hll
   obtain ⟨N0, hN0⟩ : ∃ N : Int, N = (n0 : Int) := ⟨_, rfl⟩
   obtain ⟨N1, hN1⟩ : ∃ N : Int, N = (n0 : Int) + 1 := ⟨_, rfl⟩
   obtain ⟨N2, hN2⟩ : ∃ N : Int, N = (n0 : Int) + 2 := ⟨_, rfl⟩
   obtain ⟨N3, hN3⟩ : ∃ N : Int, N = (n0 : Int) + 3 := ⟨_, rfl⟩
   obtain ⟨N4, hN4⟩ : ∃ N : Int, N = (n0 : Int) + 4 := ⟨_, rfl⟩
   obtain ⟨N5, hN5⟩ : ∃ N : Int, N = (n0 : Int) + 5 := ⟨_, rfl⟩
   obtain ⟨N6, hN6⟩ : ∃ N : Int, N = (n0 : Int) + 5 + (ml.length : Int) := ⟨_, rfl⟩
   obtain ⟨N7, hN7⟩ : ∃ N : Int, N = (n0 : Int) + 6 + (ml.length : Int) := ⟨_, rfl⟩
   have ew1 : wrap64 (N0 + 1) = N1 := by unfold wrap64; omega
   have ew2 : wrap64 (N1 + 1) = N2 := by unfold wrap64; omega
   have ew3 : wrap64 (N2 + 1) = N3 := by unfold wrap64; omega
   have ew4 : wrap64 (N3 + 1) = N4 := by unfold wrap64; omega
   have ew5 : wrap64 (N4 + 1) = N5 := by unfold wrap64; omega
   have ew6 : wrap64 (N6 + 1) = N7 := by unfold wrap64; omega
   have hnn : ((n0 + 5 : Nat) : Int) = N5 := by omega
   have hnm : N5 + (ml.length : Int) = N6 := by omega
   rw [hnn, hnm] at j1
   rw [← hN0] at c0 ⊢
   rw [← hN1] at c1
   rw [← hN2] at c2
   rw [← hN3] at c3
   rw [← hN4] at c4
   rw [← hN6] at c6
   have HN : Hid (N7 = (n0 : Int) + 6 + (ml.length : Int)) := hN7
   have d0 : (N0 != N0) = false := by simp
   have d1 : (N1 != N1) = false := by simp
   have d2 : (N2 != N2) = false := by simp
   have d3 : (N3 != N3) = false := by simp
   have d4 : (N4 != N4) = false := by simp
   have d6 : (N6 != N6) = false := by simp
   have hneg : ¬ N6 < 0 := by omega
   have HOB : Hid (Sls txtE wr (Value.slice px ml.length cx) (marksX (n0 + 5) ml.length)) := hob
   clear hn0 hn0i hup hup2 hnn hnm hll hN0 hN1 hN2 hN3 hN4 hN5 hN6 hN7 hob H2
   go_wp2_with fail
   refine (j1 _ HOB.out).mono ?_
   rintro e w6 ⟨rfl, hb6⟩
   have B6 := hH_ (hb.out.trans (hb6.mono hb.out.size))
   have k6 := (hb6.cell (p := ⟨g, q + k * 7 + 6, none⟩) (cell_ltR c6)).trans c6
   clear hb6 c0 c1 c2 c3 c4 c5 c6 j1 d0 d1 d2 d3 d4
   go_wp2_with fail
   go_roundw
   case rel =>
    refine ⟨k + 1, by omega, by go_num, ?_, B6⟩
    have e1 := HCT.out
    have e2 := HN0.out
    have e3 := HN.out
    rw [e1, ew6, e3]
    congr 1
    omega
   case measure => simp [intOf]; omega
  ·
   obtain rfl : k = T.length := by omega
   have et : T.take T.length = T := List.take_of_length_le (Nat.le_refl _)
   rw [et]
   go_wp2
   go_ret
   exact ⟨rfl, hb.out⟩
open Go.RowKit Go.Sort

theorem eqMs (m : Ms) (ua ub : Value) (w : World) (ha : Sls txtE w ua m.l) (hb : Sls txtE w ub m.l) (hl : m.l.length ≤ 1048576) :
  Calls Tryz.prog 35 #[msA m ua, msA m ub] w fun e w' => e = .returned (.bool true) ∧ Below w.heap.size w w' := by
 have HA : Hid (Sls txtE w ua m.l) := ha
 have HB : Hid (Sls txtE w ub m.l) := hb
 have hE := fun W (hW : Below w.heap.size w W) => eqTxt ua ub m.l W (HA.out.kept hW) (HB.out.kept hW) hl
 obtain ⟨a, ca, rfl, _⟩ := ha
 obtain ⟨b, cb, rfl, _⟩ := hb
 unfold msA
 generalize m.l.length = n at hE ⊢
 obtain ⟨k, f, t, v, la, l, c⟩ := m
 simp only
 have d0 : (k != k) = false := by simp
 have d1 : (f != f) = false := by simp
 have d2 : (t != t) = false := by simp
 have d3 : (v != v) = false := by simp
 have d4 : (la != la) = false := by simp
 have d5 : (c != c) = false := by simp
 clear HA HB
 go_enter Tryz.func35, Tryz.ntmps35
 go_wp2_with fail
 refine (hE _ (by repeat (first | exact Below.refl _ _ | refine Below.alloc ?_ (by simp <;> omega) _))).mono ?_
 rintro e w1 ⟨rfl, hg⟩
 have GG : Hid (Grew w w1) := ((((Grew.refl w).alloc _).alloc _)).trans hg
 have f2 : w1.cell? ⟨w.heap.size, 6, none⟩ = some (.int .i64 c) := hg.cell (by simp [go_sem]) (by simp <;> omega)
 have f3 : w1.cell? ⟨w.heap.size + 1, 6, none⟩ = some (.int .i64 c) := hg.cell (by simp [go_sem]) (by simp <;> omega)
 clear hg hE
 go_wp2
 go_ret
 exact ⟨rfl, GG.out.low⟩
def SameM (L M : List Mx) : Prop := M.map (·.m) = L.map (·.m)
theorem SameM.len {L M : List Mx} (h : SameM L M) : M.length = L.length := by have := congrArg List.length h; simpa using this
theorem SameM.at {L M : List Mx} (h : SameM L M) {j : Nat} (h1 : j < M.length) (h2 : j < L.length) : M[j].m = L[j].m := by
 have := congrArg (fun l => l[j]?) h
 simpa [h1, h2] using this
theorem eqMsS (va vb : Value) (L M : List Mx) (w : World) (ha : TeGot w va L) (hb : TeGot w vb M) (hs : SameM L M) (hsm : ∀ x ∈ L, x.m.l.length ≤ 1048576) (hn : L.length ≤ 1048576) :
  Calls Tryz.prog 34 #[va, vb] w fun e w' => e = .returned (.bool true) ∧ Below w.heap.size w w' := by
 have hml := hs.len
 have HA : Hid (TeGot w va L) := ha
 have HB : Hid (TeGot w vb M) := hb
 obtain ⟨⟨a, ca, rfl, _⟩, _⟩ := ha
 obtain ⟨⟨b, cb, rfl, _⟩, _⟩ := hb
 have HS : Hid (SameM L M) := hs
 have HSM : Hid (∀ x ∈ L, x.m.l.length ≤ 1048576) := hsm
 have dl : ((L.length : Int) != (M.length : Int)) = false := by rw [hml]; simp
 have HML : Hid (M.length = L.length) := hml
 clear hs hsm hml
 go_enter Tryz.func34, Tryz.ntmps34
 go_wp2_with fail
 go_loopw [5] (fun i wr => ∃ (k : Nat), k ≤ L.length ∧ i = .int .i64 k ∧ Hid (Below w.heap.size w wr)) (fun i _ => L.length - (intOf i).toNat)
 case atStart => exact ⟨0, Nat.zero_le _, rfl, Below.refl _ _⟩
 case round =>
  obtain ⟨k, hk, rfl, hb⟩ := hrel
  by_cases hlt : k < L.length
  ·
   have hltM : k < M.length := by rw [HML.out]; exact hlt
   have HA2 := HA.out.kept hb.out
   have HB2 := HB.out.kept hb.out
   obtain ⟨g, q, rfl⟩ := mxAt HA2.1 (by omega)
   obtain ⟨g', q', rfl⟩ := mxAt HB2.1 (by omega)
   have CK := mxCells HA2.1 hlt
   have CM := mxCells HB2.1 hltM
   have hxo := HS.out.at hltM hlt
   have rx := HA2.2 L[k] (List.getElem_mem hlt)
   have ry := HB2.2 M[k] (List.getElem_mem hltM)
   have sx := HSM.out L[k] (List.getElem_mem hlt)
   generalize L[k] = x at CK hxo rx sx
   generalize M[k] = y at CM hxo ry
   obtain ⟨my, py, cy⟩ := y
   simp only at hxo
   subst hxo
   have hE := fun W (hW : Below wr.heap.size wr W) => eqMs x.m x.u (Value.slice py x.m.l.length cy) W (rx.kept hW) (MsGot.kept ry hW) sx
   unfold msA at hE
   unfold Mx.u at CK CM hE
   simp only at CK CM hE
   obtain ⟨⟨xk, xf, xt, xv, xa, xl, xc⟩, px, cx⟩ := x
   simp only at CK CM hE
   generalize xl.length = n at CK CM hE
   have cE : ∀ d os, Calls Tryz.prog 35 #[.agg #[.int .i64 xk, .int .i64 xf, .int .i64 xt, .int .i64 xv, .int .i64 xa, .slice px n cx, .int .i64 xc], .agg #[.int .i64 xk, .int .i64 xf, .int .i64 xt, .int .i64 xv, .int .i64 xa, .slice py n cy, .int .i64 xc]] (grow (redrawn wr d) os) fun e w'' => e = .returned (.bool true) ∧ ∃ p : Regrown, w'' = grow (redrawn wr p.d) p.os := fun d os => Calls.regrown_of (hE _ (below_regrown wr d os))
   obtain ⟨c0, c1, c2, c3, c4, c5, c6⟩ := CK
   obtain ⟨m0, m1, m2, m3, m4, m5, m6⟩ := CM
   have k0 := cell_regrown c0
   have k1 := cell_regrown c1
   have k2 := cell_regrown c2
   have k3 := cell_regrown c3
   have k4 := cell_regrown c4
   have k5 := cell_regrown c5
   have k6 := cell_regrown c6
   have n0 := cell_regrown m0
   have n1 := cell_regrown m1
   have n2 := cell_regrown m2
   have n3 := cell_regrown m3
   have n4 := cell_regrown m4
   have n5 := cell_regrown m5
   have n6 := cell_regrown m6
   clear c0 c1 c2 c3 c4 c5 c6 m0 m1 m2 m3 m4 m5 m6 hE rx ry sx HA2 HB2
   go_upto_region 6 with fail
   refine wp_region_quiet_below (by kernel_rfl) (by kernel_rfl) ?_
   repeat (go_big_quiet_step (first | (with_reducible exact cE _ _)))
   refine wpQuiet_nil ?_
   intro _ hw'
   obtain ⟨⟨dq, osq⟩, hw''⟩ := hw'
   subst hw''
   have B6 := hH_ (hb.out.trans ((below_regrown wr dq osq).mono hb.out.size))
   generalize grow (redrawn wr dq) osq = w6 at B6 ⊢
   clear k0 k1 k2 k3 k4 k5 k6 n0 n1 n2 n3 n4 n5 n6 cE hb
   go_wp2_with fail
   go_roundw
   case rel => exact ⟨k + 1, by omega, by go_num, B6⟩
   case measure => simp [intOf]; omega
  ·
   go_wp2
   go_ret
   exact ⟨rfl, hb.out⟩
open Go.RowKit Go.Sort

structure RpHas (w : World) (B : Nat) (u : Rv) (r : Rp) : Prop where
 l : HasX w B u.l r.l
 ok : HasN w B u.ok r.ok
 ch : HasN w B u.ch r.ch
 t : u.T.map (·.m) = r.te
 te : HasM w B u.te u.T
 tl : ∀ x ∈ u.T, HasX w B x.u x.m.l
theorem RpHas.got {w : World} {B : Nat} {u : Rv} {r : Rp} (h : RpHas w B u r) : RpGot w u r := ⟨h.l.sls, h.ok.sls, h.ch.sls, h.t, h.te.sls, fun x hx => (h.tl x hx).sls⟩
theorem RpHas.low {w : World} {B B' : Nat} {u : Rv} {r : Rp} (h : RpHas w B u r) (hB : B' ≤ B) : RpHas w B' u r := ⟨h.l.low hB, h.ok.low hB, h.ch.low hB, h.t, h.te.low hB, fun x hx => (h.tl x hx).low hB⟩
def Rv.rows (u : Rv) : List Value := u.l :: u.ok :: u.ch :: u.te :: u.T.map Mx.u
theorem RpHas.from {w : World} {B : Nat} {u : Rv} {r : Rp} (h : RpHas w B u r) : ∀ v ∈ u.rows, ∀ k, v.ownBlock = some k → B ≤ k := by
 intro v hv
 simp only [Rv.rows, List.mem_cons, List.mem_map] at hv
 rcases hv with rfl | rfl | rfl | rfl | ⟨x, hx, rfl⟩
 ·
  exact h.l.from
 ·
  exact h.ok.from
 ·
  exact h.ch.from
 ·
  exact h.te.from
 ·
  exact (h.tl x hx).from
theorem RpHas.under {w : World} {B : Nat} {u : Rv} {r : Rp} (h : RpHas w B u r) : ∀ v ∈ u.rows, ∀ k, v.ownBlock = some k → k < w.heap.size := by
 intro v hv
 simp only [Rv.rows, List.mem_cons, List.mem_map] at hv
 rcases hv with rfl | rfl | rfl | rfl | ⟨x, hx, rfl⟩
 ·
  exact h.l.under
 ·
  exact h.ok.under
 ·
  exact h.ch.under
 ·
  exact h.te.under
 ·
  exact (h.tl x hx).under
theorem RpHas.off {w w' : World} {B : Nat} {u : Rv} {r : Rp} (h : RpHas w B u r) (hk : ∀ v ∈ u.rows, ∀ k, v.ownBlock = some k → w'.heap[k]? = w.heap[k]?) : RpHas w' B u r :=
 ⟨h.l.off (hk _ (by simp [Rv.rows])), h.ok.off (hk _ (by simp [Rv.rows])), h.ch.off (hk _ (by simp [Rv.rows])), h.t, h.te.off (hk _ (by simp [Rv.rows])), fun x hx => (h.tl x hx).off (hk _ (by simp only [Rv.rows, List.mem_cons, List.mem_map]; exact .inr (.inr (.inr (.inr ⟨x, hx, rfl⟩)))))⟩
theorem Sls.slen {α : Type} {E : Enc α} {w : World} {v : Value} {l : List α} (h : Sls E w v l) : ∃ a c, v = .slice a l.length c := by obtain ⟨a, c, hv, _⟩ := h; exact ⟨a, c, hv⟩
theorem RpGot.form {w : World} {u : Rv} {r : Rp} (h : RpGot w u r) : ∃ la lc oa oc ca cc ta tc T, u = ⟨.slice la r.l.length lc, .slice oa r.ok.length oc, .slice ca r.ch.length cc, .slice ta r.te.length tc, T⟩ := by
 obtain ⟨la, lc, h1⟩ := Sls.slen h.l
 obtain ⟨oa, oc, h2⟩ := Sls.slen h.ok
 obtain ⟨ca, cc, h3⟩ := Sls.slen h.ch
 obtain ⟨ta, tc, h4⟩ := Sls.slen h.te.1
 rw [h.tlen] at h4
 obtain ⟨_, _, _, _, T⟩ := u
 simp only at h1 h2 h3 h4
 subst h1; subst h2; subst h3; subst h4
 exact ⟨_, _, _, _, _, _, _, _, _, rfl⟩
theorem eqRp (r : Rp) (u u' : Rv) (w : World) (h : RpGot w u r) (h' : RpGot w u' r) (hf : Fit r) :
  Calls Tryz.prog 33 #[rpA r u, rpA r u'] w fun e w' => e = .returned (.bool true) ∧ Below w.heap.size w w' := by
 obtain ⟨aa, ac, ba, bc, ca, cc, da, dc, T, rfl⟩ := h.form
 obtain ⟨ea, ec, fa, fc, ga, gc, ha, hc, T', rfl⟩ := h'.form
 have j1 := fun W (hW : Below w.heap.size w W) => (eqTxt (.slice aa r.l.length ac) (.slice ea r.l.length ec) r.l W (h.l.kept hW) (h'.l.kept hW) hf.l.1).mono (fun e w' (hq : _ ∧ Grew W w') => (⟨hq.1, hq.2.low⟩ : e = .returned (.bool true) ∧ Below W.heap.size W w'))
 have j2 := fun W (hW : Below w.heap.size w W) => (eqNum (.slice ba r.ok.length bc) (.slice fa r.ok.length fc) r.ok W (h.ok.kept hW) (h'.ok.kept hW) hf.ok).mono (fun e w' (hq : _ ∧ Grew W w') => (⟨hq.1, hq.2.low⟩ : e = .returned (.bool true) ∧ Below W.heap.size W w'))
 have j3 := fun W (hW : Below w.heap.size w W) => (eqNum (.slice ca r.ch.length cc) (.slice ga r.ch.length gc) r.ch W (h.ch.kept hW) (h'.ch.kept hW) hf.ch).mono (fun e w' (hq : _ ∧ Grew W w') => (⟨hq.1, hq.2.low⟩ : e = .returned (.bool true) ∧ Below W.heap.size W w'))
 have j4 := fun W (hW : Below w.heap.size w W) => eqMsS (.slice da r.te.length dc) (.slice ha r.te.length hc) T T' W (h.te.kept hW) (h'.te.kept hW) (h'.t.trans h.t.symm) (fun x hx => (hf.te.2 _ (by rw [← h.t]; exact List.mem_map_of_mem hx)).1) (by rw [show T.length = r.te.length from h.tlen]; exact hf.te.1)
 unfold rpA
 simp only at j1 j2 j3 j4 ⊢
 clear h h' hf
 generalize r.l.length = nl at *
 generalize r.ok.length = no at *
 generalize r.ch.length = nc at *
 generalize r.te.length = nt at *
 have d0 : (r.id != r.id) = false := by simp
 have d1 : (r.p != r.p) = false := by simp
 have d2 : (r.v != r.v) = false := by simp
 have d3 : (r.n != r.n) = false := by simp
 have d4 : (r.la != r.la) = false := by simp
 have d6 : (r.c != r.c) = false := by simp
 go_enter Tryz.func33, Tryz.ntmps33
 go_wp2_with fail
 refine (j1 _ (((Below.refl _ w).alloc (by simp <;> omega) _).alloc (by simp <;> omega) _)).mono ?_
 rintro e w1 ⟨rfl, hb⟩
 simp at hb
 have BA : Hid (Bx w1 w.heap.size 28 #[.int .i64 r.id, .int .i64 r.p, .int .i64 r.v, .bool r.n, .int .i64 r.la, .slice aa nl ac, .int .i64 r.c, .slice ba no bc, .slice ca nc cc, .slice da nt dc]) := hH_ (Bx.low ((Bx.at _ _ rfl).alloc _) hb (by omega))
 have BC : Hid (Bx w1 (w.heap.size + 1) 28 #[.int .i64 r.id, .int .i64 r.p, .int .i64 r.v, .bool r.n, .int .i64 r.la, .slice ea nl ec, .int .i64 r.c, .slice fa no fc, .slice ga nc gc, .slice ha nt hc]) := hH_ (Bx.low (Bx.at _ _ (by simp)) hb (by omega))
 have BB : Hid (Below w.heap.size w w1) := hH_ ((((Below.refl _ w).alloc (by simp <;> omega) _).alloc (by simp <;> omega) _).trans (hb.mono (by omega)))
 clear hb j1
 have a6 := BA.out.cell 6
 have b6 := BC.out.cell 6
 have a7 := BA.out.cell 7
 have b7 := BC.out.cell 7
 have a8 := BA.out.cell 8
 have b8 := BC.out.cell 8
 have a9 := BA.out.cell 9
 have b9 := BC.out.cell 9
 go_wp2_with fail
 clear a6 b6 a7 b7 a8 b8 a9 b9
 refine (j2 _ BB.out).mono ?_
 rintro e w2 ⟨rfl, hb⟩
 replace BA : Hid (Bx w2 w.heap.size 28 #[.int .i64 r.id, .int .i64 r.p, .int .i64 r.v, .bool r.n, .int .i64 r.la, .slice aa nl ac, .int .i64 r.c, .slice ba no bc, .slice ca nc cc, .slice da nt dc]) := hH_ (Bx.kept BA.out hb)
 replace BC : Hid (Bx w2 (w.heap.size + 1) 28 #[.int .i64 r.id, .int .i64 r.p, .int .i64 r.v, .bool r.n, .int .i64 r.la, .slice ea nl ec, .int .i64 r.c, .slice fa no fc, .slice ga nc gc, .slice ha nt hc]) := hH_ (Bx.kept BC.out hb)
 replace BB := hH_ (BB.out.trans (hb.mono BB.out.size))
 clear hb j2
 have a6 := BA.out.cell 6
 have b6 := BC.out.cell 6
 have a7 := BA.out.cell 7
 have b7 := BC.out.cell 7
 have a8 := BA.out.cell 8
 have b8 := BC.out.cell 8
 have a9 := BA.out.cell 9
 have b9 := BC.out.cell 9
 go_wp2_with fail
 clear a6 b6 a7 b7 a8 b8 a9 b9
 refine (j3 _ BB.out).mono ?_
 rintro e w3 ⟨rfl, hb⟩
 replace BA : Hid (Bx w3 w.heap.size 28 #[.int .i64 r.id, .int .i64 r.p, .int .i64 r.v, .bool r.n, .int .i64 r.la, .slice aa nl ac, .int .i64 r.c, .slice ba no bc, .slice ca nc cc, .slice da nt dc]) := hH_ (Bx.kept BA.out hb)
 replace BC : Hid (Bx w3 (w.heap.size + 1) 28 #[.int .i64 r.id, .int .i64 r.p, .int .i64 r.v, .bool r.n, .int .i64 r.la, .slice ea nl ec, .int .i64 r.c, .slice fa no fc, .slice ga nc gc, .slice ha nt hc]) := hH_ (Bx.kept BC.out hb)
 replace BB := hH_ (BB.out.trans (hb.mono BB.out.size))
 clear hb j3
 have a6 := BA.out.cell 6
 have b6 := BC.out.cell 6
 have a7 := BA.out.cell 7
 have b7 := BC.out.cell 7
 have a8 := BA.out.cell 8
 have b8 := BC.out.cell 8
 have a9 := BA.out.cell 9
 have b9 := BC.out.cell 9
 go_wp2_with fail
 clear a6 b6 a7 b7 a8 b8 a9 b9
 refine (j4 _ BB.out).mono ?_
 rintro e w4 ⟨rfl, hb⟩
 replace BA : Hid (Bx w4 w.heap.size 28 #[.int .i64 r.id, .int .i64 r.p, .int .i64 r.v, .bool r.n, .int .i64 r.la, .slice aa nl ac, .int .i64 r.c, .slice ba no bc, .slice ca nc cc, .slice da nt dc]) := hH_ (Bx.kept BA.out hb)
 replace BC : Hid (Bx w4 (w.heap.size + 1) 28 #[.int .i64 r.id, .int .i64 r.p, .int .i64 r.v, .bool r.n, .int .i64 r.la, .slice ea nl ec, .int .i64 r.c, .slice fa no fc, .slice ga nc gc, .slice ha nt hc]) := hH_ (Bx.kept BC.out hb)
 replace BB := hH_ (BB.out.trans (hb.mono BB.out.size))
 clear hb j4
 go_wp2
 go_ret
 exact ⟨rfl, BB.out⟩
def cR (r : Rp) : Nat := r.l.length + r.ok.length + r.ch.length + (r.te.length * 6 + (r.te.map fun m => m.l.length).sum)
theorem cL_of {T : List Mx} {te : List Ms} (h : T.map (·.m) = te) : cL T = (te.map fun m => m.l.length).sum := by rw [← h]; unfold cL; rw [List.map_map]; rfl
structure Lens (r : Rp) : Prop where
 l : r.l.length ≤ maxLen ∧ ∀ p ∈ r.l, p.size ≤ maxLen
 ok : r.ok.length ≤ maxLen
 ch : r.ch.length ≤ maxLen
 te : r.te.length ≤ maxLen ∧ ∀ m ∈ r.te, m.l.length ≤ maxLen ∧ ∀ p ∈ m.l, p.size ≤ maxLen
theorem szNuM (v : Value) (l : List Int) (left : Int) (h0 : 0 ≤ left) (h1 : left ≤ 1048576) (w : World) (h : Sls intE w v l) : Calls Tryz.prog 81 #[v, .int .i64 left] w fun e w' => Mea left l.length True e ∧ Below w.heap.size w w' :=
 (szNu v l left h0 h1 w h).mono fun e w' h => by
  obtain ⟨rfl, h2⟩ := h
  refine ⟨⟨_, rfl, ?_, ?_, ?_⟩, h2 ▸ Below.refl _ _⟩ <;> unfold szU <;> split <;> first | omega | (intro; omega) | (intro _; exact ⟨trivial, by omega⟩)
theorem szRp (r : Rp) (u : Rv) (left : Int) (h0 : 0 ≤ left) (h1 : left ≤ 1048576) (w : World) (h : RpGot w u r) (hf : Lens r) :
  Calls Tryz.prog 29 #[rpA r u, .int .i64 left] w fun e w' => Mea left (r.l.length + r.ok.length + r.ch.length + (r.te.length + (r.te.map fun m => m.l.length).sum)) (Fit r) e ∧ Below w.heap.size w w' := by
 obtain ⟨aa, ac, ba, bc, ca, cc, da, dc, T, rfl⟩ := h.form
 have j1 := fun W (hW : Below w.heap.size w W) => szTx (.slice aa r.l.length ac) r.l left h0 h1 W (h.l.kept hW) hf.l.2 hf.l.1
 have j2 := fun z (z0 : 0 ≤ z) (z1 : z ≤ 1048576) W (hW : Below w.heap.size w W) => szNuM (.slice ba r.ok.length bc) r.ok z z0 z1 W (h.ok.kept hW)
 have j3 := fun z (z0 : 0 ≤ z) (z1 : z ≤ 1048576) W (hW : Below w.heap.size w W) => szNuM (.slice ca r.ch.length cc) r.ch z z0 z1 W (h.ch.kept hW)
 have hT : ∀ x ∈ T, x.m ∈ r.te := fun x hx => by rw [← h.t]; exact List.mem_map_of_mem hx
 have htl : T.length = r.te.length := h.tlen
 have j4 := fun z (z0 : 0 ≤ z) (z1 : z ≤ 1048576) W (hW : Below w.heap.size w W) => szMsS (.slice da r.te.length dc) T z z0 z1 W (h.te.kept hW) (fun x hx => hf.te.2 _ (hT x hx)) (by rw [htl]; exact hf.te.1)
 have HT : Hid (T.map (·.m) = r.te) := h.t
 have HTL : Hid (T.length = r.te.length) := htl
 have HCL : Hid (cL T = (r.te.map fun m => m.l.length).sum) := hH_ (cL_of h.t)
 unfold rpA
 simp only at j1 j2 j3 j4 ⊢
 clear h hf htl
 obtain ⟨nl, hnl⟩ : ∃ n, n = r.l.length := ⟨_, rfl⟩
 obtain ⟨no, hno⟩ : ∃ n, n = r.ok.length := ⟨_, rfl⟩
 obtain ⟨nc, hnc⟩ : ∃ n, n = r.ch.length := ⟨_, rfl⟩
 obtain ⟨nt, hnt⟩ : ∃ n, n = r.te.length := ⟨_, rfl⟩
 rw [← hnl] at j1
 rw [← hno] at j2
 rw [← hnc] at j3
 rw [← hnt] at j4
 have HNL : Hid (nl = r.l.length ∧ no = r.ok.length ∧ nc = r.ch.length ∧ nt = r.te.length) := ⟨hnl, hno, hnc, hnt⟩
 rw [← hnl, ← hno, ← hnc, ← hnt]
 clear hnl hno hnc hnt
 go_enter Tryz.func29, Tryz.ntmps29
 go_wp2_with fail
 refine (j1 _ ((Below.refl _ w).alloc (by simp <;> omega) _)).mono ?_
 rintro e w1 ⟨⟨z1, rfl, q1, q2, q3⟩, hb⟩
 simp at hb
 have BA : Hid (Bx w1 w.heap.size 53 #[.int .i64 r.id, .int .i64 r.p, .int .i64 r.v, .bool r.n, .int .i64 r.la, .slice aa nl ac, .int .i64 r.c, .slice ba no bc, .slice ca nc cc, .slice da nt dc]) := hH_ (Bx.low (Bx.at _ _ rfl) hb (by omega))
 have BB : Hid (Below w.heap.size w w1) := hH_ (((Below.refl _ w).alloc (by simp <;> omega) _).trans (hb.mono (by omega)))
 have Q1 : Hid (0 ≤ z1 → Sm r.l ∧ (nl : Int) + z1 ≤ left) := hH_ (q3)
 clear hb j1 q3
 by_cases hn0 : z1 < 0
 ·
  go_wp2
  go_ret
  exact ⟨⟨_, rfl, by omega, fun _ => rfl, fun h => by omega⟩, BB.out⟩
 have a7 := BA.out.cell 7
 go_wp2_with fail
 clear a7
 refine (j2 z1 (by omega) (by omega) _ BB.out).mono ?_
 rintro e w2 ⟨⟨z2, rfl, q10, q20, q3⟩, hb⟩
 replace BA : Hid (Bx w2 w.heap.size 53 #[.int .i64 r.id, .int .i64 r.p, .int .i64 r.v, .bool r.n, .int .i64 r.la, .slice aa nl ac, .int .i64 r.c, .slice ba no bc, .slice ca nc cc, .slice da nt dc]) := hH_ (Bx.kept BA.out hb)
 replace BB := hH_ (BB.out.trans (hb.mono BB.out.size))
 have Q2 : Hid (0 ≤ z2 → _) := hH_ (q3)
 clear hb j2 q3
 by_cases hn1 : z2 < 0
 ·
  go_wp2
  go_ret
  exact ⟨⟨_, rfl, by omega, fun _ => rfl, fun h => by omega⟩, BB.out⟩
 have a8 := BA.out.cell 8
 go_wp2_with fail
 clear a8
 refine (j3 z2 (by omega) (by omega) _ BB.out).mono ?_
 rintro e w3 ⟨⟨z3, rfl, q11, q21, q3⟩, hb⟩
 replace BA : Hid (Bx w3 w.heap.size 53 #[.int .i64 r.id, .int .i64 r.p, .int .i64 r.v, .bool r.n, .int .i64 r.la, .slice aa nl ac, .int .i64 r.c, .slice ba no bc, .slice ca nc cc, .slice da nt dc]) := hH_ (Bx.kept BA.out hb)
 replace BB := hH_ (BB.out.trans (hb.mono BB.out.size))
 have Q3 : Hid (0 ≤ z3 → _) := hH_ (q3)
 clear hb j3 q3
 by_cases hn2 : z3 < 0
 ·
  go_wp2
  go_ret
  exact ⟨⟨_, rfl, by omega, fun _ => rfl, fun h => by omega⟩, BB.out⟩
 have a9 := BA.out.cell 9
 go_wp2_with fail
 clear a9
 refine (j4 z3 (by omega) (by omega) _ BB.out).mono ?_
 rintro e w4 ⟨⟨z4, rfl, q12, q22, q3⟩, hb⟩
 replace BA : Hid (Bx w4 w.heap.size 53 #[.int .i64 r.id, .int .i64 r.p, .int .i64 r.v, .bool r.n, .int .i64 r.la, .slice aa nl ac, .int .i64 r.c, .slice ba no bc, .slice ca nc cc, .slice da nt dc]) := hH_ (Bx.kept BA.out hb)
 replace BB := hH_ (BB.out.trans (hb.mono BB.out.size))
 have Q4 : Hid (0 ≤ z4 → _) := hH_ (q3)
 clear hb j4 q3
 by_cases hn3 : z4 < 0
 ·
  go_wp2
  go_ret
  exact ⟨⟨_, rfl, by omega, fun _ => rfl, fun h => by omega⟩, BB.out⟩
 go_wp2
 go_ret
 have R1 := Q1.out (by omega)
 have R2 := Q2.out (by omega)
 have R3 := Q3.out (by omega)
 have R4 := Q4.out (by omega)
 have e1 := HNL.out
 have e2 := HTL.out
 have e3 := HCL.out
 have R5 := R4.1.2
 refine ⟨⟨z4, rfl, by omega, fun h => by omega, fun _ => ⟨⟨R1.1, by omega, by omega, by omega, fun m hm => ?_⟩, by omega⟩⟩, BB.out⟩
 rw [← HT.out] at hm
 obtain ⟨x, hx, rfl⟩ := List.mem_map.1 hm
 exact R5 x hx
open Go.RowKit Go.Sort

def RpAp (u : Rv) : Prop := u.rows.Pairwise ap
theorem apI {v v' : Value} {C : Nat} (h1 : ∀ k, v.ownBlock = some k → k < C) (h2 : ∀ k, v'.ownBlock = some k → C ≤ k) : ap v v' := fun k h h' => by have := h1 k h; have := h2 k h'; omega
theorem toRp (r : Rp) (u : Rv) (w : World) (h : RpGot w u r) (hf : Fit r) :
  Calls Tryz.prog 31 #[rpA r u] w fun e w' => ∃ u', e = .returned (rpA r u') ∧ RpHas w' w.heap.size u' r ∧ RpAp u' ∧ Below w.heap.size w w' := by
 obtain ⟨aa, ac, ba, bc, ca, cc, da, dc, T, rfl⟩ := h.form
 have j1 := fun W (hW : Below w.heap.size w W) => toTxt (.slice aa r.l.length ac) r.l W (h.l.kept hW) hf.l.1
 have j2 := fun W (hW : Below w.heap.size w W) => toNum (.slice ba r.ok.length bc) r.ok W (h.ok.kept hW) hf.ok
 have j3 := fun W (hW : Below w.heap.size w W) => toNum (.slice ca r.ch.length cc) r.ch W (h.ch.kept hW) hf.ch
 have htl : T.length = r.te.length := h.tlen
 have HT : Hid (T.map (·.m) = r.te) := h.t
 have j4 := fun W (hW : Below w.heap.size w W) => toMsS (.slice da r.te.length dc) T W (h.te.kept hW) (fun x hx => (hf.te.2 _ (by rw [← h.t]; exact List.mem_map_of_mem hx)).1) (by rw [htl]; exact hf.te.1)
 unfold rpA
 simp only at j1 j2 j3 j4 ⊢
 have HTL : Hid (T.length = r.te.length) := htl
 clear h hf htl
 go_enter Tryz.func31, Tryz.ntmps31
 go_wp2_with fail
 refine (j1 _ (by repeat (first | exact Below.refl _ _ | refine Below.alloc ?_ (by simp <;> omega) _ | refine Below.setCell ?_ (by simp <;> omega) _))).mono ?_
 rintro e w1 ⟨u1, rfl, ho, hb⟩
 obtain ⟨a1, c1, rfl, _⟩ := ho.form
 simp [go_sem] at hb ho
 have BZ : Hid (Bx w1 (w.heap.size + 1 + 1) 28 #[.int .i64 r.id, .int .i64 r.p, .int .i64 r.v, .bool r.n, .int .i64 r.la, .slice none 0 0, .int .i64 0, .slice none 0 0, .slice none 0 0, .slice none 0 0]) := hH_ (Bx.low (Bx.at _ _ (by simp)) hb (by omega))
 have BY : Hid (Bx w1 (w.heap.size + 1) 28 #[.int .i64 0, .int .i64 0, .int .i64 0, .bool false, .int .i64 0, .slice none 0 0, .int .i64 0, .slice none 0 0, .slice none 0 0, .slice none 0 0]) := hH_ (Bx.low ((Bx.at _ _ (by simp)).alloc _) hb (by omega))
 have BX : Hid (Bx w1 w.heap.size 53 #[.int .i64 r.id, .int .i64 r.p, .int .i64 r.v, .bool r.n, .int .i64 r.la, .slice aa r.l.length ac, .int .i64 r.c, .slice ba r.ok.length bc, .slice ca r.ch.length cc, .slice da r.te.length dc]) := hH_ (Bx.low (((Bx.at _ _ rfl).alloc _).alloc _) hb (by omega))
 have BB : Hid (Below w.heap.size w w1) := hH_ (((((Below.refl _ w).alloc (by simp <;> omega) _).alloc (by simp <;> omega) _).alloc (by simp <;> omega) _).trans (hb.mono (by omega)))
 have O1 : Hid (OwnsX w1 (w.heap.size + 3) (.slice a1 r.l.length c1) r.l) := ho
 have S1 : Hid (w.heap.size + 3 ≤ w1.heap.size) := (show w.heap.size + 3 ≤ w1.heap.size by have := hb.size; simp at this; omega)
 have UU1 : Hid (∀ k, (Value.slice a1 r.l.length c1).ownBlock = some k → k < w1.heap.size) := hH_ (OwnsE.under O1.out)
 clear hb ho j1
 have z5 := BZ.out.cell 5
 have zf5 := BZ.out.free 5
 have z6 := BZ.out.cell 6
 have zf6 := BZ.out.free 6
 have x6 := BX.out.cell 6
 have x7 := BX.out.cell 7
 go_wp2_with fail
 clear z5 zf5 z6 zf6 x6 x7
 refine (j2 _ (((BB.out).setCell (p := ⟨w.heap.size + 1 + 1, 5, none⟩) (by simp <;> omega) _).setCell (p := ⟨w.heap.size + 1 + 1, 6, none⟩) (by simp <;> omega) _)).mono ?_
 rintro e w2 ⟨u2, rfl, ho, hb⟩
 obtain ⟨a2, c2, rfl, _⟩ := ho.form
 replace BZ : Hid (Bx w2 (w.heap.size + 1 + 1) 28 #[.int .i64 r.id, .int .i64 r.p, .int .i64 r.v, .bool r.n, .int .i64 r.la, .slice a1 r.l.length c1, .int .i64 r.c, .slice none 0 0, .slice none 0 0, .slice none 0 0]) := hH_ (Bx.kept (Bx.put (Bx.put (BZ.out) 5 _) 6 _) hb)
 replace BY : Hid (Bx w2 (w.heap.size + 1) 28 #[.int .i64 0, .int .i64 0, .int .i64 0, .bool false, .int .i64 0, .slice none 0 0, .int .i64 0, .slice none 0 0, .slice none 0 0, .slice none 0 0]) := hH_ (Bx.kept (Bx.other (Bx.other (BY.out) 5 _ (by omega)) 6 _ (by omega)) hb)
 replace BX : Hid (Bx w2 w.heap.size 53 #[.int .i64 r.id, .int .i64 r.p, .int .i64 r.v, .bool r.n, .int .i64 r.la, .slice aa r.l.length ac, .int .i64 r.c, .slice ba r.ok.length bc, .slice ca r.ch.length cc, .slice da r.te.length dc]) := hH_ (Bx.kept (Bx.other (Bx.other (BX.out) 5 _ (by omega)) 6 _ (by omega)) hb)
 have UO1 : ∀ k, (Value.slice a1 r.l.length c1).ownBlock = some k → w.heap.size + 3 ≤ k ∧ k < w1.heap.size := fun k hk => ⟨by have := OwnsE.from O1.out k hk; have:=S1.out;omega, OwnsE.under O1.out k hk⟩
 replace O1 : Hid (OwnsX w2 (w.heap.size + 3) (.slice a1 r.l.length c1) r.l) := hH_ (OwnsE.kept (OwnsE.other (OwnsE.other (O1.out) _ _ (fun k hk => by have := UO1 k hk; simp <;> omega)) _ _ (fun k hk => by have := UO1 k hk; simp <;> omega)) hb)
 clear UO1
 have hs : ∀ k, w.heap.size + 3 ≤ k → True := fun _ _ => trivial
 have S2 : Hid (w1.heap.size ≤ w2.heap.size) := by have := hb.size; simp at this; exact (show Hid _ from this)
 replace BB : Hid (Below w.heap.size w w2) := hH_ ((((BB.out).setCell (p := ⟨w.heap.size + 1 + 1, 5, none⟩) (by simp <;> omega) _).setCell (p := ⟨w.heap.size + 1 + 1, 6, none⟩) (by simp <;> omega) _).trans (hb.mono (by have:=S1.out;have := BB.out.size; simp <;> omega)))
 have O2 : Hid (OwnsN w2 w1.heap.size (.slice a2 r.ok.length c2) r.ok) := by simp at ho; exact (show Hid _ from ho)
 have UU2 : Hid (∀ k, (Value.slice a2 r.ok.length c2).ownBlock = some k → k < w2.heap.size) := hH_ (OwnsE.under O2.out)
 clear hb ho hs j2
 have z7 := BZ.out.cell 7
 have zf7 := BZ.out.free 7
 have x8 := BX.out.cell 8
 go_wp2_with fail
 clear z7 zf7 x8
 refine (j3 _ ((BB.out).setCell (p := ⟨w.heap.size + 1 + 1, 7, none⟩) (by simp <;> omega) _)).mono ?_
 rintro e w3 ⟨u3, rfl, ho, hb⟩
 obtain ⟨a3, c3, rfl, _⟩ := ho.form
 replace BZ : Hid (Bx w3 (w.heap.size + 1 + 1) 28 #[.int .i64 r.id, .int .i64 r.p, .int .i64 r.v, .bool r.n, .int .i64 r.la, .slice a1 r.l.length c1, .int .i64 r.c, .slice a2 r.ok.length c2, .slice none 0 0, .slice none 0 0]) := hH_ (Bx.kept (Bx.put (BZ.out) 7 _) hb)
 replace BY : Hid (Bx w3 (w.heap.size + 1) 28 #[.int .i64 0, .int .i64 0, .int .i64 0, .bool false, .int .i64 0, .slice none 0 0, .int .i64 0, .slice none 0 0, .slice none 0 0, .slice none 0 0]) := hH_ (Bx.kept (Bx.other (BY.out) 7 _ (by omega)) hb)
 replace BX : Hid (Bx w3 w.heap.size 53 #[.int .i64 r.id, .int .i64 r.p, .int .i64 r.v, .bool r.n, .int .i64 r.la, .slice aa r.l.length ac, .int .i64 r.c, .slice ba r.ok.length bc, .slice ca r.ch.length cc, .slice da r.te.length dc]) := hH_ (Bx.kept (Bx.other (BX.out) 7 _ (by omega)) hb)
 have UO1 : ∀ k, (Value.slice a1 r.l.length c1).ownBlock = some k → w.heap.size + 3 ≤ k ∧ k < w2.heap.size := fun k hk => ⟨by have := OwnsE.from O1.out k hk; have:=S1.out;have:=S2.out;omega, OwnsE.under O1.out k hk⟩
 replace O1 : Hid (OwnsX w3 (w.heap.size + 3) (.slice a1 r.l.length c1) r.l) := hH_ (OwnsE.kept (OwnsE.other (O1.out) _ _ (fun k hk => by have := UO1 k hk; simp <;> omega)) hb)
 clear UO1
 have UO2 : ∀ k, (Value.slice a2 r.ok.length c2).ownBlock = some k → w.heap.size + 3 ≤ k ∧ k < w2.heap.size := fun k hk => ⟨by have := OwnsE.from O2.out k hk; have:=S1.out;have:=S2.out;omega, OwnsE.under O2.out k hk⟩
 replace O2 : Hid (OwnsN w3 (w1.heap.size) (.slice a2 r.ok.length c2) r.ok) := hH_ (OwnsE.kept (OwnsE.other (O2.out) _ _ (fun k hk => by have := UO2 k hk; simp <;> omega)) hb)
 clear UO2
 have hs : ∀ k, w.heap.size + 3 ≤ k → True := fun _ _ => trivial
 have S3 : Hid (w2.heap.size ≤ w3.heap.size) := by have := hb.size; simp at this; exact (show Hid _ from this)
 replace BB : Hid (Below w.heap.size w w3) := hH_ (((BB.out).setCell (p := ⟨w.heap.size + 1 + 1, 7, none⟩) (by simp <;> omega) _).trans (hb.mono (by have:=S1.out;have := BB.out.size; simp <;> omega)))
 have O3 : Hid (OwnsN w3 w2.heap.size (.slice a3 r.ch.length c3) r.ch) := by simp at ho; exact (show Hid _ from ho)
 have UU3 : Hid (∀ k, (Value.slice a3 r.ch.length c3).ownBlock = some k → k < w3.heap.size) := hH_ (OwnsE.under O3.out)
 clear hb ho hs j3
 have z8 := BZ.out.cell 8
 have zf8 := BZ.out.free 8
 have x9 := BX.out.cell 9
 go_wp2_with fail
 clear z8 zf8 x9
 refine (j4 _ ((BB.out).setCell (p := ⟨w.heap.size + 1 + 1, 8, none⟩) (by simp <;> omega) _)).mono ?_
 rintro e w4 ⟨u4, M, rfl, ho, hsm, hlg, h4k, hb⟩
 obtain ⟨a4, c4, rfl, _⟩ := ho.form
 replace BZ : Hid (Bx w4 (w.heap.size + 1 + 1) 28 #[.int .i64 r.id, .int .i64 r.p, .int .i64 r.v, .bool r.n, .int .i64 r.la, .slice a1 r.l.length c1, .int .i64 r.c, .slice a2 r.ok.length c2, .slice a3 r.ch.length c3, .slice none 0 0]) := hH_ (Bx.kept (Bx.put (BZ.out) 8 _) hb)
 replace BY : Hid (Bx w4 (w.heap.size + 1) 28 #[.int .i64 0, .int .i64 0, .int .i64 0, .bool false, .int .i64 0, .slice none 0 0, .int .i64 0, .slice none 0 0, .slice none 0 0, .slice none 0 0]) := hH_ (Bx.kept (Bx.other (BY.out) 8 _ (by omega)) hb)
 replace BX : Hid (Bx w4 w.heap.size 53 #[.int .i64 r.id, .int .i64 r.p, .int .i64 r.v, .bool r.n, .int .i64 r.la, .slice aa r.l.length ac, .int .i64 r.c, .slice ba r.ok.length bc, .slice ca r.ch.length cc, .slice da r.te.length dc]) := hH_ (Bx.kept (Bx.other (BX.out) 8 _ (by omega)) hb)
 have UO1 : ∀ k, (Value.slice a1 r.l.length c1).ownBlock = some k → w.heap.size + 3 ≤ k ∧ k < w3.heap.size := fun k hk => ⟨by have := OwnsE.from O1.out k hk; have:=S1.out;have:=S2.out;have:=S3.out;omega, OwnsE.under O1.out k hk⟩
 replace O1 : Hid (OwnsX w4 (w.heap.size + 3) (.slice a1 r.l.length c1) r.l) := hH_ (OwnsE.kept (OwnsE.other (O1.out) _ _ (fun k hk => by have := UO1 k hk; simp <;> omega)) hb)
 clear UO1
 have UO2 : ∀ k, (Value.slice a2 r.ok.length c2).ownBlock = some k → w.heap.size + 3 ≤ k ∧ k < w3.heap.size := fun k hk => ⟨by have := OwnsE.from O2.out k hk; have:=S1.out;have:=S2.out;have:=S3.out;omega, OwnsE.under O2.out k hk⟩
 replace O2 : Hid (OwnsN w4 (w1.heap.size) (.slice a2 r.ok.length c2) r.ok) := hH_ (OwnsE.kept (OwnsE.other (O2.out) _ _ (fun k hk => by have := UO2 k hk; simp <;> omega)) hb)
 clear UO2
 have UO3 : ∀ k, (Value.slice a3 r.ch.length c3).ownBlock = some k → w.heap.size + 3 ≤ k ∧ k < w3.heap.size := fun k hk => ⟨by have := OwnsE.from O3.out k hk; have:=S1.out;have:=S2.out;have:=S3.out;omega, OwnsE.under O3.out k hk⟩
 replace O3 : Hid (OwnsN w4 (w2.heap.size) (.slice a3 r.ch.length c3) r.ch) := hH_ (OwnsE.kept (OwnsE.other (O3.out) _ _ (fun k hk => by have := UO3 k hk; simp <;> omega)) hb)
 clear UO3
 have hs : ∀ k, w.heap.size + 3 ≤ k → True := fun _ _ => trivial
 have S4 : Hid (w3.heap.size ≤ w4.heap.size) := by have := hb.size; simp at this; exact (show Hid _ from this)
 replace BB : Hid (Below w.heap.size w w4) := hH_ (((BB.out).setCell (p := ⟨w.heap.size + 1 + 1, 8, none⟩) (by simp <;> omega) _).trans (hb.mono (by have:=S1.out;have := BB.out.size; simp <;> omega)))
 simp at ho hlg h4k
 have hML : M.length = r.te.length := by rw [hsm.len]; exact HTL.out
 have O4 : Hid (HasM w4 w3.heap.size (.slice a4 M.length c4) M) := ho
 have L4 : Hid (Logs w4 (w3.heap.size + 1) M) := hlg
 have K4 : Hid (∀ k, (Value.slice a4 M.length c4).ownBlock = some k → k = w3.heap.size) := h4k
 have HM : Hid (M.map (·.m) = r.te) := hH_ ((show M.map (·.m) = T.map (·.m) from hsm).trans HT.out)
 have HML : Hid (M.length = r.te.length) := hML
 clear hb ho hs hlg h4k hsm hML j4
 have z0 := BZ.out.cell 0
 have y0 := BY.out.cell 0
 have yf0 := BY.out.free 0
 have z1 := BZ.out.cell 1
 have y1 := BY.out.cell 1
 have yf1 := BY.out.free 1
 have z2 := BZ.out.cell 2
 have y2 := BY.out.cell 2
 have yf2 := BY.out.free 2
 have z3 := BZ.out.cell 3
 have y3 := BY.out.cell 3
 have yf3 := BY.out.free 3
 have z4 := BZ.out.cell 4
 have y4 := BY.out.cell 4
 have yf4 := BY.out.free 4
 have z5 := BZ.out.cell 5
 have y5 := BY.out.cell 5
 have yf5 := BY.out.free 5
 have z6 := BZ.out.cell 6
 have y6 := BY.out.cell 6
 have yf6 := BY.out.free 6
 have z7 := BZ.out.cell 7
 have y7 := BY.out.cell 7
 have yf7 := BY.out.free 7
 have z8 := BZ.out.cell 8
 have y8 := BY.out.cell 8
 have yf8 := BY.out.free 8
 have z9 := BZ.out.cell 9
 have y9 := BY.out.cell 9
 have yf9 := BY.out.free 9
 have zf9 := BZ.out.free 9
 clear BX BY BZ
 go_wp2
 have s1 := S1.out
 have s2 := S2.out
 have s3 := S3.out
 have s4 := S4.out
 have F1 := OwnsE.from O1.out
 have F2 := OwnsE.from O2.out
 have F3 := OwnsE.from O3.out
 have F4 := HasE.from O4.out
 refine bodyPost_ret (v := .agg #[.int .i64 r.id, .int .i64 r.p, .int .i64 r.v, .bool r.n, .int .i64 r.la, .slice a1 r.l.length c1, .int .i64 r.c, .slice a2 r.ok.length c2, .slice a3 r.ch.length c3, .slice a4 M.length c4]) (by simp [results, Tryz.results31, go_sem, y0, y1, y2, y3, y4, y5, y6, y7, y8, y9]) rfl ⟨⟨.slice a1 r.l.length c1, .slice a2 r.ok.length c2, .slice a3 r.ch.length c3, .slice a4 M.length c4, M⟩, rfl, ?_, ?_, ?_⟩
 ·
  refine RpHas.off (w := w4) ⟨O1.out.has.low (by omega), O2.out.has.low (by have := BB.out.size; omega), O3.out.has.low (by have := BB.out.size; omega), HM.out, O4.out.low (by have := BB.out.size; omega), fun x hx => (L4.out.l x hx).low (by have := BB.out.size; omega)⟩ ?_
  intro v hv k hk
  have hk3 : w.heap.size + 3 ≤ k := by
   simp only [Rv.rows, List.mem_cons, List.mem_map] at hv
   rcases hv with rfl | rfl | rfl | rfl | ⟨x, hx, rfl⟩
   ·
    exact F1 k hk
   ·
    have := F2 k hk; omega
   ·
    have := F3 k hk; omega
   ·
    have := F4 k hk; omega
   ·
    have := (L4.out.l x hx).from k hk; omega
  repeat (refine (Below.heap_setCell _ _ _ _ (by simp <;> omega)).trans ?_)
  rfl
 ·
  have U1 := fun (C : Nat) (hC : w1.heap.size ≤ C) k hk => Nat.lt_of_lt_of_le (UU1.out k hk) hC
  have U2 := UU2.out
  have U3 := UU3.out
  have U4 := K4.out
  show List.Pairwise ap (_ :: _ :: _ :: _ :: M.map Mx.u)
  have hM : ∀ v ∈ M.map Mx.u, ∀ k, v.ownBlock = some k → w3.heap.size + 1 ≤ k := fun v hv k hk => by
   obtain ⟨x, hx, rfl⟩ := List.mem_map.1 hv
   exact (L4.out.l x hx).from k hk
  refine List.Pairwise.cons (fun v hv => ?_) (List.Pairwise.cons (fun v hv => ?_) (List.Pairwise.cons (fun v hv => ?_) (List.Pairwise.cons (fun v hv => ?_) L4.out.ap)))
  ·
   simp only [List.mem_cons] at hv
   rcases hv with rfl | rfl | rfl | hv
   ·
    exact apI UU1.out F2
   ·
    exact apI UU1.out (fun k hk => by have := F3 k hk; omega)
   ·
    exact apI UU1.out (fun k hk => by have := F4 k hk; omega)
   ·
    exact apI UU1.out (fun k hk => by have := hM v hv k hk; omega)
  ·
   simp only [List.mem_cons] at hv
   rcases hv with rfl | rfl | hv
   ·
    exact apI U2 F3
   ·
    exact apI U2 (fun k hk => by have := F4 k hk; omega)
   ·
    exact apI U2 (fun k hk => by have := hM v hv k hk; omega)
  ·
   simp only [List.mem_cons] at hv
   rcases hv with rfl | hv
   ·
    exact apI U3 F4
   ·
    exact apI U3 (fun k hk => by have := hM v hv k hk; omega)
  ·
   exact apI (C := w3.heap.size + 1) (fun k hk => by have := U4 k hk; omega) (fun k hk => hM v hv k hk)
 ·
  repeat (refine Below.setCell ?_ (by simp <;> omega) _)
  exact BB.out

def mkRp (s : Nat) (r : Rp) (T : List Mx) : Rp := { r with l := marksX s r.l.length, ok := marksU (s + r.l.length) r.ok.length, ch := marksU (s + r.l.length + r.ok.length) r.ch.length, te := (mkTe (s + r.l.length + r.ok.length + r.ch.length) T).map (·.m) }
def mkRv (s : Nat) (r : Rp) (u : Rv) : Rv := { u with T := mkTe (s + r.l.length + r.ok.length + r.ch.length) u.T }
theorem mkRv_rows (s : Nat) (r : Rp) (u : Rv) : (mkRv s r u).rows = u.rows := by unfold mkRv Rv.rows; simp only [mkTe_u]
open Go.RowKit Go.Sort

theorem cT_of {T : List Mx} {te : List Ms} (h : T.map (·.m) = te) : cT T = te.length * 6 + (te.map fun m => m.l.length).sum := by
 unfold cT
 rw [cL_of h, ← h, List.length_map]
theorem RpAp.parts {u : Rv} (h : RpAp u) : (∀ v ∈ u.ok :: u.ch :: u.te :: u.T.map Mx.u, ap u.l v) ∧ (∀ v ∈ u.ch :: u.te :: u.T.map Mx.u, ap u.ok v) ∧ (∀ v ∈ u.te :: u.T.map Mx.u, ap u.ch v) ∧ (∀ v ∈ u.T.map Mx.u, ap u.te v) ∧ (u.T.map Mx.u).Pairwise ap := by
 unfold RpAp Rv.rows at h
 obtain ⟨h1, h⟩ := List.pairwise_cons.1 h
 obtain ⟨h2, h⟩ := List.pairwise_cons.1 h
 obtain ⟨h3, h⟩ := List.pairwise_cons.1 h
 obtain ⟨h4, h⟩ := List.pairwise_cons.1 h
 exact ⟨h1, h2, h3, h4, h⟩
theorem markRp (s : Nat) (hs1 : 1 ≤ s) (r : Rp) (u : Rv) (B : Nat) (hs2 : s + cR r ≤ 50000000) (w : World) (h : RpHas w B u r) (hap : RpAp u) (hf : Fit r) :
  Calls Tryz.prog 36 #[rpA r u, .int .i64 (s : Int)] w fun e w' => e = .returned (.int .i64 ((s : Int) + (cR r : Int))) ∧ RpHas w' B (mkRv s r u) (mkRp s r u.T) ∧ ChS (Bl u.rows) w w' := by
 obtain ⟨aa, ac, ba, bc, ca, cc, da, dc, T, rfl⟩ := h.got.form
 obtain ⟨p1, p2, p3, p4, p5⟩ := hap.parts
 have hcr : cR r = r.l.length + r.ok.length + r.ch.length + cT T := by unfold cR; rw [cT_of h.t]
 have hll := hf.l.1
 have htl : T.length = r.te.length := h.got.tlen
 have hnt := hf.te.1
 have j1 := fun W hW => markTxt s hs1 (by omega) (.slice aa r.l.length ac) r.l B W hW hll
 have j2 := fun W hW => markNu (s + r.l.length) (by omega) (.slice ba r.ok.length bc) r.ok B W hW hf.ok
 have j3 := fun W hW => markNu (s + r.l.length + r.ok.length) (by omega) (.slice ca r.ch.length cc) r.ch B W hW hf.ch
 have j4 := fun W hW hL => markMsS (s + r.l.length + r.ok.length + r.ch.length) (by omega) (.slice da T.length dc) T (by omega) B W hW hL (fun x hx => by rw [htl]; exact p4 _ (List.mem_map_of_mem hx)) (fun x hx => (hf.te.2 _ (by rw [← h.t]; exact List.mem_map_of_mem hx)).1) (by omega)
 have hTE : HasM w B (.slice da T.length dc) T := by rw [htl]; exact h.te
 have AA : Bx (w.alloc (.cells #[.int .i64 r.id, .int .i64 r.p, .int .i64 r.v, .bool r.n, .int .i64 r.la, .slice aa r.l.length ac, .int .i64 r.c, .slice ba r.ok.length bc, .slice ca r.ch.length cc, .slice da r.te.length dc] 28)) w.heap.size 28 #[.int .i64 r.id, .int .i64 r.p, .int .i64 r.v, .bool r.n, .int .i64 r.la, .slice aa r.l.length ac, .int .i64 r.c, .slice ba r.ok.length bc, .slice ca r.ch.length cc, .slice da r.te.length dc] := Bx.new _ _ _
 have hund := h.under
 have HL : Hid (HasX (w.alloc (.cells #[.int .i64 r.id, .int .i64 r.p, .int .i64 r.v, .bool r.n, .int .i64 r.la, .slice aa r.l.length ac, .int .i64 r.c, .slice ba r.ok.length bc, .slice ca r.ch.length cc, .slice da r.te.length dc] 28)) B (.slice aa r.l.length ac) r.l) := h.l.kept ((Below.refl _ w).alloc (Nat.le_refl _) _)
 have HO : Hid (HasN (w.alloc (.cells #[.int .i64 r.id, .int .i64 r.p, .int .i64 r.v, .bool r.n, .int .i64 r.la, .slice aa r.l.length ac, .int .i64 r.c, .slice ba r.ok.length bc, .slice ca r.ch.length cc, .slice da r.te.length dc] 28)) B (.slice ba r.ok.length bc) r.ok) := h.ok.kept ((Below.refl _ w).alloc (Nat.le_refl _) _)
 have HC : Hid (HasN (w.alloc (.cells #[.int .i64 r.id, .int .i64 r.p, .int .i64 r.v, .bool r.n, .int .i64 r.la, .slice aa r.l.length ac, .int .i64 r.c, .slice ba r.ok.length bc, .slice ca r.ch.length cc, .slice da r.te.length dc] 28)) B (.slice ca r.ch.length cc) r.ch) := h.ch.kept ((Below.refl _ w).alloc (Nat.le_refl _) _)
 have HE : Hid (HasM (w.alloc (.cells #[.int .i64 r.id, .int .i64 r.p, .int .i64 r.v, .bool r.n, .int .i64 r.la, .slice aa r.l.length ac, .int .i64 r.c, .slice ba r.ok.length bc, .slice ca r.ch.length cc, .slice da r.te.length dc] 28)) B (.slice da T.length dc) T) := hTE.kept ((Below.refl _ w).alloc (Nat.le_refl _) _)
 have HG : Hid (Logs (w.alloc (.cells #[.int .i64 r.id, .int .i64 r.p, .int .i64 r.v, .bool r.n, .int .i64 r.la, .slice aa r.l.length ac, .int .i64 r.c, .slice ba r.ok.length bc, .slice ca r.ch.length cc, .slice da r.te.length dc] 28)) B T) := (show Logs w B T from ⟨h.tl, p5⟩).kept ((Below.refl _ w).alloc (Nat.le_refl _) _)
 have XA : Hid (Bx (w.alloc (.cells #[.int .i64 r.id, .int .i64 r.p, .int .i64 r.v, .bool r.n, .int .i64 r.la, .slice aa r.l.length ac, .int .i64 r.c, .slice ba r.ok.length bc, .slice ca r.ch.length cc, .slice da r.te.length dc] 28)) w.heap.size 28 #[.int .i64 r.id, .int .i64 r.p, .int .i64 r.v, .bool r.n, .int .i64 r.la, .slice aa r.l.length ac, .int .i64 r.c, .slice ba r.ok.length bc, .slice ca r.ch.length cc, .slice da r.te.length dc]) := AA
 have KC : Hid (ChS (Bl (Rv.rows ⟨.slice aa r.l.length ac, .slice ba r.ok.length bc, .slice ca r.ch.length cc, .slice da T.length dc, T⟩)) w (w.alloc (.cells #[.int .i64 r.id, .int .i64 r.p, .int .i64 r.v, .bool r.n, .int .i64 r.la, .slice aa r.l.length ac, .int .i64 r.c, .slice ba r.ok.length bc, .slice ca r.ch.length cc, .slice da r.te.length dc] 28))) := ChS.of_below ((Below.refl _ w).alloc (Nat.le_refl _) _)
 have HT : Hid (T.map (·.m) = r.te) := h.t
 have HTL : Hid (T.length = r.te.length) := htl
 have HCR : Hid (cR r = r.l.length + r.ok.length + r.ch.length + cT T) := hcr
 have P1 : Hid (∀ v ∈ (.slice ba r.ok.length bc) :: (.slice ca r.ch.length cc) :: (.slice da T.length dc) :: T.map Mx.u, ap (.slice aa r.l.length ac) v) := by show ∀ _, _; rw [htl]; exact p1
 have P2 : Hid (∀ v ∈ (.slice ca r.ch.length cc) :: (.slice da T.length dc) :: T.map Mx.u, ap (.slice ba r.ok.length bc) v) := by show ∀ _, _; rw [htl]; exact p2
 have P3 : Hid (∀ v ∈ (.slice da T.length dc) :: T.map Mx.u, ap (.slice ca r.ch.length cc) v) := by show ∀ _, _; rw [htl]; exact p3
 have UN : Hid (∀ v ∈ Rv.rows ⟨.slice aa r.l.length ac, .slice ba r.ok.length bc, .slice ca r.ch.length cc, .slice da T.length dc, T⟩, v.ownBlock ≠ some w.heap.size) := by show ∀ _, _; rw [htl]; exact fun v hv e => Nat.lt_irrefl _ (hund v hv _ e)
 have hn1 : ((s + r.l.length : Nat) : Int) = (s : Int) + (r.l.length : Int) := by omega
 have hn2 : ((s + r.l.length + r.ok.length : Nat) : Int) = (s : Int) + (r.l.length : Int) + (r.ok.length : Int) := by omega
 have hn3 : ((s + r.l.length + r.ok.length + r.ch.length : Nat) : Int) = (s : Int) + (r.l.length : Int) + (r.ok.length : Int) + (r.ch.length : Int) := by omega
 rw [hn1] at j2
 rw [hn2] at j3
 rw [hn3] at j4
 obtain ⟨N1, hN1⟩ : ∃ N : Int, N = (s : Int) + (r.l.length : Int) := ⟨_, rfl⟩
 rw [← hN1] at j1 j2 j3 j4
 obtain ⟨N2, hN2⟩ : ∃ N : Int, N = N1 + (r.ok.length : Int) := ⟨_, rfl⟩
 rw [← hN2] at j2 j3 j4
 obtain ⟨N3, hN3⟩ : ∃ N : Int, N = N2 + (r.ch.length : Int) := ⟨_, rfl⟩
 rw [← hN3] at j3 j4
 obtain ⟨N4, hN4⟩ : ∃ N : Int, N = N3 + (cT T : Int) := ⟨_, rfl⟩
 rw [← hN4] at j4
 have HN4 : Hid (N4 = (s : Int) + (cR r : Int)) := by show _ = _; omega
 unfold rpA
 clear hap p1 p2 p3 p4 p5 hcr hll hnt hTE AA hund hn1 hn2 hn3 hN1 hN2 hN3 hN4 h hf htl
 go_enter Tryz.func36, Tryz.ntmps36
 go_wp2_with fail
 refine (j1 _ HL.out).mono ?_
 rintro e w1 ⟨rfl, h1, g1⟩
 replace HO : Hid (HasN w1 B (.slice ba r.ok.length bc) (r.ok)) := hH_ (HasE.grown HO.out g1 (fun k hk hk' => P1.out _ (by simp) k hk' hk))
 replace HC : Hid (HasN w1 B (.slice ca r.ch.length cc) (r.ch)) := hH_ (HasE.grown HC.out g1 (fun k hk hk' => P1.out _ (by simp) k hk' hk))
 replace HE : Hid (HasM w1 B (.slice da T.length dc) (T)) := hH_ (HasE.grown HE.out g1 (fun k hk hk' => P1.out _ (by simp) k hk' hk))
 replace HG : Hid (Logs w1 B T) := (show Logs w1 B T from ⟨fun x hx => HasE.grown (HG.out.l x hx) g1 (fun k hk hk' => P1.out _ (by simp only [List.mem_cons, List.mem_map]; exact .inr (.inr (.inr (⟨x, hx, rfl⟩)))) k hk' hk), HG.out.ap⟩)
 replace HL : Hid (HasX w1 B (.slice aa r.l.length ac) (marksX s r.l.length)) := h1
 replace XA : Hid (Bx w1 w.heap.size 28 #[.int .i64 r.id, .int .i64 r.p, .int .i64 r.v, .bool r.n, .int .i64 r.la, .slice aa r.l.length ac, .int .i64 r.c, .slice ba r.ok.length bc, .slice ca r.ch.length cc, .slice da r.te.length dc]) := hH_ (Bx.grown XA.out g1 (UN.out (.slice aa r.l.length ac) (by simp [Rv.rows])))
 replace KC : Hid (ChS (Bl (Rv.rows ⟨.slice aa r.l.length ac, .slice ba r.ok.length bc, .slice ca r.ch.length cc, .slice da T.length dc, T⟩)) w w1) := hH_ (ChS.trans KC.out (ChS.grown g1 fun k hk => Bl.of (v := .slice aa r.l.length ac) (by simp [Rv.rows]) hk))
 clear h1 g1
 have xa := XA.out.cell 7
 go_wp2_with fail
 clear xa
 refine (j2 _ HO.out).mono ?_
 rintro e w2 ⟨rfl, h2, g2⟩
 replace HL : Hid (HasX w2 B (.slice aa r.l.length ac) (marksX s r.l.length)) := hH_ (HasE.grown HL.out g2 (fun k hk hk' => P1.out _ (by simp) k hk hk'))
 replace HC : Hid (HasN w2 B (.slice ca r.ch.length cc) (r.ch)) := hH_ (HasE.grown HC.out g2 (fun k hk hk' => P2.out _ (by simp) k hk' hk))
 replace HE : Hid (HasM w2 B (.slice da T.length dc) (T)) := hH_ (HasE.grown HE.out g2 (fun k hk hk' => P2.out _ (by simp) k hk' hk))
 replace HG : Hid (Logs w2 B T) := (show Logs w2 B T from ⟨fun x hx => HasE.grown (HG.out.l x hx) g2 (fun k hk hk' => P2.out _ (by simp only [List.mem_cons, List.mem_map]; exact .inr (.inr (⟨x, hx, rfl⟩))) k hk' hk), HG.out.ap⟩)
 replace HO : Hid (HasN w2 B (.slice ba r.ok.length bc) (marksU (s + r.l.length) r.ok.length)) := h2
 replace XA : Hid (Bx w2 w.heap.size 28 #[.int .i64 r.id, .int .i64 r.p, .int .i64 r.v, .bool r.n, .int .i64 r.la, .slice aa r.l.length ac, .int .i64 r.c, .slice ba r.ok.length bc, .slice ca r.ch.length cc, .slice da r.te.length dc]) := hH_ (Bx.grown XA.out g2 (UN.out (.slice ba r.ok.length bc) (by simp [Rv.rows])))
 replace KC : Hid (ChS (Bl (Rv.rows ⟨.slice aa r.l.length ac, .slice ba r.ok.length bc, .slice ca r.ch.length cc, .slice da T.length dc, T⟩)) w w2) := hH_ (ChS.trans KC.out (ChS.grown g2 fun k hk => Bl.of (v := .slice ba r.ok.length bc) (by simp [Rv.rows]) hk))
 clear h2 g2
 have xa := XA.out.cell 8
 go_wp2_with fail
 clear xa
 refine (j3 _ HC.out).mono ?_
 rintro e w3 ⟨rfl, h3, g3⟩
 replace HL : Hid (HasX w3 B (.slice aa r.l.length ac) (marksX s r.l.length)) := hH_ (HasE.grown HL.out g3 (fun k hk hk' => P1.out _ (by simp) k hk hk'))
 replace HO : Hid (HasN w3 B (.slice ba r.ok.length bc) (marksU (s + r.l.length) r.ok.length)) := hH_ (HasE.grown HO.out g3 (fun k hk hk' => P2.out _ (by simp) k hk hk'))
 replace HE : Hid (HasM w3 B (.slice da T.length dc) (T)) := hH_ (HasE.grown HE.out g3 (fun k hk hk' => P3.out _ (by simp) k hk' hk))
 replace HG : Hid (Logs w3 B T) := (show Logs w3 B T from ⟨fun x hx => HasE.grown (HG.out.l x hx) g3 (fun k hk hk' => P3.out _ (by simp only [List.mem_cons, List.mem_map]; exact .inr (⟨x, hx, rfl⟩)) k hk' hk), HG.out.ap⟩)
 replace HC : Hid (HasN w3 B (.slice ca r.ch.length cc) (marksU (s + r.l.length + r.ok.length) r.ch.length)) := h3
 replace XA : Hid (Bx w3 w.heap.size 28 #[.int .i64 r.id, .int .i64 r.p, .int .i64 r.v, .bool r.n, .int .i64 r.la, .slice aa r.l.length ac, .int .i64 r.c, .slice ba r.ok.length bc, .slice ca r.ch.length cc, .slice da r.te.length dc]) := hH_ (Bx.grown XA.out g3 (UN.out (.slice ca r.ch.length cc) (by simp [Rv.rows])))
 replace KC : Hid (ChS (Bl (Rv.rows ⟨.slice aa r.l.length ac, .slice ba r.ok.length bc, .slice ca r.ch.length cc, .slice da T.length dc, T⟩)) w w3) := hH_ (ChS.trans KC.out (ChS.grown g3 fun k hk => Bl.of (v := .slice ca r.ch.length cc) (by simp [Rv.rows]) hk))
 clear h3 g3
 have xa := XA.out.cell 9
 go_wp2_with fail
 clear xa
 rw [← HTL.out]
 refine (j4 _ HE.out HG.out).mono ?_
 rintro e w4 ⟨rfl, h4, g4, c4⟩
 have NS : ∀ (v : Value), (∀ v' ∈ (.slice da T.length dc) :: T.map Mx.u, ap v v') → ∀ k, v.ownBlock = some k → ¬ Bl (.slice da T.length dc :: T.map Mx.u) k := fun v hv k hk ⟨v', hv', hk'⟩ => hv v' hv' k hk hk'
 have RH : Hid (RpHas w4 B (mkRv s r ⟨.slice aa r.l.length ac, .slice ba r.ok.length bc, .slice ca r.ch.length cc, .slice da r.te.length dc, T⟩) (mkRp s r T)) := by
  refine (show Hid _ from ⟨HasE.chs HL.out c4 (NS _ fun v hv => P1.out v (by simp only [List.mem_cons] at hv ⊢; exact .inr (.inr hv))), HasE.chs HO.out c4 (NS _ fun v hv => P2.out v (by simp only [List.mem_cons] at hv ⊢; exact .inr hv)), HasE.chs HC.out c4 (NS _ fun v hv => P3.out v hv), rfl, ?_, fun x hx => g4.l x hx⟩)
  show HasM w4 B (.slice da r.te.length dc) _
  rw [← HTL.out]
  exact h4
 have KF : Hid (ChS (Bl (Rv.rows ⟨.slice aa r.l.length ac, .slice ba r.ok.length bc, .slice ca r.ch.length cc, .slice da T.length dc, T⟩)) w w4) := hH_ (ChS.trans KC.out (c4.mono fun k ⟨v, hv, hk⟩ => ⟨v, by simp only [Rv.rows, List.mem_cons] at hv ⊢; exact .inr (.inr (.inr hv)), hk⟩))
 clear h4 g4 c4 NS
 go_wp2
 go_ret
 refine ⟨congrArg (fun z => Ending.returned (.int .i64 z)) HN4.out, RH.out, ?_⟩
 have := KF.out
 rw [HTL.out] at this
 exact this
theorem heldRp (s : Nat) (hs1 : 1 ≤ s) (r : Rp) (u : Rv) (hs2 : s + cR r ≤ 50000000) (w : World) (h : RpGot w (mkRv s r u) (mkRp s r u.T)) (ht : u.T.map (·.m) = r.te) (hf : Fit r) :
  Calls Tryz.prog 39 #[rpA (mkRp s r u.T) (mkRv s r u), .int .i64 (s : Int)] w fun e w' => e = .returned (.int .i64 ((s : Int) + (cR r : Int))) ∧ Below w.heap.size w w' := by
 obtain ⟨u1, u2, u3, u4, T⟩ := u
 simp only at ht
 have hl : Sls txtE w u1 (marksX s r.l.length) := h.l
 have ho : Sls intE w u2 (marksU (s + r.l.length) r.ok.length) := h.ok
 have hc : Sls intE w u3 (marksU (s + r.l.length + r.ok.length) r.ch.length) := h.ch
 have ht4 : TeGot w u4 (mkTe (s + r.l.length + r.ok.length + r.ch.length) T) := h.te
 have hcr : cR r = r.l.length + r.ok.length + r.ch.length + cT T := by unfold cR; rw [cT_of ht]
 have htl : T.length = r.te.length := by rw [← ht, List.length_map]
 have hnt := hf.te.1
 have hll := hf.l.1
 have j1 := fun W (hW : Below w.heap.size w W) => heldTxt s hs1 (by omega) u1 r.l.length W (hl.kept hW) hll
 have j2 := fun W (hW : Below w.heap.size w W) => heldNu (s + r.l.length) (by omega) u2 r.ok.length W (ho.kept hW) hf.ok
 have j3 := fun W (hW : Below w.heap.size w W) => heldNu (s + r.l.length + r.ok.length) (by omega) u3 r.ch.length W (hc.kept hW) hf.ch
 have j4 := fun W (hW : Below w.heap.size w W) => heldMsS (s + r.l.length + r.ok.length + r.ch.length) (by omega) u4 T (by omega) W (ht4.kept hW) (fun x hx => (hf.te.2 _ (by rw [← ht]; exact List.mem_map_of_mem hx)).1) (by omega)
 obtain ⟨aa, ac, e1⟩ := Sls.slen hl
 obtain ⟨ba, bc, e2⟩ := Sls.slen ho
 obtain ⟨ca, cc, e3⟩ := Sls.slen hc
 obtain ⟨da, dc, e4⟩ := Sls.slen ht4.1
 rw [marksX_length] at e1
 rw [marksU_length] at e2 e3
 rw [mkTe_length] at e4
 subst e1; subst e2; subst e3; subst e4
 have hn1 : ((s + r.l.length : Nat) : Int) = (s : Int) + (r.l.length : Int) := by omega
 have hn2 : ((s + r.l.length + r.ok.length : Nat) : Int) = (s : Int) + (r.l.length : Int) + (r.ok.length : Int) := by omega
 have hn3 : ((s + r.l.length + r.ok.length + r.ch.length : Nat) : Int) = (s : Int) + (r.l.length : Int) + (r.ok.length : Int) + (r.ch.length : Int) := by omega
 rw [hn1] at j2
 rw [hn2] at j3
 rw [hn3] at j4
 obtain ⟨N1, hN1⟩ : ∃ N : Int, N = (s : Int) + (r.l.length : Int) := ⟨_, rfl⟩
 rw [← hN1] at j1 j2 j3 j4
 obtain ⟨N2, hN2⟩ : ∃ N : Int, N = N1 + (r.ok.length : Int) := ⟨_, rfl⟩
 rw [← hN2] at j2 j3 j4
 obtain ⟨N3, hN3⟩ : ∃ N : Int, N = N2 + (r.ch.length : Int) := ⟨_, rfl⟩
 rw [← hN3] at j3 j4
 obtain ⟨N4, hN4⟩ : ∃ N : Int, N = N3 + (cT T : Int) := ⟨_, rfl⟩
 rw [← hN4] at j4
 have HN4 : Hid (N4 = (s : Int) + (cR r : Int)) := by show _ = _; omega
 have m1 : ¬ N1 < 0 := by omega
 have m2 : ¬ N2 < 0 := by omega
 have m3 : ¬ N3 < 0 := by omega
 have m4 : ¬ N4 < 0 := by omega
 unfold rpA mkRv mkRp
 simp only at j1 j2 j3 j4 ⊢
 generalize r.l.length = nl at *
 generalize r.ok.length = no at *
 generalize r.ch.length = nc at *
 generalize T.length = nt at *
 clear hl ho hc ht4 h hcr hnt hll hn1 hn2 hn3 hN1 hN2 hN3 hN4 ht htl hf hs2
 go_enter Tryz.func39, Tryz.ntmps39
 go_wp2_with fail
 refine (j1 _ ((Below.refl _ w).alloc (Nat.le_refl _) _)).mono ?_
 rintro e w1 ⟨rfl, hb⟩
 have BX : Hid (Bx w1 w.heap.size 28 #[.int .i64 r.id, .int .i64 r.p, .int .i64 r.v, .bool r.n, .int .i64 r.la, .slice aa nl ac, .int .i64 r.c, .slice ba no bc, .slice ca nc cc, .slice da nt dc]) := hH_ (Bx.kept (Bx.new _ _ _) hb)
 have BB : Hid (Below w.heap.size w w1) := hH_ (((Below.refl _ w).alloc (Nat.le_refl _) _).trans (hb.mono (by simp)))
 clear hb j1
 have xa := BX.out.cell 7
 go_wp2_with fail
 clear xa
 refine (j2 _ BB.out).mono ?_
 rintro e w2 ⟨rfl, rfl⟩
 have xa := BX.out.cell 8
 go_wp2_with fail
 clear xa
 refine (j3 _ BB.out).mono ?_
 rintro e w3 ⟨rfl, rfl⟩
 have xa := BX.out.cell 9
 go_wp2_with fail
 clear xa
 refine (j4 _ BB.out).mono ?_
 rintro e w4 ⟨rfl, hb⟩
 have B4 := hH_ (BB.out.trans (hb.mono BB.out.size))
 clear hb
 go_wp2
 go_ret
 exact ⟨congrArg (fun z => Ending.returned (.int .i64 z)) HN4.out, B4.out⟩
end Go.Proofs.YtdkhdjickkcaiaaGreat.Rl

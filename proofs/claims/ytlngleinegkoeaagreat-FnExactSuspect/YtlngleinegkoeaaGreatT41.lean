/-
  What a call answers that answers a replica and messages, opened; how great it is; the messages marked and held from where the replica's marks end.
  The specification's l17Asks and l17Begins.
  A message put among those that tell: plain, and in memory.
-/
import Derived.Test.YtlngleinegkoeaaGreatT33
import Derived.Test.YtlngleinegkoeaaGreatT35
import Derived.Test.YtlngleinegkoeaaGreatT40
import Derived.Test.YtlngleinegkoeaaGreatT39
namespace Go.Proofs.YtlngleinegkoeaaGreat.Rl
open Go.RowKit Go.Sort Pg
set_option linter.unusedVariables false
set_option linter.unusedSimpArgs false

theorem RmAns.open {R : Rp} {L : List Ms} {w w' : World} {u' : Rv} {v : Value} {T : List Mx} (h : RmAns R L w w' u' v T) : ∃ C, RpHas w' w.heap.size u' R ∧ RpAp u' ∧ (∀ x ∈ u'.rows, ∀ k, x.ownBlock = some k → k < C) ∧ (w.heap.size ≤ C ∧ C ≤ w'.heap.size) ∧ MsOwn w' C v T L ∧ Below w.heap.size w w' := by
  obtain ⟨C, c1, c2, c3⟩ := h.m
  refine ⟨min C w'.heap.size, h.h, h.a, fun x hx k hk => ?_, ?_, c3.low (Nat.min_le_left _ _), h.b⟩
  · have := c1 x hx k hk
    have := h.h.under x hx k hk
    omega
  · have := h.b.size
    omega
theorem SubAns.open {r : Rp} {t : ByteArray} {R : Rp} {L : List Ms} {z : Int} (hP : subA r t = (R, L, z)) {w w' : World} {e : Ending} (h : SubAns r t w e w') : ∃ pl0 ql0 po0 qo0 pc0 qc0 pt0 qt0 M0 v T C, e = .returned (.tuple #[.agg #[.int .i64 R.id, .int .i64 R.p, .int .i64 R.v, .bool R.n, .int .i64 R.la, .slice pl0 R.l.length ql0, .int .i64 R.c, .slice po0 R.ok.length qo0, .slice pc0 R.ch.length qc0, .slice pt0 R.te.length qt0], v, .int .i64 z]) ∧ RpHas w' w.heap.size ⟨.slice pl0 R.l.length ql0, .slice po0 R.ok.length qo0, .slice pc0 R.ch.length qc0, .slice pt0 R.te.length qt0, M0⟩ R ∧ RpAp ⟨.slice pl0 R.l.length ql0, .slice po0 R.ok.length qo0, .slice pc0 R.ch.length qc0, .slice pt0 R.te.length qt0, M0⟩ ∧ (∀ x ∈ Rv.rows ⟨.slice pl0 R.l.length ql0, .slice po0 R.ok.length qo0, .slice pc0 R.ch.length qc0, .slice pt0 R.te.length qt0, M0⟩, ∀ k, x.ownBlock = some k → k < C) ∧ (w.heap.size ≤ C ∧ C ≤ w'.heap.size) ∧ MsOwn w' C v T L ∧ Below w.heap.size w w' := by
  obtain ⟨u, v, T, h1, h2⟩ := h
  rw [hP] at h1 h2
  obtain ⟨a, b, c, d, e', f, g, i, M, rfl⟩ := h2.h.got.form
  obtain ⟨C, k⟩ := h2.open
  exact ⟨a, b, c, d, e', f, g, i, M, v, T, C, h1, k⟩
theorem sprL_few {r : Rp} (h : RpOk r) : Few (sprL r) := by
  have := sprA_few r h.fit.l.1
  have e : sprA r = sprL r := by unfold sprA; exact if_pos h
  rw [e] at this
  exact this
theorem few_nil : Few [] := ⟨by simp, fun m hm => nomatch hm⟩
/-- Where the marks of messages begin, behind a replica's. -/
theorem few_cTs {L : List Ms} (h : Few L) {T : List Mx} (i : T.map (·.m) = L) {s : Nat} (hs : s ≤ 40000000) : s + cT T ≤ 50000000 := by
  rw [cT_of i]
  have h1 := sum_few (L.map fun m => m.l.length) (fun x hx => by obtain ⟨m, hm, rfl⟩ := List.mem_map.1 hx; exact h.l m hm)
  rw [List.length_map] at h1
  have h2 := h.n
  have h3 : L.length * 1048576 ≤ 6 * 1048576 := Nat.mul_le_mul_right _ h2
  omega
def mkS (s : Nat) (T : List Mx) : Int := (s : Int) + (cT T : Int)
theorem mkS_nn (s : Nat) (T : List Mx) : ¬ mkS s T < 0 := by unfold mkS; omega
theorem markMsN {L : List Ms} (hL : Few L) {s : Nat} (hs1 : 1 ≤ s) (hs : s ≤ 40000000) {lo hi : Nat} {v : Value} {T : List Mx} (W : World) (h : MsF lo hi v T W) (i : T.map (·.m) = L) :
    Calls Tryz.prog 60 #[v, .int .i64 (s : Int)] W fun e w' => e = .returned (.int .i64 (mkS s T)) ∧ MsF lo hi v (mkTe s T) w' ∧ Chg lo hi W w' :=
  (markMsS s hs1 v T (few_cTs hL i hs) lo W h.row h.logs h.ap (hL.each i) (by have := hL.len i; omega)).mono fun e w' ⟨h1, h2, h3, h4⟩ => by
    refine ⟨h1, ⟨h2, h3, fun x hx => ?_, fun k hk => h.top k (by rw [mkTe_u] at hk; exact hk)⟩, h4.chg h.low⟩
    have hu : x.u ∈ (mkTe s T).map Mx.u := List.mem_map.2 ⟨x, hx, rfl⟩
    rw [mkTe_u] at hu
    obtain ⟨y, hy, e⟩ := List.mem_map.1 hu
    rw [← e]
    exact h.ap y hy
theorem heldMsN {L : List Ms} (hL : Few L) {s : Nat} (hs1 : 1 ≤ s) (hs : s ≤ 40000000) {lo hi : Nat} {v : Value} {T : List Mx} (W : World) (h : MsF lo hi v (mkTe s T) W) (i : T.map (·.m) = L) :
    Calls Tryz.prog 62 #[v, .int .i64 (s : Int)] W fun e w' => e = .returned (.int .i64 (mkS s T)) ∧ Below W.heap.size W w' :=
  heldMsS s hs1 v T (few_cTs hL i hs) W h.got (hL.each i) (by have := hL.len i; omega)
theorem kR_is (r : Rp) : kR r = ((1 + cR r : Nat) : Int) := by unfold kR; omega
end Go.Proofs.YtlngleinegkoeaaGreat.Rl
namespace Go.Proofs.YtlngleinegkoeaaGreat.Rl
open Go.RowKit Go.Sort Go.Shelf
set_option linter.unusedVariables false
set_option linter.unusedSimpArgs false

set_option maxRecDepth 100000 in
set_option maxHeartbeats 8000000 in
theorem specAsk (r : Rp) (u : Rv) (B b : Nat) (z : Int) (w : World) (h : RpAt w B b u r) :
    Calls Tryz.prog 113 #[.pointer (some ⟨b, 0, none⟩), .int .i64 z] w fun e w' => e = .returned (.tuple #[]) ∧ ∃ u', RpAt w' B b u' (askF r z) ∧ Below B w w' := by
  have H0 : Hid (RpAt w B b u r) := h
  have D0 : Hid (Below B w w) := (show Hid _ from Below.refl _ _)
  clear h
  go_enter Tryz.func113, Tryz.ntmps113
  go_upto_region 1 with (refine wpList_rpV H0.out (Below.refl _ _) rfl rfl _ _ rfl z rfl rfl ?_; intro w1 h1 b1)
  have H1 : Hid (RpAt w1 B b u { r with v := z }) := h1
  have D1 : Hid (Below B w w1) := (show Hid _ from D0.out.trans b1)
  clear h1 b1 H0 D0
  go_upto_region 2 with (refine wpList_rpN H1.out (Below.refl _ _) rfl rfl _ _ rfl false rfl rfl ?_; intro w2 h2 b2)
  have H2 : Hid (RpAt w2 B b u { r with v := z, n := false }) := h2
  have D2 : Hid (Below B w w2) := (show Hid _ from D1.out.trans b2)
  clear h2 b2 H1 D1
  go_upto_region 3 with (refine wpList_rpOk H2.out ((Below.refl _ w2).alloc (Nat.le_refl _) _) rfl rfl _ _ rfl (OwnsE.born w2).has rfl rfl ?_; intro w3 h3 b3)
  have H3 : Hid (RpAt w3 B b { u with ok := .slice (some ⟨w2.heap.size, 0, none⟩) 0 0 } { r with v := z, n := false, ok := [] }) := h3
  have D3 : Hid (Below B w w3) := (show Hid _ from D2.out.trans b3)
  clear h3 b3 H2 D2
  have q0 := H3.out.c.cells.1
  change w3.cell? ⟨b, 0, none⟩ = some (.int .i64 r.id) at q0
  go_upto_region 4 with (refine wpList_rpCh H3.out ((Below.refl _ w3).alloc (Nat.le_refl _) _) rfl rfl _ _ rfl (ownsN_one w3 r.id) rfl rfl ?_; intro w4 h4 b4)
  have H4 : Hid (RpAt w4 B b _ { r with v := z, n := false, ch := [r.id], ok := [] }) := (show Hid _ from h4)
  have D4 : Hid (Below B w w4) := (show Hid _ from D3.out.trans b4)
  clear h4 b4 H3 D3 q0
  go_wp2_with (refine wpList_rpTe0 H4.out ((Below.refl _ w4).alloc (Nat.le_refl _) _) rfl rfl _ _ rfl (OwnsE.born w4) rfl rfl ?_; intro w5 h5 b5)
  have H5 : Hid (RpAt w5 B b _ (askF r z)) := (show Hid _ from h5)
  have D5 : Hid (Below B w w5) := (show Hid _ from D4.out.trans b5)
  clear h5 b5 H4 D4
  go_wp2
  go_end0
  first | exact ⟨rfl, _, H5.out, D5.out⟩ | exact ⟨rfl, ⟨_, H5.out⟩, D5.out⟩
theorem bytes_no {a b : ByteArray} (h : a ≠ b) : (a.toList == b.toList) = false := by
  rw [ByteArray.toList_eq, ByteArray.toList_eq]
  refine beq_eq_false_iff_ne.2 fun e => h ?_
  have : a.data = b.data := Array.ext' e
  cases a; cases b; exact congrArg _ this
theorem beg_is {L P : List ByteArray} (h : P.length ≤ L.length) (e : P.take P.length = L.take P.length) : P <+: L := by
  rw [List.take_length] at e
  exact List.prefix_iff_eq_take.2 e
theorem beg_no {L P : List ByteArray} {k : Nat} (h1 : k < P.length) (h2 : k < L.length) (hne : L[k] ≠ P[k]) : ¬ P <+: L := fun h => hne (by
  have := List.prefix_iff_getElem?.1 h k h1
  rw [List.getElem?_eq_getElem h2] at this
  exact Option.some.inj this)
set_option maxRecDepth 100000 in
set_option maxHeartbeats 4000000 in
theorem specBeg (v1 v2 : Value) (L P : List ByteArray) (w : World) (h1 : Sls txtE w v1 L) (h2 : Sls txtE w v2 P) (hl : L.length ≤ 1048576) (hp : P.length ≤ 1048576) :
    Calls Tryz.prog 133 #[v1, v2] w fun e w' => e = .returned (.bool (dB (P <+: L))) ∧ Below w.heap.size w w' := by
  obtain ⟨a, ca, rfl, _, _, a3⟩ := h1.txt
  obtain ⟨c, cc, rfl, _, _, b3⟩ := h2.txt
  have A3 : Hid (0 < L.length → ∃ g o, a = some ⟨g, o, Option.none⟩ ∧ g < w.heap.size ∧ ∀ j (hj : j < L.length), w.cell? ⟨g, o + j, Option.none⟩ = some (.string L[j])) := a3
  have B3 : Hid (0 < P.length → ∃ g o, c = some ⟨g, o, Option.none⟩ ∧ g < w.heap.size ∧ ∀ j (hj : j < P.length), w.cell? ⟨g, o + j, Option.none⟩ = some (.string P[j])) := b3
  clear h1 h2 a3 b3
  by_cases hlt : (L.length : Int) < (P.length : Int)
  · have HN : Hid (dB (P <+: L) = false) := (show _ = _ from dB_no (fun h => by have := h.length_le; omega))
    go_enter Tryz.func133, Tryz.ntmps133
    go_wp2
    go_ret
    exact ⟨by rw [HN.out]; rfl, Below.refl _ _⟩
  · go_enter Tryz.func133, Tryz.ntmps133
    go_wp2_with fail
    go_loopw [5] (fun i wr => ∃ k : Nat, k ≤ P.length ∧ i = .int .i64 k ∧ Hid (P.take k = L.take k) ∧ Hid (Below w.heap.size w wr)) (fun i _ => P.length - (intOf i).toNat)
    case atStart => exact ⟨0, Nat.zero_le _, rfl, (show Hid _ from rfl), (show Hid _ from Below.refl _ _)⟩
    case round =>
      obtain ⟨k, hk, rfl, hE, hb⟩ := hrel
      by_cases hk2 : k < P.length
      · have hkL : k < L.length := by omega
        obtain ⟨ga, oa, rfl, hga, hca⟩ := A3.out (by omega)
        obtain ⟨gb, ob, rfl, hgb, hcb⟩ := B3.out (by omega)
        have c1 := (hb.out.cell (p := ⟨ga, oa + k, none⟩) hga).trans (hca k hkL)
        have c2 := (hb.out.cell (p := ⟨gb, ob + k, none⟩) hgb).trans (hcb k hk2)
        have HX : Hid (L[k] ≠ P[k] → dB (P <+: L) = false) := (show _ → _ from fun h => dB_no (beg_no hk2 hkL h))
        have HY : Hid (L[k] = P[k] → P.take (k + 1) = L.take (k + 1)) := (show _ → _ from fun h => by rw [List.take_succ_eq_append_getElem hk2, List.take_succ_eq_append_getElem hkL, hE.out, h])
        clear hca hcb
        generalize L[k] = x at c1 HX HY
        generalize P[k] = y at c2 HX HY
        by_cases hxy : x = y
        · have HZ : Hid _ := HY.out hxy
          subst hxy
          clear HX HY
          have eT : (x.toList == x.toList) = true := by simp
          go_wp2_with fail
          go_quiet (fail)
          have B2 : Hid (Below w.heap.size w (wr.drewN nq)) := (show Hid _ from hb.out.trans ⟨rfl, rfl, rfl, Nat.le_refl _, fun _ _ => rfl⟩)
          generalize wr.drewN nq = wn at B2 ⊢
          go_wp2_with fail
          go_roundw
          case rel => exact ⟨k + 1, by omega, by go_num, HZ, B2⟩
          case measure => simp [intOf]; omega
        · have HZ : Hid _ := HX.out hxy
          have eT : (x.toList == y.toList) = false := by
            exact bytes_no hxy
          clear HX HY hxy
          go_wp2_with fail
          go_quiet (fail)
          have B2 : Hid (Below w.heap.size w (wr.drewN nq)) := (show Hid _ from hb.out.trans ⟨rfl, rfl, rfl, Nat.le_refl _, fun _ _ => rfl⟩)
          generalize wr.drewN nq = wn at B2 ⊢
          go_wp2
          go_ret
          exact ⟨by rw [HZ.out]; rfl, B2.out⟩
      · obtain rfl : k = P.length := by omega
        have HZ : Hid (dB (P <+: L) = true) := (show _ = _ from dB_yes (beg_is (by omega) hE.out))
        go_wp2
        go_ret
        exact ⟨by rw [HZ.out]; rfl, hb.out⟩
end Go.Proofs.YtlngleinegkoeaaGreat.Rl
namespace Go.Proofs.YtlngleinegkoeaaGreat.Rl
open Go.RowKit Go.Sort Go.Shelf
set_option linter.unusedVariables false
set_option linter.unusedSimpArgs false

theorem putM_eq {m : Ms} : ∀ (te : List Ms) (k : Nat) (hk : k < te.length), (∀ i (h : i < te.length), i < k → te[i].f < m.f) → te[k].f = m.f → putM m te = te.take k ++ m :: te.drop (k + 1)
  | [], k, hk, _, _ => by simp at hk
  | x :: t, 0, hk, _, he => by
    have he : x.f = m.f := he
    unfold putM
    rw [if_neg (by omega), if_pos he]
    rfl
  | x :: t, k + 1, hk, hb, he => by
    have hx : x.f < m.f := hb 0 (by simp) (by omega)
    unfold putM
    rw [if_pos hx]
    have := putM_eq t k (by simpa using hk) (fun i h hi => by have := hb (i + 1) (by simpa using h) (by omega); simpa using this) (by simpa using he)
    rw [this]
    rfl
theorem putM_ins {m : Ms} : ∀ (te : List Ms) (k : Nat), k ≤ te.length → (∀ i (h : i < te.length), i < k → te[i].f < m.f) → (∀ (h : k < te.length), m.f < te[k].f) → putM m te = te.take k ++ m :: te.drop k
  | [], k, hk, _, _ => by
    have : k = 0 := by simpa using hk
    subst this
    rfl
  | x :: t, 0, hk, _, he => by
    have he : m.f < x.f := he (by simp)
    unfold putM
    rw [if_neg (by omega), if_neg (by omega)]
    rfl
  | x :: t, k + 1, hk, hb, he => by
    have hx : x.f < m.f := hb 0 (by simp) (by omega)
    unfold putM
    rw [if_pos hx]
    have := putM_ins t k (by simpa using hk) (fun i h hi => by have := hb (i + 1) (by simpa using h) (by omega); simpa using this) (fun h => by have := he (by simpa using h); simpa using this)
    rw [this]
    rfl
theorem Sls.drop {α : Type} {E : Enc α} {w : World} {g o n c : Nat} {l : List α} (h : Sls E w (.slice (some ⟨g, o, none⟩) n c) l) {k : Nat} (hk : k ≤ l.length) : Sls E w (.slice (some ⟨g, o + k * E.k, none⟩) (n - k) (c - k)) (l.drop k) := by
  obtain ⟨a, cap, hv, h1, h2, h3⟩ := h
  injection hv with e1 e2 e3
  subst e2; subst e3
  refine ⟨_, c - k, by rw [List.length_drop], by rw [List.length_drop]; omega, by omega, fun h0 => ?_⟩
  rw [List.length_drop] at h0
  obtain ⟨g', o', e, hg, hc⟩ := h3 (by omega)
  rw [e] at e1
  injection e1 with e1
  injection e1 with e4 e5 _
  subst e4; subst e5
  refine ⟨g, o + k * E.k, rfl, hg, fun j u hu => ?_⟩
  rw [cellsE_drop E l k hk, List.getElem?_drop] at hu
  have := hc (k * E.k + j) u hu
  rw [← Nat.add_assoc] at this
  exact this
/-- A row of messages and a log are never one block. -/
theorem apTy {w : World} {B B' : Nat} {v u : Value} {T : List Mx} {l : List ByteArray} (hv : OwnsM w B v T) (hu : HasX w B' u l) : ap v u := by
  intro k hk hk'
  rcases hv.2 with ⟨e, _⟩ | ⟨g, cap, cur, e, _, hg, _⟩
  · rw [e] at hk; cases hk
  · rw [e] at hk
    have : g = k := by simpa [Value.ownBlock] using hk
    subst this
    exact OwnsE.ne_of hu hg (by decide) g hk' rfl
/-- A row of messages made behind all that is there: those of before up to one, a new one, those from another one on. -/
theorem RpAt.midTe {w w1 : World} {B b : Nat} {u : Rv} {r : Rp} (h : RpAt w B b u r) (hb : Below w.heap.size w w1) {v : Value} {x : Mx} {k q : Nat} (hv : OwnsM w1 w.heap.size v (u.T.take k ++ x :: u.T.drop q)) (hx : HasX w1 w.heap.size x.u x.m.l) (hkq : k ≤ q) :
    RpAt (w1.setCell ⟨b, 9, none⟩ v) B b { u with te := v, T := u.T.take k ++ x :: u.T.drop q } { r with te := r.te.take k ++ x.m :: r.te.drop q } := by
  have h1 := h.kept hb
  obtain ⟨a1, a2, a3, a4, a5⟩ := RpAp.iff.1 h.apt
  have hn := apN h.under hx.from
  have hm : ∀ y ∈ u.T.take k ++ x :: u.T.drop q, y ∈ u.T ∨ y = x := fun y hy => by
    rcases List.mem_append.1 hy with hy | hy
    · exact .inl (List.mem_of_mem_take hy)
    · rcases List.mem_cons.1 hy with rfl | hy
      · exact .inr rfl
      · exact .inl (List.mem_of_mem_drop hy)
  have hl : ∀ y ∈ u.T.take k ++ x :: u.T.drop q, HasX w1 B y.u y.m.l := fun y hy => by
    rcases hm y hy with hy | rfl
    · exact h1.o.tl y hy
    · exact hx.low h.le
  refine h.newTe hb hv (by rw [← h.o.t]; simp [List.map_take, List.map_drop]) hl (fun y hy => ⟨apTy hv (hl y hy), ?_, ?_, ?_⟩) ?_
  · rcases hm y hy with hy | rfl
    · exact a1 _ (by simp only [List.mem_cons]; exact .inr (.inr (.inr (List.mem_map_of_mem hy))))
    · exact (hn _ (rows_l u)).1
  · rcases hm y hy with hy | rfl
    · exact a2 _ (by simp only [List.mem_cons]; exact .inr (.inr (List.mem_map_of_mem hy)))
    · exact (hn _ (rows_ok u)).1
  · rcases hm y hy with hy | rfl
    · exact a3 _ (by simp only [List.mem_cons]; exact .inr (List.mem_map_of_mem hy))
    · exact (hn _ (rows_ch u)).1
  · have hT : ∀ y ∈ u.T, ap y.u x.u ∧ ap x.u y.u := fun y hy => hn _ (rows_T (List.mem_map_of_mem hy))
    rw [List.map_append, List.map_cons, List.pairwise_append, List.pairwise_cons]
    have hsub : (u.T.map Mx.u).take k ++ (u.T.map Mx.u).drop q = ((u.T.map Mx.u).take k ++ (u.T.map Mx.u).drop q) := rfl
    have hp : ((u.T.map Mx.u).take k ++ (u.T.map Mx.u).drop q).Pairwise ap := by
      refine List.Pairwise.sublist ?_ a5
      have : (u.T.map Mx.u).take k ++ (u.T.map Mx.u).drop k = u.T.map Mx.u := List.take_append_drop k _
      conv => rhs; rw [← this]
      refine List.Sublist.append (List.Sublist.refl _) ?_
      obtain ⟨d, rfl⟩ : ∃ d, q = k + d := ⟨q - k, by omega⟩
      rw [← List.drop_drop]
      exact List.drop_sublist _ _
    rw [List.pairwise_append] at hp
    rw [List.map_take, List.map_drop]
    refine ⟨hp.1, ⟨fun z hz => ?_, hp.2.1⟩, fun y hy z hz => ?_⟩
    · obtain ⟨a, ha, rfl⟩ := List.mem_map.1 (List.mem_of_mem_drop hz)
      exact (hT a ha).2
    · rcases List.mem_cons.1 hz with rfl | hz
      · obtain ⟨a, ha, rfl⟩ := List.mem_map.1 (List.mem_of_mem_take hy)
        exact (hT a ha).1
      · exact hp.2.2 y hy z hz
theorem wpList_rpTeM {ops : Array Oper} {rest : List Oper} {o : Oper} {a : Act} {Q : Exit → Act → World → Prop} {w w1 : World} {B b : Nat} {u : Rv} {r : Rp} (h : RpAt w B b u r) (hb : Below w.heap.size w w1) (hgd : o.guard = none) (hd : o.dst = none) (x y : Operand) (ho : o.op = .store 26 x y) {v : Value} {z : Mx} {k q : Nat}
    (hv : OwnsM w1 w.heap.size v (u.T.take k ++ z :: u.T.drop q)) (hz : HasX w1 w.heap.size z.u z.m.l) (hkq : k ≤ q)
    (hx : a.eval x = .pointer (some ⟨b, 9, none⟩)) (hy : a.eval y = v) (hh : ∀ W, RpAt W B b { u with te := v, T := u.T.take k ++ z :: u.T.drop q } { r with te := r.te.take k ++ z.m :: r.te.drop q } → Below B w W → wpList Tryz.prog ops Q rest a W) : wpList Tryz.prog ops Q (o :: rest) a w1 :=
  wpList_put1 hgd hd 26 x y ho b 9 _ hx hy Tryz.rszM (by obtain ⟨_, _, e, _⟩ := hv.form; rw [e]; rfl) (h.kept hb).c (show 9 < (rpC r u).size by rw [rpC_size]; decide) (hh _ (h.midTe hb hv hz hkq) ((hb.mono h.le).setCell (p := ⟨b, 9, none⟩) h.hb _))
end Go.Proofs.YtlngleinegkoeaaGreat.Rl

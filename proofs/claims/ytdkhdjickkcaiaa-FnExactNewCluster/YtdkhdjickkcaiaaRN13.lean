/-
  The laws' marks on replicas.
  Rows of replicas, marked by the laws.
  The laws' markReplicaS.
-/
import Derived.Test.YtdkhdjickkcaiaaRN11
import Derived.Test.YtdkhdjickkcaiaaRN12
namespace Go.Proofs.Ytdkhdjickkcaiaa.Rl
open Go.RowKit Go.Sort
set_option linter.unusedVariables false
set_option linter.unusedSimpArgs false

theorem cT_of {T : List Mx} {te : List Ms} (h : T.map (·.m) = te) : cT T = te.length * 6 + (te.map fun m => m.l.length).sum := by
  unfold cT
  rw [cL_of h, ← h, List.length_map]
theorem RpAp.parts {u : Rv} (h : RpAp u) : (∀ v ∈ u.ok :: u.ch :: u.te :: u.T.map Mx.u, ap u.l v) ∧ (∀ v ∈ u.ch :: u.te :: u.T.map Mx.u, ap u.ok v) ∧ (∀ v ∈ u.te :: u.T.map Mx.u, ap u.ch v) ∧ (∀ v ∈ u.T.map Mx.u, ap u.te v) ∧ (u.T.map Mx.u).Pairwise ap := by
  unfold RpAp Rv.rows at h
  obtain ⟨h1, h⟩ := List.pairwise_cons.1 h
  obtain ⟨h2, h⟩ := List.pairwise_cons.1 h
  obtain ⟨h3, h⟩ := List.pairwise_cons.1 h
  obtain ⟨h4, h⟩ := List.pairwise_cons.1 h
  exact ⟨h1, h2, h3, h4, h⟩
end Go.Proofs.Ytdkhdjickkcaiaa.Rl
namespace Go.Proofs.Ytdkhdjickkcaiaa.Rl
open Go.RowKit Go.Sort
set_option linter.unusedVariables false
set_option linter.unusedSimpArgs false

/-- Whether the number at the fourth place is one of three's. -/
def nB (s : Nat) : Bool := Int.tmod ((s : Int) + 3) 3 == 0
def mkTb (s : Nat) (x : Rx) : List Mx := mkTe (s + 6 + x.r.l.length + x.r.ok.length + x.r.ch.length) x.T
/-- A replica whose cells and rows are marked from s on. -/
def mkR1 (s : Nat) (x : Rx) : Rx := ⟨⟨(s : Int), (s : Int) + 1, (s : Int) + 2, nB s, (s : Int) + 4, marksX (s + 5) x.r.l.length, (s : Int) + 5 + (x.r.l.length : Int), marksU (s + 6 + x.r.l.length) x.r.ok.length, marksU (s + 6 + x.r.l.length + x.r.ok.length) x.r.ch.length, (mkTb s x).map (·.m)⟩, x.la, x.lc, x.oa, x.oc, x.ca, x.cc, x.ta, x.tc, mkTb s x⟩
def cRx (x : Rx) : Nat := 6 + cR x.r
def mkRs : Nat → List Rx → List Rx
  | _, [] => []
  | s, x :: t => mkR1 s x :: mkRs (s + cRx x) t
def cRs (L : List Rx) : Nat := (L.map cRx).sum
/-- Its row of messages is as long as the messages. -/
def TeL (x : Rx) : Prop := x.T.length = x.r.te.length
theorem marksU_len : ∀ (s n : Nat), (marksU s n).length = n := fun s n => by simp [marksU]
theorem mkR1_rows {s : Nat} {x : Rx} (h : TeL x) : (mkR1 s x).u.rows = x.u.rows := by
  unfold mkR1 Rx.u Rv.rows mkTb
  simp only [marksX_length, marksU_len, List.length_map, mkTe_length, mkTe_u]
  rw [show x.T.length = x.r.te.length from h]
theorem mkRs_rows : ∀ (s : Nat) (L : List Rx), (∀ x ∈ L, TeL x) → (mkRs s L).map (fun x => x.u.rows) = L.map (fun x => x.u.rows)
  | _, [], _ => rfl
  | s, x :: t, h => by rw [mkRs, List.map_cons, List.map_cons, mkR1_rows (h x (by simp)), mkRs_rows _ t fun y hy => h y (by simp [hy])]
theorem mkRs_length : ∀ (s : Nat) (L : List Rx), (mkRs s L).length = L.length
  | _, [] => rfl
  | s, x :: t => by rw [mkRs, List.length_cons, List.length_cons, mkRs_length]
theorem cRs_cons (x : Rx) (t : List Rx) : cRs (x :: t) = cRx x + cRs t := by unfold cRs; simp
theorem mkRs_append : ∀ (s : Nat) (T T' : List Rx), mkRs s (T ++ T') = mkRs s T ++ mkRs (s + cRs T) T'
  | s, [], T' => by simp [mkRs, cRs]
  | s, x :: t, T' => by
    rw [List.cons_append, mkRs, mkRs_append, mkRs, cRs_cons, List.cons_append]
    congr 3
    omega
theorem cRs_next {T : List Rx} {k : Nat} (h : k < T.length) : cRs (T.take (k + 1)) = cRs (T.take k) + cRx T[k] := by
  unfold cRs
  rw [List.take_succ_eq_append_getElem h, List.map_append, List.sum_append]
  simp
theorem cRs_le (T : List Rx) (k : Nat) : cRs (T.take k) ≤ cRs T := by
  unfold cRs
  conv => rhs; rw [← List.take_append_drop k T, List.map_append, List.sum_append]
  omega
def mkQ (s : Nat) (T : List Rx) (k : Nat) : List Rx := mkRs s (T.take k) ++ T.drop k
theorem mkQ_length (s : Nat) (T : List Rx) (k : Nat) (h : k ≤ T.length) : (mkQ s T k).length = T.length := by unfold mkQ; simp [mkRs_length]; omega
theorem mkQ_zero (s : Nat) (T : List Rx) : mkQ s T 0 = T := by simp [mkQ, mkRs]
theorem mkQ_all (s : Nat) (T : List Rx) : mkQ s T T.length = mkRs s T := by simp [mkQ]
theorem mkQ_rows (s : Nat) (T : List Rx) (k : Nat) (h : ∀ x ∈ T, TeL x) : (mkQ s T k).map (fun x => x.u.rows) = T.map (fun x => x.u.rows) := by
  unfold mkQ
  rw [List.map_append, mkRs_rows _ _ (fun x hx => h x (List.mem_of_mem_take hx)), ← List.map_append, List.take_append_drop]
theorem mkQ_at (s : Nat) (T : List Rx) (k : Nat) (h : k < T.length) (h' : k < (mkQ s T k).length) : (mkQ s T k)[k] = T[k] := by
  have e : (mkRs s (T.take k)).length = k := by rw [mkRs_length, List.length_take]; omega
  have : (mkQ s T k)[k]? = some T[k] := by
    unfold mkQ
    rw [List.getElem?_append_right (by omega), e, Nat.sub_self, List.getElem?_drop, Nat.add_zero, List.getElem?_eq_getElem h]
  rw [List.getElem?_eq_getElem h'] at this
  exact Option.some.inj this
theorem mkQ_next (s : Nat) (T : List Rx) (k : Nat) (h : k < T.length) : (mkQ s T k).set k (mkR1 (s + cRs (T.take k)) T[k]) = mkQ s T (k + 1) := by
  have e : (mkRs s (T.take k)).length = k := by rw [mkRs_length, List.length_take]; omega
  unfold mkQ
  rw [List.set_append_right _ _ (by omega), e, Nat.sub_self, List.drop_eq_getElem_cons h, List.set_cons_zero, List.take_succ_eq_append_getElem h, mkRs_append, List.append_assoc]
  rfl
theorem mkQ_rj (s : Nat) (T : List Rx) (k j : Nat) (ht : ∀ x ∈ T, TeL x) (hj : j < T.length) (h' : j < (mkQ s T k).length) : (mkQ s T k)[j].u.rows = T[j].u.rows := by
  have := congrArg (fun l => l[j]?) (mkQ_rows s T k ht)
  simpa [h', hj] using this
theorem HasR.st {w : World} {B g n cap : Nat} {L : List Rx} {j : Nat} {x : Rx} (h : HasR w B (.slice (some ⟨g, 0, none⟩) n cap) (L.set j x)) (hj : j < L.length) (i : Nat) (hi : i < 10) (u : Value) (y : Rx) (hy : rxC y = (rxC x).set i u) :
    HasR (w.setCell ⟨g, j * 10 + i, none⟩ u) B (.slice (some ⟨g, 0, none⟩) n cap) (L.set j y) := by
  have := HasE.put h (j := j) (by simpa using hj) (i := i) hi u y (by rw [List.getElem_set_self]; exact hy)
  rw [List.set_set] at this
  exact this
theorem Rps.each {w : World} {B : Nat} {L : List Rx} (h : Rps w B L) {k : Nat} (hk : k < L.length) : RpAp L[k].u := by
  have := (List.pairwise_flatMap.1 h.ap).1 L[k] (List.getElem_mem hk)
  exact this
theorem Rps.two {w : World} {B : Nat} {L : List Rx} (h : Rps w B L) {j k : Nat} (hj : j < L.length) (hk : k < L.length) (hne : j ≠ k) : ∀ a ∈ L[j].u.rows, ∀ b ∈ L[k].u.rows, Rl.ap a b := by
  have h2 := (List.pairwise_flatMap.1 h.ap).2
  rw [List.pairwise_iff_getElem] at h2
  rcases Nat.lt_or_gt_of_ne hne with hlt | hgt
  · exact h2 j k hj hk hlt
  · exact fun a ha b hb q h3 h4 => h2 k j hk hj hgt b hb a ha q h4 h3
end Go.Proofs.Ytdkhdjickkcaiaa.Rl
namespace Go.Proofs.Ytdkhdjickkcaiaa.Rl
open Go.RowKit Go.Sort
set_option linter.unusedVariables false
set_option linter.unusedSimpArgs false

/-- What one replica's rows are, before and behind its marks. -/
structure Own1 (w : World) (B : Nat) (x : Rx) : Prop where
  l : HasX w B (.slice x.la x.r.l.length x.lc) x.r.l
  ok : HasN w B (.slice x.oa x.r.ok.length x.oc) x.r.ok
  ch : HasN w B (.slice x.ca x.r.ch.length x.cc) x.r.ch
  te : HasM w B (.slice x.ta x.T.length x.tc) x.T
  lg : Logs w B x.T
theorem Own1.of {w : World} {B : Nat} {x : Rx} (h : RpHas w B x.u x.r) (ha : RpAp x.u) : Own1 w B x := by
  obtain ⟨p1, p2, p3, p4, p5⟩ := ha.parts
  have ht : x.T.length = x.r.te.length := h.got.tlen
  refine ⟨h.l, h.ok, h.ch, ?_, ⟨h.tl, p5⟩⟩
  rw [ht]
  exact h.te
/-- The four rows of a replica apart from each other, one by one. -/
theorem rxAp {x : Rx} (ht : TeL x) (h : RpAp x.u) : (∀ v ∈ (.slice x.oa x.r.ok.length x.oc) :: (.slice x.ca x.r.ch.length x.cc) :: (.slice x.ta x.T.length x.tc) :: x.T.map Mx.u, ap (.slice x.la x.r.l.length x.lc) v) ∧ (∀ v ∈ (.slice x.ca x.r.ch.length x.cc) :: (.slice x.ta x.T.length x.tc) :: x.T.map Mx.u, ap (.slice x.oa x.r.ok.length x.oc) v) ∧ (∀ v ∈ (.slice x.ta x.T.length x.tc) :: x.T.map Mx.u, ap (.slice x.ca x.r.ch.length x.cc) v) ∧ (∀ v ∈ x.T.map Mx.u, ap (.slice x.ta x.T.length x.tc) v) := by
  obtain ⟨p1, p2, p3, p4, p5⟩ := h.parts
  unfold Rx.u at p1 p2 p3 p4
  simp only at p1 p2 p3 p4
  rw [← show x.T.length = x.r.te.length from ht] at p1 p2 p3 p4
  exact ⟨p1, p2, p3, p4⟩
set_option maxRecDepth 100000 in
set_option maxHeartbeats 64000000 in
theorem markRps (s : Nat) (hs1 : 1 ≤ s) (v : Value) (L : List Rx) (hs2 : s + cRs L ≤ 50000000) (B : Nat) (w : World) (h : HasR w B v L) (hL : Rps w B L) (hap : ∀ u ∈ rowsR L, ap v u) (hf : ∀ x ∈ L, Fit x.r) (hn : L.length ≤ 1048576) :
    Calls Try.prog 34 #[v, .int .i64 (s : Int)] w fun e w' => e = .returned (.int .i64 ((s : Int) + (cRs L : Int))) ∧ HasR w' B v (mkRs s L) ∧ (∀ x ∈ mkRs s L, RpHas w' B x.u x.r) ∧ ChS (Bl (v :: rowsR L)) w w' := by
  obtain ⟨a, cap, rfl, h1, h2, h3⟩ := h.form
  unfold maxLen at h2
  have HAP : Hid (∀ u ∈ rowsR L, ap (.slice a L.length cap) u) := hap
  have HF : Hid (∀ x ∈ L, Fit x.r) := hf
  have HTL : Hid (∀ x ∈ L, TeL x) := fun x hx => (hL.l x hx).got.tlen
  have HEA : Hid (∀ k (hk : k < L.length), RpAp L[k].u) := fun k hk => hL.each hk
  have HTW : Hid (∀ j k (hj : j < L.length) (hk : k < L.length), j ≠ k → ∀ a ∈ L[j].u.rows, ∀ b ∈ L[k].u.rows, ap a b) := fun j k hj hk hne => hL.two hj hk hne
  have H0 : Hid (HasR w B (.slice a L.length cap) L) := h
  have L0 : Hid (∀ x ∈ L, RpHas w B x.u x.r) := hL.l
  have H3 : Hid (0 < L.length → ∃ g, a = some ⟨g, 0, none⟩) := h3
  clear hap hf hL h h3
  go_enter Try.func34, Try.ntmps34
  go_wp2
  go_loopw [1, 5] (fun m i wr => ∃ k : Nat, k ≤ L.length ∧ i = .int .i64 k ∧ m = .int .i64 ((s : Int) + (cRs (L.take k) : Int)) ∧ Hid (HasR wr B (.slice a L.length cap) (mkQ s L k)) ∧ Hid (∀ x ∈ mkQ s L k, RpHas wr B x.u x.r) ∧ Hid (ChS (Bl (.slice a L.length cap :: rowsR L)) w wr)) (fun _ i _ => L.length - (intOf i).toNat)
  case atStart => exact ⟨0, Nat.zero_le _, rfl, by simp [cRs], (show Hid _ from by rw [mkQ_zero]; exact H0.out), (show Hid _ from by rw [mkQ_zero]; exact L0.out), (show Hid _ from ChS.refl _ _)⟩
  case round =>
    clear H0 L0
    obtain ⟨k, hk, rfl, rfl, ho, hlg, hch⟩ := hrel
    by_cases hlt : k < L.length
    · obtain ⟨g, rfl⟩ := H3.out (by omega)
      have hml : Hid ((mkQ s L k).length = L.length) := mkQ_length s L k hk
      have hat := mkQ_at s L k hlt (by rw [hml.out]; exact hlt)
      have HNX : Hid _ := mkQ_next s L k hlt
      have HCT : Hid (cRs (L.take (k + 1)) = cRs (L.take k) + cRx L[k]) := cRs_next hlt
      have hup : cRs (L.take (k + 1)) ≤ cRs L := cRs_le L (k + 1)
      have hup2 : cRs (L.take k) + cRx L[k] ≤ cRs L := by have := HCT.out; omega
      have hki : (k : Int) < (L.length : Int) := by omega
      have hfx := HF.out L[k] (List.getElem_mem hlt)
      have htx := HTL.out L[k] (List.getElem_mem hlt)
      have hx := hlg.out L[k] (by rw [← hat]; exact List.getElem_mem _)
      have hax := HEA.out k hlt
      have P0 : HasR wr B (.slice (some ⟨g, 0, none⟩) L.length cap) ((mkQ s L k).set k L[k]) := by
        rw [← hat, List.set_getElem_self]
        exact ho.out
      have HLT : Hid (k < (mkQ s L k).length) := (show k < _ by rw [hml.out]; exact hlt)
      have HVX : Hid (∀ b ∈ L[k].u.rows, ap (.slice (some ⟨g, 0, none⟩) L.length cap) b) := fun b hb => HAP.out b (List.mem_flatMap.2 ⟨L[k], List.getElem_mem hlt, hb⟩)
      have HRK : Hid (∀ b ∈ L[k].u.rows, b ∈ rowsR L) := fun b hb => List.mem_flatMap.2 ⟨L[k], List.getElem_mem hlt, hb⟩
      have HOJ : Hid (∀ j (hj : j < L.length), j ≠ k → ∀ a ∈ L[j].u.rows, ∀ b ∈ .slice (some ⟨g, 0, none⟩) L.length cap :: L[k].u.rows, ap a b) := fun j hj hne a ha b hb => by
        rcases List.mem_cons.1 hb with rfl | hb
        · exact ap.comm (HAP.out a (List.mem_flatMap.2 ⟨L[j], List.getElem_mem hj, ha⟩))
        · exact HTW.out j k hj hlt hne a ha b hb
      have HLJ : Hid (∀ j (hj : j < (mkQ s L k).length), RpHas wr B (mkQ s L k)[j].u (mkQ s L k)[j].r) := fun j hj => hlg.out _ (List.getElem_mem hj)
      have HRJ : Hid (∀ j (hj : j < L.length) (hj' : j < (mkQ s L k).length), (mkQ s L k)[j].u.rows = L[j].u.rows) := fun j hj hj' => mkQ_rj s L k j HTL.out hj hj'
      obtain ⟨n0, hn0⟩ : ∃ n, n = s + cRs (L.take k) := ⟨_, rfl⟩
      have hn0i : (s : Int) + (cRs (L.take k) : Int) = (n0 : Int) := by omega
      have HN0 : Hid (n0 = s + cRs (L.take k)) := hn0
      rw [hn0i]
      rw [← hn0] at HNX
      have hn1 : 1 ≤ n0 := by omega
      have hn2 : n0 + cRx L[k] ≤ 50000000 := by omega
      have hap4 := rxAp htx hax
      have hown := Own1.of hx hax
      have hcr : cR L[k].r = L[k].r.l.length + L[k].r.ok.length + L[k].r.ch.length + cT L[k].T := by unfold cR; rw [show cT L[k].T = _ from cT_of hx.t]
      have hrw : Hid (L[k].u.rows = _ :: _ :: _ :: _ :: _) := (show L[k].u.rows = (.slice L[k].la L[k].r.l.length L[k].lc) :: (.slice L[k].oa L[k].r.ok.length L[k].oc) :: (.slice L[k].ca L[k].r.ch.length L[k].cc) :: (.slice L[k].ta L[k].T.length L[k].tc) :: L[k].T.map Mx.u from by
        unfold Rx.u Rv.rows
        simp only
        rw [show L[k].T.length = L[k].r.te.length from htx])
      have hteT : L[k].T.map (·.m) = L[k].r.te := hx.t
      clear hat hx hax hlg ho hup hup2 htx hn0 hn0i
      unfold cRx at hn2
      rw [hcr] at hn2
      have HCR : Hid (cRx L[k] = 6 + (L[k].r.l.length + L[k].r.ok.length + L[k].r.ch.length + cT L[k].T)) := by show _ = _; unfold cRx; rw [hcr]
      clear hcr
      generalize hxk : L[k] = x at *
      obtain ⟨⟨xi, xp, xv, xn, xla, xl, xc, xok, xch, xte⟩, la, lc, oa, oc, ca, cc, ta, tc, T⟩ := x
      obtain ⟨p1, p2, p3, p4⟩ := hap4
      obtain ⟨ol, oo, och, ote, olg⟩ := hown
      simp only at p1 p2 p3 p4 ol oo och ote olg hn2 hfx hteT
      have P1 : Hid _ := p1
      have P2 : Hid _ := p2
      have P3 : Hid _ := p3
      have P4 : Hid _ := p4
      have HL : Hid (HasX wr B (.slice la xl.length lc) xl) := ol
      have HO : Hid (HasN wr B (.slice oa xok.length oc) xok) := oo
      have HC : Hid (HasN wr B (.slice ca xch.length cc) xch) := och
      have HE : Hid (HasM wr B (.slice ta T.length tc) T) := ote
      have HG : Hid (Logs wr B T) := olg
      have HTT : Hid (T.map (·.m) = xte) := hteT
      have hlT : T.length = xte.length := by rw [← hteT, List.length_map]
      have hl1 := hfx.l.1
      have hl2 := hfx.ok
      have hl3 := hfx.ch
      have hl4 : T.length ≤ 1048576 := by rw [hlT]; exact hfx.te.1
      have HL5 : Hid (∀ x ∈ T, x.m.l.length ≤ 1048576) := fun x hx => (hfx.te.2 _ (by show x.m ∈ xte; rw [← HTT.out]; exact List.mem_map_of_mem hx)).1
      simp only at hl1 hl2 hl3
      clear p1 p2 p3 p4 ol oo och ote olg hfx hteT hxk
      obtain ⟨N0, hN0⟩ : ∃ N : Int, N = (n0 : Int) := ⟨_, rfl⟩
      obtain ⟨N1, hN1⟩ : ∃ N : Int, N = (n0 : Int) + 1 := ⟨_, rfl⟩
      obtain ⟨N2, hN2⟩ : ∃ N : Int, N = (n0 : Int) + 2 := ⟨_, rfl⟩
      obtain ⟨N3, hN3⟩ : ∃ N : Int, N = (n0 : Int) + 3 := ⟨_, rfl⟩
      obtain ⟨N4, hN4⟩ : ∃ N : Int, N = (n0 : Int) + 4 := ⟨_, rfl⟩
      obtain ⟨N5, hN5⟩ : ∃ N : Int, N = (n0 : Int) + 5 := ⟨_, rfl⟩
      obtain ⟨N6, hN6⟩ : ∃ N : Int, N = N5 + (xl.length : Int) := ⟨_, rfl⟩
      obtain ⟨N7, hN7⟩ : ∃ N : Int, N = N6 + 1 := ⟨_, rfl⟩
      obtain ⟨N8, hN8⟩ : ∃ N : Int, N = N7 + (xok.length : Int) := ⟨_, rfl⟩
      obtain ⟨N9, hN9⟩ : ∃ N : Int, N = N8 + (xch.length : Int) := ⟨_, rfl⟩
      obtain ⟨NA, hNA⟩ : ∃ N : Int, N = N9 + (cT T : Int) := ⟨_, rfl⟩
      have HN : Hid (N0 = (n0 : Int) ∧ N1 = (n0 : Int) + 1 ∧ N2 = (n0 : Int) + 2 ∧ N3 = (n0 : Int) + 3 ∧ N4 = (n0 : Int) + 4 ∧ N6 = (n0 : Int) + 5 + (xl.length : Int) ∧ NA = (n0 : Int) + (6 + (xl.length + xok.length + xch.length + cT T : Nat) : Nat)) := (show _ ∧ _ from ⟨hN0, hN1, hN2, hN3, hN4, by omega, by omega⟩)
      have ew1 : wrap64 (N0 + 1) = N1 := by unfold wrap64; omega
      have ew2 : wrap64 (N1 + 1) = N2 := by unfold wrap64; omega
      have ew3 : wrap64 (N2 + 1) = N3 := by unfold wrap64; omega
      have ew4 : wrap64 (N3 + 1) = N4 := by unfold wrap64; omega
      have ew5 : wrap64 (N4 + 1) = N5 := by unfold wrap64; omega
      have ew6 : wrap64 (N6 + 1) = N7 := by unfold wrap64; omega
      have j1 := fun W hW => markTxt (n0 + 5) (by omega) (by omega) (.slice la xl.length lc) xl B W hW hl1
      have j2 := fun W hW => markNu (n0 + 6 + xl.length) (by omega) (.slice oa xok.length oc) xok B W hW hl2
      have j3 := fun W hW => markNu (n0 + 6 + xl.length + xok.length) (by omega) (.slice ca xch.length cc) xch B W hW hl3
      have j4 := fun W hW hL => markMsS (n0 + 6 + xl.length + xok.length + xch.length) (by omega) (.slice ta T.length tc) T (by omega) B W hW hL (fun x hx => P4.out _ (List.mem_map_of_mem hx)) HL5.out hl4
      rw [show ((n0 + 5 : Nat) : Int) = N5 from by omega, ← hN6] at j1
      rw [show ((n0 + 6 + xl.length : Nat) : Int) = N7 from by omega, ← hN8] at j2
      rw [show ((n0 + 6 + xl.length + xok.length : Nat) : Int) = N8 from by omega, ← hN9] at j3
      rw [show ((n0 + 6 + xl.length + xok.length + xch.length : Nat) : Int) = N9 from by omega, ← hNA] at j4
      rw [← hN0]
      obtain ⟨b3, hb3⟩ : ∃ b : Bool, (Int.tmod N3 3 == 0) = b := ⟨_, rfl⟩
      have HB3 : Hid (b3 = nB n0) := (show b3 = nB n0 from by rw [← hb3, hN3]; rfl)
      have CK := rxCells P0.sls (j := k) (by simp; exact HLT.out)
      rw [List.getElem_set_self] at CK
      obtain ⟨c0, c1, c2, c3, c4, c5, c6, c7, c8, c9⟩ := CK
      simp only [Nat.zero_add] at c0 c1 c2 c3 c4 c5 c6 c7 c8 c9
      have fz := P0.free
      have F0 := fz (k * 10)
      have F1 := fz (k * 10 + 1)
      have F2 := fz (k * 10 + 2)
      have F3 := fz (k * 10 + 3)
      have F4 := fz (k * 10 + 4)
      have F6 := fz (k * 10 + 6)
      have q1 := HasR.st P0 HLT.out 0 (by decide) (.int .i64 N0) ⟨⟨N0, xp, xv, xn, xla, xl, xc, xok, xch, xte⟩, la, lc, oa, oc, ca, cc, ta, tc, T⟩ rfl
      have q2 := HasR.st q1 HLT.out 1 (by decide) (.int .i64 N1) ⟨⟨N0, N1, xv, xn, xla, xl, xc, xok, xch, xte⟩, la, lc, oa, oc, ca, cc, ta, tc, T⟩ rfl
      have q3 := HasR.st q2 HLT.out 2 (by decide) (.int .i64 N2) ⟨⟨N0, N1, N2, xn, xla, xl, xc, xok, xch, xte⟩, la, lc, oa, oc, ca, cc, ta, tc, T⟩ rfl
      have q4 := HasR.st q3 HLT.out 3 (by decide) (.bool b3) ⟨⟨N0, N1, N2, b3, xla, xl, xc, xok, xch, xte⟩, la, lc, oa, oc, ca, cc, ta, tc, T⟩ rfl
      have q5 := HasR.st q4 HLT.out 4 (by decide) (.int .i64 N4) ⟨⟨N0, N1, N2, b3, N4, xl, xc, xok, xch, xte⟩, la, lc, oa, oc, ca, cc, ta, tc, T⟩ rfl
      rw [Nat.add_zero] at q1 q2 q3 q4 q5
      have Q5 : Hid _ := q5
      have HCM : Hid (rxC (mkR1 n0 ⟨⟨xi, xp, xv, xn, xla, xl, xc, xok, xch, xte⟩, la, lc, oa, oc, ca, cc, ta, tc, T⟩) = (rxC ⟨⟨N0, N1, N2, b3, N4, xl, xc, xok, xch, xte⟩, la, lc, oa, oc, ca, cc, ta, tc, T⟩).set 6 (.int .i64 N6)) := by
        show _ = _
        simp only [rxC, mkR1, mkTb, marksX_length, marksU_len, List.length_map, mkTe_length, List.set_cons_succ, List.set_cons_zero]
        rw [hlT, hN0, hN1, hN2, hN4, HB3.out, HN.out.2.2.2.2.2.1]
      have SV : Hid (∀ b ∈ (.slice la xl.length lc) :: (.slice oa xok.length oc) :: (.slice ca xch.length cc) :: (.slice ta T.length tc) :: T.map Mx.u, ∀ q, b.ownBlock = some q → q ≠ g) := (show ∀ _ _, _ from fun b hb q hq e => HVX.out b (by rw [hrw.out]; exact hb) g rfl (by rw [← e]; exact hq))
      have SL : Hid (∀ q, Value.ownBlock (.slice la xl.length lc) = some q → q ≠ g) := (show ∀ _, _ from SV.out _ (by simp))
      have SO : Hid (∀ q, Value.ownBlock (.slice oa xok.length oc) = some q → q ≠ g) := (show ∀ _, _ from SV.out _ (by simp))
      have SC : Hid (∀ q, Value.ownBlock (.slice ca xch.length cc) = some q → q ≠ g) := (show ∀ _, _ from SV.out _ (by simp))
      have ST : Hid (∀ q, Value.ownBlock (.slice ta T.length tc) = some q → q ≠ g) := (show ∀ _, _ from SV.out _ (by simp))
      have SM : Hid (∀ y ∈ T, ∀ q, Value.ownBlock y.u = some q → q ≠ g) := (show ∀ _ _, _ from fun y hy => SV.out _ (by simp only [List.mem_cons, List.mem_map]; exact .inr (.inr (.inr (.inr ⟨y, hy, rfl⟩)))))
      clear q1 q2 q3 q4 q5 fz P0 hN0 hN1 hN2 hN3 hN4 hN5 hN6 hN7 hN8 hN9 hNA hn1 hn2 hl1 hl2 hl3 hl4 hlT
      go_wp2_with fail
      refine (j1 _ (by
        repeat (refine HasE.oth ?_ _ _ (fun q hq => by simpa using SL.out q hq))
        exact HL.out)).mono ?_
      rintro e w6 ⟨rfl, hx6, hg6⟩
      have H6 : Hid (HasR w6 B (.slice (some ⟨g, 0, none⟩) L.length cap) ((mkQ s L k).set k ⟨⟨N0, N1, N2, b3, N4, xl, xc, xok, xch, xte⟩, la, lc, oa, oc, ca, cc, ta, tc, T⟩)) := (show Hid _ from HasE.grown Q5.out hg6 (fun q hq h2 => SL.out q h2 (by simpa [Value.ownBlock] using hq.symm)))
      have C6 : Hid (ChS (Bl ((.slice (some ⟨g, 0, none⟩) L.length cap) :: (.slice la xl.length lc) :: (.slice oa xok.length oc) :: (.slice ca xch.length cc) :: (.slice ta T.length tc) :: T.map Mx.u)) wr w6) := by
        refine (show Hid _ from ChS.trans (W2 := _) ?_ (ChS.grown hg6 fun q hq => Bl.of (v := (.slice la xl.length lc)) (by simp) hq))
        repeat (refine ChS.set ?_ _ _ (Bl.of (List.mem_cons_self) rfl))
        exact ChS.refl _ _
      replace HO : Hid (HasN w6 B (.slice oa xok.length oc) xok) := by
        refine (show Hid _ from HasE.grown (w := _) ?_ hg6 (fun q hk hk' => P1.out _ (by simp) q hk' hk))
        repeat (refine HasE.oth ?_ _ _ (fun q hq => by simpa using SO.out q hq))
        exact HO.out
      replace HC : Hid (HasN w6 B (.slice ca xch.length cc) xch) := by
        refine (show Hid _ from HasE.grown (w := _) ?_ hg6 (fun q hk hk' => P1.out _ (by simp) q hk' hk))
        repeat (refine HasE.oth ?_ _ _ (fun q hq => by simpa using SC.out q hq))
        exact HC.out
      replace HE : Hid (HasM w6 B (.slice ta T.length tc) T) := by
        refine (show Hid _ from HasE.grown (w := _) ?_ hg6 (fun q hk hk' => P1.out _ (by simp) q hk' hk))
        repeat (refine HasE.oth ?_ _ _ (fun q hq => by simpa using ST.out q hq))
        exact HE.out
      replace HG : Hid (Logs w6 B T) := by
        refine (show Hid _ from ⟨fun y hy => ?_, HG.out.ap⟩)
        refine HasE.grown (w := _) ?_ hg6 (fun q hk hk' => P1.out _ (by simp only [List.mem_cons, List.mem_map]; exact .inr (.inr (.inr ⟨y, hy, rfl⟩))) q hk' hk)
        repeat (refine HasE.oth ?_ _ _ (fun q hq => by simpa using SM.out y hy q hq))
        exact HG.out.l y hy
      replace HL : Hid (HasX w6 B (.slice la xl.length lc) (marksX (n0 + 5) xl.length)) := hx6
      have c6' := (rxCells H6.out.sls (j := k) (by simp; exact HLT.out)).c6
      have c7' := (rxCells H6.out.sls (j := k) (by simp; exact HLT.out)).c7
      rw [List.getElem_set_self] at c6' c7'
      simp only [Nat.zero_add] at c6' c7'
      have f6' := H6.out.free (k * 10 + 6)
      have H7 : Hid (HasR _ _ _ _) := (show Hid _ from HasR.st H6.out HLT.out 6 (by decide) (.int .i64 N6) (mkR1 n0 ⟨⟨xi, xp, xv, xn, xla, xl, xc, xok, xch, xte⟩, la, lc, oa, oc, ca, cc, ta, tc, T⟩) HCM.out)
      have C7 : Hid (ChS (Bl ((.slice (some ⟨g, 0, none⟩) L.length cap) :: (.slice la xl.length lc) :: (.slice oa xok.length oc) :: (.slice ca xch.length cc) :: (.slice ta T.length tc) :: T.map Mx.u)) wr (w6.setCell ⟨g, k * 10 + 6, none⟩ (.int .i64 N6))) := (show Hid _ from ChS.set C6.out _ _ (Bl.of (List.mem_cons_self) rfl))
      replace HO : Hid (HasN (w6.setCell ⟨g, k * 10 + 6, none⟩ (.int .i64 N6)) B (.slice oa xok.length oc) xok) := (show Hid _ from HasE.oth HO.out _ _ SO.out)
      replace HC : Hid (HasN (w6.setCell ⟨g, k * 10 + 6, none⟩ (.int .i64 N6)) B (.slice ca xch.length cc) xch) := (show Hid _ from HasE.oth HC.out _ _ SC.out)
      replace HE : Hid (HasM (w6.setCell ⟨g, k * 10 + 6, none⟩ (.int .i64 N6)) B (.slice ta T.length tc) T) := (show Hid _ from HasE.oth HE.out _ _ ST.out)
      replace HL : Hid (HasX (w6.setCell ⟨g, k * 10 + 6, none⟩ (.int .i64 N6)) B (.slice la xl.length lc) (marksX (n0 + 5) xl.length)) := (show Hid _ from HasE.oth HL.out _ _ SL.out)
      replace HG : Hid (Logs (w6.setCell ⟨g, k * 10 + 6, none⟩ (.int .i64 N6)) B T) := (show Hid _ from ⟨fun y hy => HasE.oth (HG.out.l y hy) _ _ (SM.out y hy), HG.out.ap⟩)
      clear hx6 hg6 F0 F1 F2 F3 F4 F6 c0 c1 c2 c3 c4 c5 c6 c7 c8 c9 j1 Q5 H6 C6
      go_wp2_with fail
      generalize (w6.setCell ⟨g, k * 10 + 6, none⟩ (.int .i64 N6)) = w7 at *
      clear c6' c7' f6'
      refine (j2 _ HO.out).mono ?_
      rintro e w8 ⟨rfl, h8, g8⟩
      have e7 : Hid ((mkQ s L k).set k (mkR1 n0 ⟨⟨xi, xp, xv, xn, xla, xl, xc, xok, xch, xte⟩, la, lc, oa, oc, ca, cc, ta, tc, T⟩) = (mkQ s L k).set k (mkR1 n0 ⟨⟨xi, xp, xv, xn, xla, xl, xc, xok, xch, xte⟩, la, lc, oa, oc, ca, cc, ta, tc, T⟩)) := (show _ = _ from rfl)
      replace H7 : Hid (HasR w8 B (.slice (some ⟨g, 0, none⟩) L.length cap) ((mkQ s L k).set k (mkR1 n0 ⟨⟨xi, xp, xv, xn, xla, xl, xc, xok, xch, xte⟩, la, lc, oa, oc, ca, cc, ta, tc, T⟩))) := (show Hid _ from HasE.grown H7.out g8 (fun q hq h2 => SO.out q h2 (by simpa [Value.ownBlock] using hq.symm)))
      replace C7 : Hid (ChS (Bl ((.slice (some ⟨g, 0, none⟩) L.length cap) :: (.slice la xl.length lc) :: (.slice oa xok.length oc) :: (.slice ca xch.length cc) :: (.slice ta T.length tc) :: T.map Mx.u)) wr w8) := (show Hid _ from ChS.trans C7.out (ChS.grown g8 fun q hq => Bl.of (v := (.slice oa xok.length oc)) (by simp) hq))
      replace HL : Hid (HasX w8 B (.slice la xl.length lc) (marksX (n0 + 5) xl.length)) := (show Hid _ from HasE.grown HL.out g8 (fun q hk hk' => P1.out _ (by simp) q hk hk'))
      replace HC : Hid (HasN w8 B (.slice ca xch.length cc) xch) := (show Hid _ from HasE.grown HC.out g8 (fun q hk hk' => P2.out _ (by simp) q hk' hk))
      replace HE : Hid (HasM w8 B (.slice ta T.length tc) T) := (show Hid _ from HasE.grown HE.out g8 (fun q hk hk' => P2.out _ (by simp) q hk' hk))
      replace HG : Hid (Logs w8 B T) := (show Hid _ from ⟨fun y hy => HasE.grown (HG.out.l y hy) g8 (fun q hk hk' => P2.out _ (by simp only [List.mem_cons, List.mem_map]; exact .inr (.inr ⟨y, hy, rfl⟩)) q hk' hk), HG.out.ap⟩)
      replace HO : Hid (HasN w8 B (.slice oa xok.length oc) (marksU (n0 + 6 + xl.length) xok.length)) := h8
      clear h8 g8 e7
      have c8' := (rxCells H7.out.sls (j := k) (by simp; exact HLT.out)).c8
      rw [List.getElem_set_self] at c8'
      simp only [Nat.zero_add, mkR1, marksU_len] at c8'
      go_wp2_with fail
      clear c8'
      refine (j3 _ HC.out).mono ?_
      rintro e w9 ⟨rfl, h9, g9⟩
      replace H7 : Hid (HasR w9 B (.slice (some ⟨g, 0, none⟩) L.length cap) ((mkQ s L k).set k (mkR1 n0 ⟨⟨xi, xp, xv, xn, xla, xl, xc, xok, xch, xte⟩, la, lc, oa, oc, ca, cc, ta, tc, T⟩))) := (show Hid _ from HasE.grown H7.out g9 (fun q hq h2 => SC.out q h2 (by simpa [Value.ownBlock] using hq.symm)))
      replace C7 : Hid (ChS (Bl ((.slice (some ⟨g, 0, none⟩) L.length cap) :: (.slice la xl.length lc) :: (.slice oa xok.length oc) :: (.slice ca xch.length cc) :: (.slice ta T.length tc) :: T.map Mx.u)) wr w9) := (show Hid _ from ChS.trans C7.out (ChS.grown g9 fun q hq => Bl.of (v := (.slice ca xch.length cc)) (by simp) hq))
      replace HL : Hid (HasX w9 B (.slice la xl.length lc) (marksX (n0 + 5) xl.length)) := (show Hid _ from HasE.grown HL.out g9 (fun q hk hk' => P1.out _ (by simp) q hk hk'))
      replace HO : Hid (HasN w9 B (.slice oa xok.length oc) (marksU (n0 + 6 + xl.length) xok.length)) := (show Hid _ from HasE.grown HO.out g9 (fun q hk hk' => P2.out _ (by simp) q hk hk'))
      replace HE : Hid (HasM w9 B (.slice ta T.length tc) T) := (show Hid _ from HasE.grown HE.out g9 (fun q hk hk' => P3.out _ (by simp) q hk' hk))
      replace HG : Hid (Logs w9 B T) := (show Hid _ from ⟨fun y hy => HasE.grown (HG.out.l y hy) g9 (fun q hk hk' => P3.out _ (by simp only [List.mem_cons, List.mem_map]; exact .inr ⟨y, hy, rfl⟩) q hk' hk), HG.out.ap⟩)
      replace HC : Hid (HasN w9 B (.slice ca xch.length cc) (marksU (n0 + 6 + xl.length + xok.length) xch.length)) := h9
      clear h9 g9
      have c9' := (rxCells H7.out.sls (j := k) (by simp; exact HLT.out)).c9
      rw [List.getElem_set_self] at c9'
      simp only [Nat.zero_add, mkR1, mkTb, List.length_map, mkTe_length] at c9'
      go_wp2_with fail
      clear c9'
      refine (j4 _ HE.out HG.out).mono ?_
      rintro e wA ⟨rfl, hA, gA, cA⟩
      have NS : ∀ (v : Value), (∀ v' ∈ (.slice ta T.length tc) :: T.map Mx.u, ap v v') → ∀ q, v.ownBlock = some q → ¬ Bl ((.slice ta T.length tc) :: T.map Mx.u) q := fun v hv q hq ⟨v', hv', hq'⟩ => hv v' hv' q hq hq'
      have HR : Hid (HasR wA B (.slice (some ⟨g, 0, none⟩) L.length cap) ((mkQ s L k).set k (mkR1 n0 ⟨⟨xi, xp, xv, xn, xla, xl, xc, xok, xch, xte⟩, la, lc, oa, oc, ca, cc, ta, tc, T⟩))) := (show Hid _ from HasE.chs H7.out cA (NS _ fun v hv q hq h2 => SV.out v (by simp only [List.mem_cons] at hv ⊢; exact .inr (.inr (.inr hv))) q h2 (by simpa [Value.ownBlock] using hq.symm)))
      have CF : Hid (ChS (Bl ((.slice (some ⟨g, 0, none⟩) L.length cap) :: (.slice la xl.length lc) :: (.slice oa xok.length oc) :: (.slice ca xch.length cc) :: (.slice ta T.length tc) :: T.map Mx.u)) wr wA) := (show Hid _ from ChS.trans C7.out (cA.mono fun q ⟨v, hv, hq⟩ => ⟨v, by simp only [List.mem_cons] at hv ⊢; exact .inr (.inr (.inr (.inr hv))), hq⟩))
      have RH : Hid (RpHas wA B (mkR1 n0 ⟨⟨xi, xp, xv, xn, xla, xl, xc, xok, xch, xte⟩, la, lc, oa, oc, ca, cc, ta, tc, T⟩).u (mkR1 n0 ⟨⟨xi, xp, xv, xn, xla, xl, xc, xok, xch, xte⟩, la, lc, oa, oc, ca, cc, ta, tc, T⟩).r) := by
        refine (show Hid _ from ⟨?_, ?_, ?_, rfl, ?_, fun y hy => gA.l y hy⟩)
        · show HasX wA B (.slice la (marksX (n0 + 5) xl.length).length lc) (marksX (n0 + 5) xl.length)
          rw [marksX_length]
          exact HasE.chs HL.out cA (NS _ fun v hv => P1.out v (by simp only [List.mem_cons] at hv ⊢; exact .inr (.inr hv)))
        · show HasN wA B (.slice oa (marksU (n0 + 6 + xl.length) xok.length).length oc) (marksU (n0 + 6 + xl.length) xok.length)
          rw [marksU_len]
          exact HasE.chs HO.out cA (NS _ fun v hv => P2.out v (by simp only [List.mem_cons] at hv ⊢; exact .inr hv))
        · show HasN wA B (.slice ca (marksU (n0 + 6 + xl.length + xok.length) xch.length).length cc) (marksU (n0 + 6 + xl.length + xok.length) xch.length)
          rw [marksU_len]
          exact HasE.chs HC.out cA (NS _ fun v hv => P3.out v hv)
        · show HasM wA B (.slice ta ((mkTe (n0 + 6 + xl.length + xok.length + xch.length) T).map (·.m)).length tc) (mkTe (n0 + 6 + xl.length + xok.length + xch.length) T)
          rw [List.length_map, mkTe_length]
          exact hA
      clear hA gA cA NS H7 C7 HL HO HC HE HG j2 j3 j4
      go_wp2_with fail
      go_roundw
      case rel =>
        refine ⟨k + 1, by omega, by go_num, ?_, ?_, ?_, ?_⟩
        · have e1 := HCT.out
          have e2 := HN0.out
          have e3 := HN.out.2.2.2.2.2.2
          have e4 := HCR.out
          rw [e1, e3, e4]
          congr 1
          omega
        · rw [← HNX.out]; exact HR.out
        · show Hid _
          rw [← HNX.out]
          refine (show Hid _ from fun y hy => ?_)
          obtain ⟨j, hj, rfl⟩ := List.getElem_of_mem hy
          have hj' : j < (mkQ s L k).length := by simpa using hj
          by_cases hjk : j = k
          · subst hjk
            rw [List.getElem_set_self]
            exact RH.out
          · rw [List.getElem_set_ne (fun e => hjk e.symm)]
            have hjL : j < L.length := by rw [← hml.out]; exact hj'
            refine (HLJ.out j hj').off fun v hv q hq => ?_
            refine CF.out.block q ((HLJ.out j hj').under v hv q hq) ?_
            rintro ⟨b, hb, hbq⟩
            rw [HRJ.out j hjL hj'] at hv
            refine HOJ.out j hjL hjk v hv b ?_ q hq hbq
            rw [hrw.out]
            exact hb
        · refine (show Hid _ from ChS.trans hch.out (CF.out.mono fun q ⟨b, hb, hbq⟩ => ⟨b, ?_, hbq⟩))
          rcases List.mem_cons.1 hb with rfl | hb
          · exact List.mem_cons_self
          · exact List.mem_cons_of_mem _ (HRK.out b (by rw [hrw.out]; exact hb))
      case measure => simp [intOf]; omega
    · obtain rfl : k = L.length := by omega
      rw [mkQ_all] at ho hlg
      have et : L.take L.length = L := List.take_of_length_le (Nat.le_refl _)
      rw [et]
      go_wp2
      go_ret
      exact ⟨rfl, ho.out, hlg.out, hch.out⟩
end Go.Proofs.Ytdkhdjickkcaiaa.Rl

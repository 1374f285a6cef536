/-
  The walk of FnExactNewCluster.
  The walk of FnExactNewCluster, whole.
-/
import Derived.Test.YtdkhdjickkcaiaaRN21
import Derived.Deep.RegionWith
import Derived.Deep.DeepCutAuto
import Derived.Deep.Cut
import Derived.Deep.CutRange
namespace Go.Proofs.Ytdkhdjickkcaiaa.Rl
open Go.RowKit Go.Sort
set_option linter.unusedVariables false
set_option linter.unusedSimpArgs false

/-- A cluster of a call's own, its replicas rs, no message. -/
structure ClO (B hi : Nat) (w : World) (rs : List Rp) (a : Option Addr) (c : Nat) (b : Option Addr) (d : Nat) (L : List Rx) : Prop where
  e : L.map (·.r) = rs
  h : HasR w B (.slice a rs.length c) L
  r : Rps w B L
  ap : ∀ u ∈ rowsR L, Rl.ap (.slice a rs.length c) u
  m : HasM w B (.slice b 0 d) []
  am : ∀ u ∈ Value.slice a rs.length c :: rowsR L, Rl.ap u (.slice b 0 d)
  u : ∀ u ∈ Value.slice b 0 d :: Value.slice a rs.length c :: rowsR L, ∀ k, u.ownBlock = some k → k < hi
theorem ClO.len {B hi : Nat} {w : World} {rs : List Rp} {a : Option Addr} {c : Nat} {b : Option Addr} {d : Nat} {L : List Rx} (h : ClO B hi w rs a c b d L) : rs.length = L.length := by rw [← h.e, List.length_map]
theorem ClO.kept {B hi : Nat} {w w' : World} {rs : List Rp} {a : Option Addr} {c : Nat} {b : Option Addr} {d : Nat} {L : List Rx} (h : ClO B hi w rs a c b d L) (hb : Below w.heap.size w w') : ClO B hi w' rs a c b d L := ⟨h.e, h.h.kept hb, h.r.kept hb, h.ap, h.m.kept hb, h.am, h.u⟩
/-- .. and the same, as what reads so. -/
def ClR1 (w : World) (rs : List Rp) (a : Option Addr) (c : Nat) (b : Option Addr) (d : Nat) : Prop := ∃ L : List Rx, L.map (·.r) = rs ∧ ClGot w (.slice a rs.length c) (.slice b 0 d) L []
theorem ClR1.kept {w w' : World} {rs : List Rp} {a : Option Addr} {c : Nat} {b : Option Addr} {d : Nat} (h : ClR1 w rs a c b d) (hb : Below w.heap.size w w') : ClR1 w' rs a c b d := by
  obtain ⟨L, h1, h2⟩ := h
  exact ⟨L, h1, h2.kept hb⟩
theorem ClO.got {B hi : Nat} {w : World} {rs : List Rp} {a : Option Addr} {c : Nat} {b : Option Addr} {d : Nat} {L : List Rx} (h : ClO B hi w rs a c b d L) : ClR1 w rs a c b d :=
  ⟨L, h.e, ⟨h.h.sls, h.r.got⟩, ⟨h.m.sls, fun x hx => nomatch hx⟩⟩
/-- What is marked of it, as what reads so. -/
def ClM1 (w : World) (rs : List Rp) (a : Option Addr) (c : Nat) (b : Option Addr) (d : Nat) : Prop := ∃ L : List Rx, L.map (·.r) = rs ∧ (∀ x ∈ L, x.T.map (·.m) = x.r.te) ∧ ClGot w (.slice a rs.length c) (.slice b 0 d) (mkRs 1 L) []
theorem ClM1.kept {w w' : World} {rs : List Rp} {a : Option Addr} {c : Nat} {b : Option Addr} {d : Nat} (h : ClM1 w rs a c b d) (hb : Below w.heap.size w w') : ClM1 w' rs a c b d := by
  obtain ⟨L, h1, h2, h3⟩ := h
  exact ⟨L, h1, h2, h3.kept hb⟩
/-- Few replicas, each of them small. -/
structure Few (rs : List Rp) : Prop where
  n : rs.length ≤ 5
  f : ∀ r ∈ rs, Fit r ∧ cR r ≤ 5
def newRs (n : Int) : List Rp := if pOk n then newCl n else []
theorem newRs_few (n : Int) : Few (newRs n) := by
  unfold newRs
  by_cases hp : pOk n
  · rw [if_pos hp]
    unfold newCl
    refine ⟨by rw [List.length_map, List.length_range]; rcases hp with h | h | h <;> omega, fun r hr => ?_⟩
    obtain ⟨i, _, rfl⟩ := List.mem_map.1 hr
    exact ⟨newA_fit' _ _, newA_cR' _ _⟩
  · rw [if_neg hp]
    exact ⟨Nat.zero_le _, fun r hr => nomatch hr⟩
def kCl (rs : List Rp) : Nat := (rs.map fun r => 6 + cR r).sum
theorem cRs_kCl {L : List Rx} {rs : List Rp} (h : L.map (·.r) = rs) : cRs L = kCl rs := by
  unfold cRs kCl
  rw [← h, List.map_map]
  rfl
theorem kCl_le : ∀ (rs : List Rp), (∀ r ∈ rs, cR r ≤ 5) → kCl rs ≤ rs.length * 11
  | [], _ => Nat.zero_le _
  | r :: t, h => by
    have h1 := h r (by simp)
    have h2 := kCl_le t fun x hx => h x (by simp [hx])
    unfold kCl at h2 ⊢
    simp only [List.map_cons, List.sum_cons, List.length_cons]
    omega
theorem Few.fit {rs : List Rp} (h : Few rs) {L : List Rx} (he : L.map (·.r) = rs) : ClFit L [] where
  ll := by have := h.n; rw [← he, List.length_map] at this; omega
  lf := fun x hx => (h.f x.r (by rw [← he]; exact List.mem_map_of_mem hx)).1
  ml := Nat.zero_le _
  mf := fun x hx => nomatch hx
theorem ClAns.cl {n : Int} {w w' : World} {e : Ending} (h : ClAns n w e w') : ∃ a c b d L, e = .returned (.tuple #[.agg #[.slice a (newRs n).length c, .slice b 0 d], .bool (decide (pOk n))]) ∧ ClO w.heap.size w'.heap.size w' (newRs n) a c b d L ∧ Below w.heap.size w w' := by
  obtain ⟨L, a1, c1, b1, d1, h1, h2, h3, h4, h5, h6, h7, h8⟩ := h
  have hl : (newRs n).length = L.length := by show (if pOk n then newCl n else []).length = _; rw [← h2, List.length_map]
  refine ⟨a1, c1, b1, d1, L, by rw [hl]; exact h1, ⟨h2, by rw [hl]; exact h3, h4, by rw [hl]; exact h5, h6, by rw [hl]; exact h7, fun u hu => ?_⟩, h8⟩
  rcases List.mem_cons.1 hu with rfl | hu
  · exact h6.under
  · rcases List.mem_cons.1 hu with rfl | hu
    · rw [hl]; exact h3.under
    · exact h4.under u hu
theorem eqCl1 {rs : List Rp} (hf : Few rs) (a : Option Addr) (c : Nat) (b : Option Addr) (d : Nat) (a' : Option Addr) (c' : Nat) (b' : Option Addr) (d' : Nat) (w : World) (h : ClR1 w rs a c b d) (h' : ClR1 w rs a' c' b' d') :
    Calls Try.prog 10 #[.agg #[.slice a rs.length c, .slice b 0 d], .agg #[.slice a' rs.length c', .slice b' 0 d']] w fun e w' => e = .returned (.bool true) ∧ Below w.heap.size w w' := by
  obtain ⟨L, e1, g1⟩ := h
  obtain ⟨L', e2, g2⟩ := h'
  have q1 : rs.length = L.length := by rw [← e1, List.length_map]
  have := eqClu a c b d a' c' b' d' L [] L' [] w (by rw [← q1]; exact g1) (by rw [← q1]; exact g2) (show _ = _ from e2.trans e1.symm) rfl (hf.fit e1)
  rw [← q1] at this
  exact this
theorem markCl1 {rs : List Rp} (hf : Few rs) (a : Option Addr) (c : Nat) (b : Option Addr) (d : Nat) (B hi : Nat) (L : List Rx) (w : World) (h : ClO B hi w rs a c b d L) :
    Calls Try.prog 13 #[.agg #[.slice a rs.length c, .slice b 0 d], .int .i64 1] w fun e w' => e = .returned (.int .i64 ((1 : Int) + (kCl rs : Int))) ∧ ClM1 w' rs a c b d ∧ ChS (fun k => B ≤ k ∧ k < hi) w w' := by
  have q1 := h.len
  have hk : kCl rs ≤ 55 := by have := kCl_le rs (fun r hr => (hf.f r hr).2); have := hf.n; omega
  have hc := cRs_kCl h.e
  have ht : ∀ x ∈ L, x.T.map (·.m) = x.r.te := fun x hx => (h.r.l x hx).got.t
  have hfr : ∀ u ∈ (Value.slice a L.length c :: rowsR L) ++ (Value.slice b 0 d :: ([] : List Mx).map Mx.u), ∀ k, u.ownBlock = some k → B ≤ k ∧ k < hi := fun u hu k hk => by
    rcases List.mem_append.1 hu with hu | hu
    · rcases List.mem_cons.1 hu with rfl | hu
      · rw [← q1] at hk; exact ⟨h.h.from k hk, h.u _ (by simp) k hk⟩
      · exact ⟨h.r.from u hu k hk, h.u u (by simp [hu]) k hk⟩
    · obtain rfl := List.mem_singleton.1 hu
      exact ⟨h.m.from k hk, h.u _ (by simp) k hk⟩
  have := markClu 1 (Nat.le_refl _) a c b d L [] (by rw [hc]; simp [cT, cL]; omega) B w (by rw [← q1]; exact h.h) h.r (by rw [← q1]; exact h.ap) h.m (Logs.nil _ _) (fun x hx => nomatch hx) (fun u hu v hv => by
    obtain rfl := List.mem_singleton.1 hv
    rw [← q1] at hu
    exact h.am u hu) (hf.fit h.e)
  rw [← q1] at this
  refine this.mono fun e w' ⟨h1, h2, h3⟩ => ⟨?_, ⟨L, h.e, ht, ?_⟩, h3.mono fun k ⟨u, hu, huk⟩ => hfr u (by rw [← q1]; exact hu) k huk⟩
  · rw [h1, hc]
    simp [cT, cL]
  · exact h2
theorem heldCl1 {rs : List Rp} (hf : Few rs) (a : Option Addr) (c : Nat) (b : Option Addr) (d : Nat) (w : World) (h : ClM1 w rs a c b d) :
    Calls Try.prog 14 #[.agg #[.slice a rs.length c, .slice b 0 d], .int .i64 1] w fun e w' => e = .returned (.int .i64 ((1 : Int) + (kCl rs : Int))) ∧ Below w.heap.size w w' := by
  obtain ⟨L, e1, ht, g1⟩ := h
  have q1 : rs.length = L.length := by rw [← e1, List.length_map]
  have hk : kCl rs ≤ 55 := by have := kCl_le rs (fun r hr => (hf.f r hr).2); have := hf.n; omega
  have hc := cRs_kCl e1
  have := heldClu 1 (Nat.le_refl _) a c b d L [] (by rw [hc]; simp [cT, cL]; omega) w (by rw [← q1]; exact g1) ht (hf.fit e1)
  rw [← q1] at this
  refine this.mono fun e w' ⟨h1, h2⟩ => ⟨?_, h2⟩
  rw [h1, hc]
  simp [cT, cL]
end Go.Proofs.Ytdkhdjickkcaiaa.Rl
namespace Go.Proofs.Ytdkhdjickkcaiaa.Rl
open Go.RowKit Go.Sort
set_option linter.unusedVariables false
set_option linter.unusedSimpArgs false

set_option maxRecDepth 100000 in
set_option maxHeartbeats 16000000 in
theorem walkNcl (n : Int) (w : World) :
    Calls Try.prog 4 #[.int .i64 n] w fun e w' => e = .returned (.bool true) ∧ Below w.heap.size w w' := by
  have hsp := fun W => (specNcl n W).mono fun e w' h => ClAns.cl h
  have him := fun W => (implNcl n W).mono fun e w' h => ClAns.cl h
  have hf := newRs_few n
  have hel := fun a c b d a' c' b' d' W h h' => eqCl1 hf a c b d a' c' b' d' W h h'
  have hmk := fun a c b d B hi L W h => markCl1 hf a c b d B hi L W h
  have hhd := fun a c b d W h => heldCl1 hf a c b d W h
  have hk0 : ¬ (1 : Int) + (kCl (newRs n) : Int) < 0 := by omega
  generalize (1 : Int) + (kCl (newRs n) : Int) = kk at hmk hhd hk0
  generalize newRs n = rs at *
  generalize decide (pOk n) = bb at *
  have dbb : (bb != bb) = false := by simp
  have dkk : (kk != kk) = false := by simp
  clear hf
  go_enter Try.func4, Try.ntmps4
  go_wp2_with fail
  refine (hsp _).mono ?_
  rintro e w1 ⟨a1, c1, b1, d1, L1, rfl, ho, hb⟩
  have hbA : Below w1.heap.size w1 (w1.alloc (.cells #[.slice a1 rs.length c1, .slice b1 0 d1] 31)) := (Below.refl _ _).alloc (Nat.le_refl _) _
  have S : Hid (ClR1 (w1.alloc (.cells #[.slice a1 rs.length c1, .slice b1 0 d1] 31)) rs a1 c1 b1 d1) := (show Hid _ from ho.got.kept hbA)
  have S0 : Hid (Bx (w1.alloc (.cells #[.slice a1 rs.length c1, .slice b1 0 d1] 31)) w1.heap.size 31 #[.slice a1 rs.length c1, .slice b1 0 d1]) := (show Hid _ from Bx.new _ _ _)
  have BB : Hid (Below w.heap.size w (w1.alloc (.cells #[.slice a1 rs.length c1, .slice b1 0 d1] 31))) := (show Hid _ from hb.trans (hbA.mono hb.size))
  have Z2 : Hid ((w1.alloc (.cells #[.slice a1 rs.length c1, .slice b1 0 d1] 31)).heap.size = w1.heap.size + 1) := (show _ = _ from by simp)
  clear hb ho hbA hsp
  generalize hww : (w1.alloc (.cells #[.slice a1 rs.length c1, .slice b1 0 d1] 31)) = w2 at S S0 BB Z2
  go_wp2_with fail
  clear hww
  refine (him _).mono ?_
  rintro e w3 ⟨a2, c2, b2, d2, L2, rfl, ho, hb⟩
  have hbA : Below w3.heap.size w3 (w3.alloc (.cells #[.slice a2 rs.length c2, .slice b2 0 d2] 31)) := (Below.refl _ _).alloc (Nat.le_refl _) _
  have X : Hid (ClO w2.heap.size w3.heap.size (w3.alloc (.cells #[.slice a2 rs.length c2, .slice b2 0 d2] 31)) rs a2 c2 b2 d2 L2) := (show Hid _ from ho.kept hbA)
  have X0 : Hid (Bx (w3.alloc (.cells #[.slice a2 rs.length c2, .slice b2 0 d2] 31)) w3.heap.size 31 #[.slice a2 rs.length c2, .slice b2 0 d2]) := (show Hid _ from Bx.new _ _ _)
  have D : Hid (Below w2.heap.size w2 (w3.alloc (.cells #[.slice a2 rs.length c2, .slice b2 0 d2] 31))) := (show Hid _ from hb.trans (hbA.mono hb.size))
  have Z3 : Hid (w2.heap.size ≤ w3.heap.size) := (show _ ≤ _ from hb.size)
  clear hb ho hbA
  generalize hww : (w3.alloc (.cells #[.slice a2 rs.length c2, .slice b2 0 d2] 31)) = w4 at X X0 D
  have s0 := (Bx.low S0.out D.out (by have := Z2.out; omega)).cell 0
  have s1 := (Bx.low S0.out D.out (by have := Z2.out; omega)).cell 1
  have x0 := X0.out.cell 0
  have x1 := X0.out.cell 1
  go_wp2_with fail
  clear hww s0 s1 x0 x1
  refine (hel _ _ _ _ _ _ _ _ _ X.out.got (S.out.kept D.out)).mono ?_
  rintro e w5 ⟨rfl, hb⟩
  replace X : Hid (ClO w2.heap.size w3.heap.size w5 rs a2 c2 b2 d2 L2) := (show Hid _ from X.out.kept hb)
  replace X0 : Hid (Bx w5 w3.heap.size 31 #[.slice a2 rs.length c2, .slice b2 0 d2]) := (show Hid _ from Bx.kept X0.out hb)
  replace D : Hid (Below w2.heap.size w2 w5) := (show Hid _ from D.out.trans (hb.mono D.out.size))
  clear hb
  have x0 := X0.out.cell 0
  have x1 := X0.out.cell 1
  go_wp2_with fail
  clear x0 x1
  refine (hmk _ _ _ _ _ _ _ _ X.out).mono ?_
  rintro e w6 ⟨rfl, hm, hc⟩
  have K : Hid (ClM1 w6 rs a2 c2 b2 d2) := (show Hid _ from hm)
  replace X0 : Hid (Bx w6 w3.heap.size 31 #[.slice a2 rs.length c2, .slice b2 0 d2]) := (show Hid _ from (hc.block _ (Bx.lt X0.out) (fun h => Nat.lt_irrefl _ h.2)).trans X0.out)
  replace D : Hid (Below w2.heap.size w2 w6) := (show Hid _ from hc.below D.out D.out.size fun k hk => hk.1)
  clear hm hc X hmk
  have x0 := X0.out.cell 0
  have x1 := X0.out.cell 1
  go_wp2_with fail
  clear x0 x1
  refine (hhd _ _ _ _ _ K.out).mono ?_
  rintro e w7 ⟨rfl, hb⟩
  replace K : Hid (ClM1 w7 rs a2 c2 b2 d2) := (show Hid _ from K.out.kept hb)
  replace X0 : Hid (Bx w7 w3.heap.size 31 #[.slice a2 rs.length c2, .slice b2 0 d2]) := (show Hid _ from Bx.kept X0.out hb)
  replace D : Hid (Below w2.heap.size w2 w7) := (show Hid _ from D.out.trans (hb.mono D.out.size))
  clear hb
  go_wp2_with fail
  refine (him _).mono ?_
  rintro e w8 ⟨a3, c3, b3, d3, L3, rfl, ho, hb⟩
  have hbA : Below w8.heap.size w8 (w8.alloc (.cells #[.slice a3 rs.length c3, .slice b3 0 d3] 31)) := (Below.refl _ _).alloc (Nat.le_refl _) _
  have Y : Hid (ClR1 (w8.alloc (.cells #[.slice a3 rs.length c3, .slice b3 0 d3] 31)) rs a3 c3 b3 d3) := (show Hid _ from ho.got.kept hbA)
  have Y0 : Hid (Bx (w8.alloc (.cells #[.slice a3 rs.length c3, .slice b3 0 d3] 31)) w8.heap.size 31 #[.slice a3 rs.length c3, .slice b3 0 d3]) := (show Hid _ from Bx.new _ _ _)
  have hb2 := hb.trans (hbA.mono hb.size)
  replace K : Hid (ClM1 (w8.alloc (.cells #[.slice a3 rs.length c3, .slice b3 0 d3] 31)) rs a2 c2 b2 d2) := (show Hid _ from K.out.kept hb2)
  replace X0 : Hid (Bx (w8.alloc (.cells #[.slice a3 rs.length c3, .slice b3 0 d3] 31)) w3.heap.size 31 #[.slice a2 rs.length c2, .slice b2 0 d2]) := (show Hid _ from Bx.kept X0.out hb2)
  replace D : Hid (Below w2.heap.size w2 (w8.alloc (.cells #[.slice a3 rs.length c3, .slice b3 0 d3] 31))) := (show Hid _ from D.out.trans (hb2.mono D.out.size))
  clear hb ho hbA hb2 him
  generalize hww : (w8.alloc (.cells #[.slice a3 rs.length c3, .slice b3 0 d3] 31)) = w9 at Y Y0 K X0 D
  have s0 := (Bx.low S0.out D.out (by have := Z2.out; omega)).cell 0
  have s1 := (Bx.low S0.out D.out (by have := Z2.out; omega)).cell 1
  have x0 := Y0.out.cell 0
  have x1 := Y0.out.cell 1
  go_wp2_with fail
  clear hww s0 s1 x0 x1
  refine (hel _ _ _ _ _ _ _ _ _ Y.out (S.out.kept D.out)).mono ?_
  rintro e wA ⟨rfl, hb⟩
  replace K : Hid (ClM1 wA rs a2 c2 b2 d2) := (show Hid _ from K.out.kept hb)
  replace X0 : Hid (Bx wA w3.heap.size 31 #[.slice a2 rs.length c2, .slice b2 0 d2]) := (show Hid _ from Bx.kept X0.out hb)
  replace D : Hid (Below w2.heap.size w2 wA) := (show Hid _ from D.out.trans (hb.mono D.out.size))
  clear hb Y Y0 hel
  have x0 := X0.out.cell 0
  have x1 := X0.out.cell 1
  go_wp2_with fail
  clear x0 x1
  refine (hhd _ _ _ _ _ K.out).mono ?_
  rintro e wB ⟨rfl, hb⟩
  replace D : Hid (Below w2.heap.size w2 wB) := (show Hid _ from D.out.trans (hb.mono D.out.size))
  have BF : Hid (Below w.heap.size w wB) := (show Hid _ from BB.out.trans (D.out.mono BB.out.size))
  clear hb K X0 S S0 hhd
  go_wp2
  go_ret
  exact ⟨rfl, BF.out⟩
end Go.Proofs.Ytdkhdjickkcaiaa.Rl

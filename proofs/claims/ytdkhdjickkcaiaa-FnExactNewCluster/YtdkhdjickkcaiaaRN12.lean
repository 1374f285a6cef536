/-
  Rows of replicas in memory.
  A row of replicas, turned by the laws: new rows, each replica with rows of its own.
  Clusters: measured, turned, compared by the laws.
-/
import Derived.Test.YtdkhdjickkcaiaaRN11
import Derived.Test.YtdkhdjickkcaiaaRN03
import Derived.ChangeSlices
import Derived.ChangeArms
import Derived.ProofKit
import Derived.OpenShut
import Derived.ShutString
import Derived.Lib.SmallJoins
import Derived.Lib.LaidU8
import Derived.Test.YtdkhdjickkcaiaaRN04
import Derived.Deep.SlicePairs
namespace Go.Proofs.Ytdkhdjickkcaiaa.Rl
open Go.RowKit Go.Sort Go.ChangeShapes Go.WideShapes Go.ChangeAt Go.Joins Go.Deep
set_option linter.unusedVariables false
set_option linter.unusedSimpArgs false

/-- A replica and where its four slices lie. -/
structure Rx where
  r : Rp
  la : Option Addr
  lc : Nat
  oa : Option Addr
  oc : Nat
  ca : Option Addr
  cc : Nat
  ta : Option Addr
  tc : Nat
  T : List Mx
def Rx.u (x : Rx) : Rv := ⟨.slice x.la x.r.l.length x.lc, .slice x.oa x.r.ok.length x.oc, .slice x.ca x.r.ch.length x.cc, .slice x.ta x.r.te.length x.tc, x.T⟩
def rxC (x : Rx) : List Value := [.int .i64 x.r.id, .int .i64 x.r.p, .int .i64 x.r.v, .bool x.r.n, .int .i64 x.r.la, .slice x.la x.r.l.length x.lc, .int .i64 x.r.c, .slice x.oa x.r.ok.length x.oc, .slice x.ca x.r.ch.length x.cc, .slice x.ta x.r.te.length x.tc]
def rxE : Enc Rx where
  k := 10
  pos := by decide
  c := rxC
  len := fun _ => rfl
  one := fun x u hu => by
    simp only [rxC, List.mem_cons, List.not_mem_nil, or_false] at hu
    rcases hu with rfl | rfl | rfl | rfl | rfl | rfl | rfl | rfl | rfl | rfl <;> rfl
/-- The cells of the j-th replica of a row. -/
structure RxAt (w : World) (g o : Nat) (x : Rx) : Prop where
  c0 : w.cell? ⟨g, o, none⟩ = some (.int .i64 x.r.id)
  c1 : w.cell? ⟨g, o + 1, none⟩ = some (.int .i64 x.r.p)
  c2 : w.cell? ⟨g, o + 2, none⟩ = some (.int .i64 x.r.v)
  c3 : w.cell? ⟨g, o + 3, none⟩ = some (.bool x.r.n)
  c4 : w.cell? ⟨g, o + 4, none⟩ = some (.int .i64 x.r.la)
  c5 : w.cell? ⟨g, o + 5, none⟩ = some (.slice x.la x.r.l.length x.lc)
  c6 : w.cell? ⟨g, o + 6, none⟩ = some (.int .i64 x.r.c)
  c7 : w.cell? ⟨g, o + 7, none⟩ = some (.slice x.oa x.r.ok.length x.oc)
  c8 : w.cell? ⟨g, o + 8, none⟩ = some (.slice x.ca x.r.ch.length x.cc)
  c9 : w.cell? ⟨g, o + 9, none⟩ = some (.slice x.ta x.r.te.length x.tc)
theorem rxCells {w : World} {g q n cap : Nat} {L : List Rx} (h : Sls rxE w (.slice (some ⟨g, q, none⟩) n cap) L) {j : Nat} (hj : j < L.length) : RxAt w g (q + j * 10) L[j] := by
  obtain ⟨a, cap', hv, h1, h2, h3⟩ := h
  obtain ⟨g', q', ha, hg, hc⟩ := h3 (by omega)
  cases hv
  cases ha
  have k : ∀ i (hi : i < 10) u, (rxC L[j])[i]? = some u → w.cell? ⟨g, q + j * 10 + i, none⟩ = some u := fun i hi u hu => by
    have := hc (j * 10 + i) u ((cellsE_at rxE L j hj i hi).trans hu)
    rw [← Nat.add_assoc] at this
    exact this
  exact ⟨k 0 (by decide) _ rfl, k 1 (by decide) _ rfl, k 2 (by decide) _ rfl, k 3 (by decide) _ rfl, k 4 (by decide) _ rfl, k 5 (by decide) _ rfl, k 6 (by decide) _ rfl, k 7 (by decide) _ rfl, k 8 (by decide) _ rfl, k 9 (by decide) _ rfl⟩
theorem rxAt {w : World} {a : Option Addr} {n cap : Nat} {L : List Rx} (h : Sls rxE w (.slice a n cap) L) (hl : 0 < L.length) : ∃ g q, a = some ⟨g, q, none⟩ := by
  obtain ⟨a', cap', hv, _, _, h3⟩ := h
  obtain ⟨g, q, ha, _⟩ := h3 hl
  cases hv
  exact ⟨g, q, ha⟩
/-- A row of replicas at v. -/
def RsGot (w : World) (v : Value) (L : List Rx) : Prop := Sls rxE w v L ∧ ∀ x ∈ L, RpGot w x.u x.r
theorem RsGot.kept {w w' : World} {v : Value} {L : List Rx} (h : RsGot w v L) (hb : Below w.heap.size w w') : RsGot w' v L := ⟨h.1.kept hb, fun x hx => (h.2 x hx).kept hb⟩
/-- The same replicas. -/
def SameR (L M : List Rx) : Prop := M.map (·.r) = L.map (·.r)
theorem SameR.len {L M : List Rx} (h : SameR L M) : M.length = L.length := by have := congrArg List.length h; simpa using this
theorem SameR.at {L M : List Rx} (h : SameR L M) {j : Nat} (h1 : j < M.length) (h2 : j < L.length) : M[j].r = L[j].r := by
  have := congrArg (fun l => l[j]?) h
  simpa [h1, h2] using this
set_option maxRecDepth 100000 in
set_option maxHeartbeats 4000000 in
theorem eqRps (va vb : Value) (L M : List Rx) (w : World) (ha : RsGot w va L) (hb : RsGot w vb M) (hs : SameR L M) (hsm : ∀ x ∈ L, Fit x.r) (hn : L.length ≤ 1048576) :
    Calls Try.prog 30 #[va, vb] w fun e w' => e = .returned (.bool true) ∧ Below w.heap.size w w' := by
  have hml := hs.len
  have HA : Hid (RsGot w va L) := ha
  have HB : Hid (RsGot w vb M) := hb
  obtain ⟨⟨a, ca, rfl, _⟩, _⟩ := ha
  obtain ⟨⟨b, cb, rfl, _⟩, _⟩ := hb
  have HS : Hid (SameR L M) := hs
  have HSM : Hid (∀ x ∈ L, Fit x.r) := hsm
  have dl : ((L.length : Int) != (M.length : Int)) = false := by rw [hml]; simp
  have HML : Hid (M.length = L.length) := hml
  clear hs hsm hml
  go_enter Try.func30, Try.ntmps30
  go_wp2_with fail
  go_loopw [5] (fun i wr => ∃ (k : Nat), k ≤ L.length ∧ i = .int .i64 k ∧ Hid (Below w.heap.size w wr)) (fun i _ => L.length - (intOf i).toNat)
  case atStart => exact ⟨0, Nat.zero_le _, rfl, Below.refl _ _⟩
  case round =>
    obtain ⟨k, hk, rfl, hb⟩ := hrel
    by_cases hlt : k < L.length
    · have hltM : k < M.length := by rw [HML.out]; exact hlt
      have HA2 := HA.out.kept hb.out
      have HB2 := HB.out.kept hb.out
      obtain ⟨g, q, rfl⟩ := rxAt HA2.1 (by omega)
      obtain ⟨g', q', rfl⟩ := rxAt HB2.1 (by omega)
      have CK := rxCells HA2.1 hlt
      have CM := rxCells HB2.1 hltM
      have hxo := HS.out.at hltM hlt
      have rx := HA2.2 L[k] (List.getElem_mem hlt)
      have ry := HB2.2 M[k] (List.getElem_mem hltM)
      have sx := HSM.out L[k] (List.getElem_mem hlt)
      generalize L[k] = x at CK hxo rx sx
      generalize M[k] = y at CM hxo ry
      obtain ⟨mr, la', lc', oa', oc', ca', cc', ta', tc', T'⟩ := y
      simp only at hxo
      subst hxo
      have hE := fun W (hW : Below wr.heap.size wr W) => eqRp x.r x.u (Rx.u ⟨x.r, la', lc', oa', oc', ca', cc', ta', tc', T'⟩) W (rx.kept hW) (RpGot.kept ry hW) sx
      unfold rpA Rx.u at hE
      simp only at hE
      obtain ⟨⟨xi, xp, xv, xn, xla, xl, xc, xok, xch, xte⟩, la, lc, oa, oc, ca, cc, ta, tc, T⟩ := x
      obtain ⟨c0, c1, c2, c3, c4, c5, c6, c7, c8, c9⟩ := CK
      obtain ⟨m0, m1, m2, m3, m4, m5, m6, m7, m8, m9⟩ := CM
      simp only at c0 c1 c2 c3 c4 c5 c6 c7 c8 c9 m0 m1 m2 m3 m4 m5 m6 m7 m8 m9 hE
      generalize xl.length = e1 at c5 m5 hE
      generalize xok.length = e2 at c7 m7 hE
      generalize xch.length = e3 at c8 m8 hE
      generalize xte.length = e4 at c9 m9 hE
      have cE : ∀ d os, Calls Try.prog 62 #[.agg #[.int .i64 xi, .int .i64 xp, .int .i64 xv, .bool xn, .int .i64 xla, .slice la e1 lc, .int .i64 xc, .slice oa e2 oc, .slice ca e3 cc, .slice ta e4 tc], .agg #[.int .i64 xi, .int .i64 xp, .int .i64 xv, .bool xn, .int .i64 xla, .slice la' e1 lc', .int .i64 xc, .slice oa' e2 oc', .slice ca' e3 cc', .slice ta' e4 tc']] (grow (redrawn wr d) os) fun e w'' => e = .returned (.bool true) ∧ ∃ p : Regrown, w'' = grow (redrawn wr p.d) p.os := fun d os => Calls.regrown_of (hE _ (below_regrown wr d os))
      have k0 := cell_regrown c0
      have k1 := cell_regrown c1
      have k2 := cell_regrown c2
      have k3 := cell_regrown c3
      have k4 := cell_regrown c4
      have k5 := cell_regrown c5
      have k6 := cell_regrown c6
      have k7 := cell_regrown c7
      have k8 := cell_regrown c8
      have k9 := cell_regrown c9
      have n0 := cell_regrown m0
      have n1 := cell_regrown m1
      have n2 := cell_regrown m2
      have n3 := cell_regrown m3
      have n4 := cell_regrown m4
      have n5 := cell_regrown m5
      have n6 := cell_regrown m6
      have n7 := cell_regrown m7
      have n8 := cell_regrown m8
      have n9 := cell_regrown m9
      clear c0 c1 c2 c3 c4 c5 c6 c7 c8 c9 m0 m1 m2 m3 m4 m5 m6 m7 m8 m9 hE rx ry sx HA2 HB2
      go_upto_region 6 with fail
      refine wp_region_quiet_below (by kernel_rfl) (by kernel_rfl) ?_
      repeat (go_big_quiet_step (first | (with_reducible exact cE _ _)))
      refine wpQuiet_nil ?_
      intro _ hw'
      obtain ⟨⟨dq, osq⟩, hw''⟩ := hw'
      subst hw''
      have B6 : Hid (Below w.heap.size w (grow (redrawn wr dq) osq)) := hb.out.trans ((below_regrown wr dq osq).mono hb.out.size)
      generalize grow (redrawn wr dq) osq = w6 at B6 ⊢
      clear k0 k1 k2 k3 k4 k5 k6 k7 k8 k9 n0 n1 n2 n3 n4 n5 n6 n7 n8 n9 cE hb
      go_wp2_with fail
      go_roundw
      case rel => exact ⟨k + 1, by omega, by go_num, B6⟩
      case measure => simp [intOf]; omega
    · go_wp2
      go_ret
      exact ⟨rfl, hb.out⟩
end Go.Proofs.Ytdkhdjickkcaiaa.Rl
namespace Go.Proofs.Ytdkhdjickkcaiaa.Rl
open Go.RowKit Go.Sort
set_option linter.unusedVariables false
set_option linter.unusedSimpArgs false

def rxZ : Rx := ⟨noRp, none, 0, none, 0, none, 0, none, 0, []⟩
theorem Try.infoRPV : (Try.prog.info? 53).map (fun i => (i.zero, i.size, i.bytes)) = some (some (.agg #[.int .i64 0, .int .i64 0, .int .i64 0, .bool false, .int .i64 0, .slice none 0 0, .int .i64 0, .slice none 0 0, .slice none 0 0, .slice none 0 0]), 10, 144) := by kernel_rfl
theorem madeRx (n : Nat) : (madeCells (Value.cells (.agg #[.int .i64 0, .int .i64 0, .int .i64 0, .bool false, .int .i64 0, .slice none 0 0, .int .i64 0, .slice none 0 0, .slice none 0 0, .slice none 0 0])) (n * 10)).toList = cellsE rxE (List.replicate n rxZ) := by
  apply List.ext_getElem?
  intro j
  by_cases hj : j < n * 10
  · have e : (cellsE rxE (List.replicate n rxZ))[j]? = (rxC rxZ)[j % 10]? := by
      have := cellsE_at rxE (List.replicate n rxZ) (j / 10) (by simp; omega) (j % 10) (Nat.mod_lt _ (by decide))
      rw [List.getElem_replicate, show j / 10 * rxE.k + j % 10 = j from by show j / 10 * 10 + j % 10 = j; omega] at this
      exact this
    rw [e]
    have hm : j % 10 = 0 ∨ j % 10 = 1 ∨ j % 10 = 2 ∨ j % 10 = 3 ∨ j % 10 = 4 ∨ j % 10 = 5 ∨ j % 10 = 6 ∨ j % 10 = 7 ∨ j % 10 = 8 ∨ j % 10 = 9 := by omega
    rcases hm with h2 | h2 | h2 | h2 | h2 | h2 | h2 | h2 | h2 | h2 <;> simp [madeCells, hj, Value.cells, h2, rxC, rxZ, noRp]
  · rw [List.getElem?_eq_none (by simp [madeCells]; omega), List.getElem?_eq_none (by rw [cellsE_length]; show _ ≤ j; simp; show n * 10 ≤ j; omega)]
abbrev HasR := HasE rxE 53
abbrev OwnsR := OwnsE rxE 53
theorem turnR_next (M : List Rx) (n : Nat) (y : Rx) (h : M.length < n) : (M ++ List.replicate (n - M.length) rxZ).set M.length y = (M ++ [y]) ++ List.replicate (n - (M.length + 1)) rxZ := by
  rw [List.set_append_right _ _ (Nat.le_refl _), Nat.sub_self, List.append_assoc]
  congr 1
  rw [show n - M.length = (n - (M.length + 1)) + 1 from by omega, List.replicate_succ, List.set_cons_zero]
  rfl
/-- All rows of all replicas, one behind the other. -/
def rowsR (T : List Rx) : List Value := T.flatMap fun x => x.u.rows
/-- Every row of every replica lies in a block of its own. -/
structure Rps (w : World) (B : Nat) (T : List Rx) : Prop where
  l : ∀ x ∈ T, RpHas w B x.u x.r
  ap : (rowsR T).Pairwise ap
theorem Rps.kept {w w' : World} {B : Nat} {T : List Rx} (h : Rps w B T) (hb : Below w.heap.size w w') : Rps w' B T := ⟨fun x hx => (h.l x hx).kept hb, h.ap⟩
theorem Rps.low {w : World} {B B' : Nat} {T : List Rx} (h : Rps w B T) (hB : B' ≤ B) : Rps w B' T := ⟨fun x hx => (h.l x hx).low hB, h.ap⟩
theorem Rps.got {w : World} {B : Nat} {T : List Rx} (h : Rps w B T) : ∀ x ∈ T, RpGot w x.u x.r := fun x hx => (h.l x hx).got
theorem Rps.nil (w : World) (B : Nat) : Rps w B [] := ⟨fun x hx => (by cases hx), List.Pairwise.nil⟩
theorem Rps.under {w : World} {B : Nat} {T : List Rx} (h : Rps w B T) : ∀ v ∈ rowsR T, ∀ k, v.ownBlock = some k → k < w.heap.size := fun v hv => by
  obtain ⟨x, hx, hv⟩ := List.mem_flatMap.1 hv
  exact (h.l x hx).under v hv
theorem Rps.from {w : World} {B : Nat} {T : List Rx} (h : Rps w B T) : ∀ v ∈ rowsR T, ∀ k, v.ownBlock = some k → B ≤ k := fun v hv => by
  obtain ⟨x, hx, hv⟩ := List.mem_flatMap.1 hv
  exact (h.l x hx).from v hv
theorem Rps.snoc {w : World} {B : Nat} {T : List Rx} (h : Rps w B T) {y : Rx} {C : Nat} (hy : RpHas w C y.u y.r) (hB : B ≤ C) (hp : RpAp y.u) (h1 : ∀ v ∈ rowsR T, ∀ k, v.ownBlock = some k → k < C) : Rps w B (T ++ [y]) where
  l := fun x hx => by
    rcases List.mem_append.1 hx with hx | hx
    · exact h.l x hx
    · obtain rfl := List.mem_singleton.1 hx; exact hy.low hB
  ap := by
    unfold rowsR
    rw [List.flatMap_append, List.pairwise_append]
    refine ⟨h.ap, ?_, fun a ha b hb => ?_⟩
    · simpa [RpAp] using hp
    · have hb : b ∈ y.u.rows := by simpa using hb
      exact apI (h1 a ha) (hy.from b hb)
theorem Rps.same {w w' : World} {B : Nat} {T : List Rx} (h : Rps w B T) (hk : ∀ k, B ≤ k → k < w.heap.size → w'.heap[k]? = w.heap[k]?) : Rps w' B T := ⟨fun x hx => (h.l x hx).off fun v hv k hk' => hk k ((h.l x hx).from v hv k hk') ((h.l x hx).under v hv k hk'), h.ap⟩
theorem Rps.puts {w : World} {B g : Nat} {T : List Rx} (h : Rps w B T) (hg : g < B) (vs : List Value) (i : Nat) : Rps (putL w g vs i) B T := h.same fun k h1 h2 => putL_block _ _ _ _ _ (by omega)
end Go.Proofs.Ytdkhdjickkcaiaa.Rl
namespace Go.Proofs.Ytdkhdjickkcaiaa.Rl
open Go.RowKit Go.Sort
set_option linter.unusedVariables false
set_option linter.unusedSimpArgs false

/-- A cluster in memory: a row of replicas and a row of messages. -/
structure ClGot (w : World) (a b : Value) (L : List Rx) (M : List Mx) : Prop where
  l : RsGot w a L
  m : TeGot w b M
theorem ClGot.kept {w w' : World} {a b : Value} {L : List Rx} {M : List Mx} (h : ClGot w a b L M) (hb : Below w.heap.size w w') : ClGot w' a b L M := ⟨h.l.kept hb, h.m.kept hb⟩
structure ClFit (L : List Rx) (M : List Mx) : Prop where
  ll : L.length ≤ 1048576
  lf : ∀ x ∈ L, Fit x.r
  ml : M.length ≤ 1048576
  mf : ∀ x ∈ M, Sm x.m.l
/-- Two rows that own what they hold. -/
structure RsOwn (w : World) (B : Nat) (a : Value) (L : List Rx) : Prop where
  a : HasR w B a L
  r : Rps w B L
theorem RsOwn.set {w : World} {B g i : Nat} {a : Value} {L : List Rx} (h : RsOwn w B a L) (hg : g < B) (v : Value) : RsOwn (w.setCell ⟨g, i, none⟩ v) B a L :=
  ⟨HasE.oth h.a _ _ (fun k hk => by have := h.a.from k hk; simp <;> omega), h.r.same fun k h1 h2 => Below.heap_setCell _ _ _ _ (by simp <;> omega)⟩
theorem RsOwn.kept {w w' : World} {B : Nat} {a : Value} {L : List Rx} (h : RsOwn w B a L) (hb : Below w.heap.size w w') : RsOwn w' B a L := ⟨h.a.kept hb, h.r.kept hb⟩
structure MzOwn (w : World) (B : Nat) (a : Value) (L : List Mx) : Prop where
  a : HasM w B a L
  r : Logs w B L
theorem MzOwn.set {w : World} {B g i : Nat} {a : Value} {L : List Mx} (h : MzOwn w B a L) (hg : g < B) (v : Value) : MzOwn (w.setCell ⟨g, i, none⟩ v) B a L :=
  ⟨HasE.oth h.a _ _ (fun k hk => by have := h.a.from k hk; simp <;> omega), h.r.same fun k h1 h2 => Below.heap_setCell _ _ _ _ (by simp <;> omega)⟩
set_option maxRecDepth 100000 in
set_option maxHeartbeats 4000000 in
theorem eqClu (aa : Option Addr) (ac : Nat) (ba : Option Addr) (bc : Nat) (ca : Option Addr) (cc : Nat) (da : Option Addr) (dc : Nat) (L : List Rx) (M : List Mx) (L' : List Rx) (M' : List Mx) (w : World) (h : ClGot w (.slice aa L.length ac) (.slice ba M.length bc) L M) (h' : ClGot w (.slice ca L.length cc) (.slice da M.length dc) L' M') (h1 : SameR L L') (h2 : SameM M M') (hf : ClFit L M) :
    Calls Try.prog 10 #[.agg #[.slice aa L.length ac, .slice ba M.length bc], .agg #[.slice ca L.length cc, .slice da M.length dc]] w fun e w' => e = .returned (.bool true) ∧ Below w.heap.size w w' := by
  have j1 := fun W (hW : Below w.heap.size w W) => eqRps (.slice aa L.length ac) (.slice ca L.length cc) L L' W (h.l.kept hW) (h'.l.kept hW) h1 hf.lf hf.ll
  have j2 := fun W (hW : Below w.heap.size w W) => eqMsS (.slice ba M.length bc) (.slice da M.length dc) M M' W (h.m.kept hW) (h'.m.kept hW) h2 (fun x hx => (hf.mf x hx).1) hf.ml
  clear h h' h1 h2 hf
  generalize L.length = nl at *
  generalize M.length = nm at *
  go_enter Try.func10, Try.ntmps10
  go_wp2_with fail
  refine (j1 _ (((Below.refl _ w).alloc (by simp <;> omega) _).alloc (by simp <;> omega) _)).mono ?_
  rintro e w1 ⟨rfl, hb⟩
  simp at hb
  have BA : Hid (Bx w1 w.heap.size 31 #[.slice aa nl ac, .slice ba nm bc]) := (show Hid _ from Bx.low ((Bx.at _ _ rfl).alloc _) hb (by omega))
  have BC : Hid (Bx w1 (w.heap.size + 1) 31 #[.slice ca nl cc, .slice da nm dc]) := (show Hid _ from Bx.low (Bx.at _ _ (by simp)) hb (by omega))
  have BB : Hid (Below w.heap.size w w1) := (show Hid _ from (((Below.refl _ w).alloc (by simp <;> omega) _).alloc (by simp <;> omega) _).trans (hb.mono (by omega)))
  clear hb j1
  have a1 := BA.out.cell 1
  have c1 := BC.out.cell 1
  go_wp2_with fail
  clear a1 c1
  refine (j2 _ BB.out).mono ?_
  rintro e w2 ⟨rfl, hb⟩
  replace BB : Hid (Below w.heap.size w w2) := (show Hid _ from BB.out.trans (hb.mono BB.out.size))
  clear hb j2 BA BC
  go_wp2
  go_ret
  exact ⟨rfl, BB.out⟩
end Go.Proofs.Ytdkhdjickkcaiaa.Rl

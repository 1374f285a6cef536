/-
  How great the replicas are that both sides answer.
  Regions that draw their order: slots of any numbers; operations that are guarded away.
  What a call answers that answers a struct and more; a struct read within a region.
-/
import Derived.Test.YtlngleinegkoeaaGreatT37
import Derived.Test.YtlngleinegkoeaaGreatT33
import Derived.Test.YtlngleinegkoeaaGreatT28
import Derived.Test.YtlngleinegkoeaaGreatT19
namespace Go.Proofs.YtlngleinegkoeaaGreat.Rl
open Go.RowKit Go.Sort Pg
set_option linter.unusedVariables false
set_option linter.unusedSimpArgs false

theorem rd_size {s : ByteArray} (h : rdB s = true) : s.size ≤ 300 := by
  obtain ⟨h1, h2⟩ := rd_ok h
  rw [← h2]
  unfold shoP
  split
  · decide
  · rename_i hk
    unfold pgOk at h1
    rw [if_neg hk] at h1
    have h3 := (Bool.and_eq_true_iff.1 h1).2
    have h4 : (rdP s).2.size ≤ 200 := by
      unfold txOk at h3
      simp at h3
      omega
    have h5 : (wrd (rdP s).1).size ≤ 10 := by
      unfold wrd
      split
      · decide
      · split <;> decide
    rw [ByteArray.size_append]
    omega
theorem logB_sm {l : List ByteArray} (h : logB l = true) : l.length ≤ 60 ∧ ∀ x ∈ l, x.size ≤ 300 := by
  unfold logB at h
  obtain ⟨h1, h2⟩ := Bool.and_eq_true_iff.1 h
  exact ⟨of_decide_eq_true h1, fun x hx => rd_size (List.all_eq_true.1 h2 x hx)⟩
theorem RpOk.te5 {r : Rp} (h : RpOk r) : r.te.length ≤ 5 ∧ ∀ m ∈ r.te, m.l.length ≤ 60 ∧ ∀ x ∈ m.l, x.size ≤ 300 := by
  cases hn : r.n with
  | true => rw [(h.ch0 hn).2]; exact ⟨Nat.zero_le _, fun m hm => nomatch hm⟩
  | false =>
    obtain ⟨h1, h2⟩ := h.te1 hn
    refine ⟨?_, fun m hm => logB_sm (h1 m hm).ok.l⟩
    have h3 := rising_len (r.te.map (·.f)) 0 r.p (List.pairwise_map.2 h2) (fun x hx => by
      obtain ⟨m, hm, rfl⟩ := List.mem_map.1 hx
      exact (h1 m hm).ok.f)
    rw [List.length_map] at h3
    rcases h.p with e | e | e <;> omega
theorem RpOk.fit {r : Rp} (h : RpOk r) : Fit r := by
  have h1 := logB_sm h.l
  have h2 := h.te5
  have h3 := h.ok5
  have h4 := h.ch5
  exact ⟨⟨by omega, fun x hx => by have := h1.2 x hx; omega⟩, by omega, by omega, ⟨by omega, fun m hm => ⟨by have := (h2.2 m hm).1; omega, fun x hx => by have := (h2.2 m hm).2 x hx; omega⟩⟩⟩
theorem sum_le_mul (l : List Nat) (k : Nat) (h : ∀ x ∈ l, x ≤ k) : l.sum ≤ l.length * k := by
  induction l with
  | nil => simp
  | cons a t ih =>
    have h1 := h a (List.mem_cons_self ..)
    have h2 := ih fun x hx => h x (List.mem_cons_of_mem _ hx)
    simp only [List.sum_cons, List.length_cons, Nat.succ_mul]
    omega
theorem RpOk.cR {r : Rp} (h : RpOk r) : 1 + cR r ≤ 50000000 := by
  have h1 := logB_sm h.l
  have h2 := h.te5
  have h3 := h.ok5
  have h4 := h.ch5
  have h5 := sum_le_mul (r.te.map fun m => m.l.length) 60 (fun x hx => by obtain ⟨m, hm, rfl⟩ := List.mem_map.1 hx; exact (h2.2 m hm).1)
  rw [List.length_map] at h5
  have h6 : r.te.length * 60 ≤ 5 * 60 := Nat.mul_le_mul_right _ h2.1
  unfold Rl.cR
  omega
theorem noRp_fit : Fit noRp ∧ 1 + cR noRp ≤ 50000000 := ⟨⟨⟨Nat.zero_le _, fun x hx => nomatch hx⟩, Nat.zero_le _, Nat.zero_le _, ⟨Nat.zero_le _, fun x hx => nomatch hx⟩⟩, by decide⟩
theorem RpAns.open {R : Rp} {w w' : World} {e : Ending} (h : RpAns R w e w') : ∃ pl0 ql0 po0 qo0 pc0 qc0 pt0 qt0 M0, e = .returned (.agg #[.int .i64 R.id, .int .i64 R.p, .int .i64 R.v, .bool R.n, .int .i64 R.la, .slice pl0 R.l.length ql0, .int .i64 R.c, .slice po0 R.ok.length qo0, .slice pc0 R.ch.length qc0, .slice pt0 R.te.length qt0]) ∧ RpHas w' w.heap.size ⟨.slice pl0 R.l.length ql0, .slice po0 R.ok.length qo0, .slice pc0 R.ch.length qc0, .slice pt0 R.te.length qt0, M0⟩ R ∧ RpAp ⟨.slice pl0 R.l.length ql0, .slice po0 R.ok.length qo0, .slice pc0 R.ch.length qc0, .slice pt0 R.te.length qt0, M0⟩ ∧ Below w.heap.size w w' := by
  obtain ⟨u, h1, h2, h3, h4⟩ := h
  obtain ⟨a, b, c, d, e, f, g, i, T, rfl⟩ := h2.got.form
  exact ⟨a, b, c, d, e, f, g, i, T, h1, h2, h3, h4⟩
end Go.Proofs.YtlngleinegkoeaaGreat.Rl
namespace Go.Proofs.YtlngleinegkoeaaGreat
open Go.RowKit Go.Sort
set_option linter.unusedVariables false

theorem slotsNe {L : List Nat} (h : L.Nodup) {i j n : Nat} (hn : n = L.length) (hi : i < n) (hj : j < n) (hne : j ≠ i) : L.getD j (j + 5000) ≠ L.getD i (i + 5000) := by
  subst hn
  rw [List.getD_eq_getElem?_getD, List.getD_eq_getElem?_getD, List.getElem?_eq_getElem hi, List.getElem?_eq_getElem hj]
  simp only [Option.getD_some]
  intro e
  exact hne ((List.getElem_inj h).1 e)
theorem skipG {ops : Array Oper} {o : Oper} {a : Act} {X Y : Prop} (j : Nat) (b : Bool) (hg : o.guard = some (j, b)) (o2 : Oper) (h1 : ops[j]? = some o2) (d : Nat) (h2 : o2.dst = some d) (c : Bool) (h3 : a.tmps[d]? = some (.bool c)) (hb : c ≠ b) (h : Y) : if Region.wanted o (yielded ops a.tmps) = true then X else Y := by
  have e : Region.wanted o (yielded ops a.tmps) = false := by
    simp [Region.wanted, yielded, hg, h1, h2, h3]
    cases c <;> cases b <;> simp_all
  rw [e, if_neg (by decide)]
  exact h
end Go.Proofs.YtlngleinegkoeaaGreat
namespace Go.Proofs.YtlngleinegkoeaaGreat.Rl
open Go.RowKit Go.Sort
set_option linter.unusedVariables false

theorem results_row2 {P : Program} {fn : Func} {p q : Tmp} {ty : TypeId} (h : fn.results = #[.cell p ty, .tmp q]) (tmps : Array Value) (w : World) (g : Nat) (t : TypeId) (cs : Array Value) (fr : Nat × Nat) (d : TypeDesc)
    (hp : tmps.getD p undef = .pointer (some ⟨g, 0, none⟩)) (v : Value) (hq : tmps.getD q undef = v) (hg : w.heap[g]? = some (.cells cs t fr))
    (hu : P.underlying ty = some d) (hd : (match d with | .struct _ | .array _ _ => true | _ => false) = true) (hi : (P.info? ty).map (·.size) = some cs.size) :
    (results fn tmps).run P w = .ok (.tuple #[.agg cs, v]) w := by
  have hp' : tmps[p]?.getD undef = .pointer (some ⟨g, 0, none⟩) := by simpa using hp
  have hq' : tmps[q]?.getD undef = v := by simpa using hq
  simp [results, h, hp', hq', asAddr, run_loadVar_row w g t ty cs fr d hg hu hd hi]
/-- A replica's ten cells, read within a region that draws its order. -/
theorem ldG {ops : Array Oper} {o : Oper} {a : Act} {w : World} {K : Act → World → Prop} {Q : Exit → Act → World → Prop} {E : Prop} (hw : Region.wanted o (yielded ops a.tmps) = true) (x : Operand) (ho : o.op = .load 28 x) (b : Nat) (hx : a.eval x = .pointer (some ⟨b, 0, none⟩)) {vs : Array Value} (hB : Bx w b 28 vs) (hs : vs.size = 10)
    (h : K (a.put o.dst (.agg vs)) w) : if Region.wanted o (yielded ops a.tmps) = true then Oper.wp Tryz.prog o a w K Q else E := by
  rw [if_pos hw]
  exact wp_load_row _ x ho b hx _ vs (0, 0) _ hB Tryz.underlying28 rfl (by rw [Tryz.rszR, hs]) h
/-- .. stored. -/
theorem stG {ops : Array Oper} {o : Oper} {a : Act} {w : World} {K : Act → World → Prop} {Q : Exit → Act → World → Prop} {E : Prop} (hw : Region.wanted o (yielded ops a.tmps) = true) (x y : Operand) (ho : o.op = .store 28 x y) (b : Nat) (vs : Array Value) (hx : a.eval x = .pointer (some ⟨b, 0, none⟩)) (hy : a.eval y = .agg vs) {old : Array Value} (hB : Bx w b 28 old) (hs : old.size = 10) (hv : vs.size = 10)
    (h1 : vs.all (·.oneCell') = true) (h : ∀ W, Bx W b 28 vs → ChS (fun k => k = b) w W → K (a.put o.dst undef) W) : if Region.wanted o (yielded ops a.tmps) = true then Oper.wp Tryz.prog o a w K Q else E := by
  rw [if_pos hw]
  exact wp_store_row _ x y ho b vs hx hy _ old hB (by rw [Tryz.rszR, hv]) (by rw [hs, hv]) h1 (h _ (setRow_heap w b _ _ _ _ hB) ⟨rfl, rfl, rfl, by simp [World.setRow], fun k _ hk => setRow_other w b k _ hk⟩)
/-- A world in which a box alone may have been stored into. -/
structure StS (w0 : World) (c : Nat) (x : World) : Prop where
  ch : ChS (fun k => k = c) w0 x
  bx : ∃ old, Bx x c 28 old ∧ old.size = 10
theorem StS.kept {w0 x y : World} {c : Nat} (h : StS w0 c x) (hb : Below x.heap.size x y) : StS w0 c y := by
  obtain ⟨old, h1, h2⟩ := h.bx
  exact ⟨h.ch.trans (ChS.of_below hb), old, h1.kept hb, h2⟩
theorem StS.put {w0 x y : World} {c : Nat} (h : StS w0 c x) {vs : Array Value} (h1 : Bx y c 28 vs) (h2 : vs.size = 10) (hc : ChS (fun k => k = c) x y) : StS w0 c y := ⟨h.ch.trans hc, vs, h1, h2⟩
/-- A replica and messages that a call answers: all its own, apart. -/
structure RmAns (R : Rp) (L : List Ms) (w w' : World) (u' : Rv) (v : Value) (T : List Mx) : Prop where
  h : RpHas w' w.heap.size u' R
  a : RpAp u'
  m : ∃ C, (∀ x ∈ u'.rows, ∀ k, x.ownBlock = some k → k < C) ∧ w.heap.size ≤ C ∧ MsOwn w' C v T L
  b : Below w.heap.size w w'
theorem RmAns.no {w w' : World} {v : Value} {T : List Mx} (hm : MsOwn w' w.heap.size v T []) (hb : Below w.heap.size w w') : RmAns noRp [] w w' rv0 v T where
  h := ⟨.inl ⟨rfl, rfl⟩, .inl ⟨rfl, rfl⟩, .inl ⟨rfl, rfl⟩, rfl, .inl ⟨rfl, rfl⟩, fun x hx => nomatch hx⟩
  a := by
    unfold RpAp Rv.rows rv0
    simp [ap, Value.ownBlock]
  m := by
    refine ⟨w.heap.size, fun x hx k hk => ?_, Nat.le_refl _, hm⟩
    simp [Rv.rows, rv0] at hx
    subst hx
    cases hk
  b := hb
end Go.Proofs.YtlngleinegkoeaaGreat.Rl

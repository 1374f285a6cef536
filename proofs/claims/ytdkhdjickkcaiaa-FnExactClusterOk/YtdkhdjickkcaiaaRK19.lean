/-
  A row of replicas, turned by the laws: new rows, each replica with rows of its own.
  Replicas, rows of them and clusters that came in, opened.
  Clusters: measured, turned, compared by the laws.
-/
import Derived.Test.YtdkhdjickkcaiaaRK18
namespace Go.Proofs.Ytdkhdjickkcaiaa.Rl
open Go.RowKit Go.Sort
set_option linter.unusedVariables false
set_option linter.unusedSimpArgs false

def rxZ : Rx := ⟨noRp, none, 0, none, 0, none, 0, none, 0, []⟩
theorem Try.infoRPV : (Try.prog.info? 53).map (fun i => (i.zero, i.size, i.bytes)) = some (some (.agg #[.int .i64 0, .int .i64 0, .int .i64 0, .bool false, .int .i64 0, .slice none 0 0, .int .i64 0, .slice none 0 0, .slice none 0 0, .slice none 0 0]), 10, 144) := by kernel_rfl
theorem madeRx (n : Nat) : (madeCells (Value.cells (.agg #[.int .i64 0, .int .i64 0, .int .i64 0, .bool false, .int .i64 0, .slice none 0 0, .int .i64 0, .slice none 0 0, .slice none 0 0, .slice none 0 0])) (n * 10)).toList = cellsE rxE (List.replicate n rxZ) := by
  apply List.ext_getElem?
  intro j
  by_cases hj : j < n * 10
  · have e : (cellsE rxE (List.replicate n rxZ))[j]? = (rxC rxZ)[j % 10]? := by
      have := cellsE_at rxE (List.replicate n rxZ) (j / 10) (by simp; omega) (j % 10) (Nat.mod_lt _ (by decide))
      rw [List.getElem_replicate, show j / 10 * rxE.k + j % 10 = j from by show j / 10 * 10 + j % 10 = j; omega] at this
      exact this
    rw [e]
    have hm : j % 10 = 0 ∨ j % 10 = 1 ∨ j % 10 = 2 ∨ j % 10 = 3 ∨ j % 10 = 4 ∨ j % 10 = 5 ∨ j % 10 = 6 ∨ j % 10 = 7 ∨ j % 10 = 8 ∨ j % 10 = 9 := by omega
    rcases hm with h2 | h2 | h2 | h2 | h2 | h2 | h2 | h2 | h2 | h2 <;> simp [madeCells, hj, Value.cells, h2, rxC, rxZ, noRp]
  · rw [List.getElem?_eq_none (by simp [madeCells]; omega), List.getElem?_eq_none (by rw [cellsE_length]; show _ ≤ j; simp; show n * 10 ≤ j; omega)]
abbrev HasR := HasE rxE 53
abbrev OwnsR := OwnsE rxE 53
theorem turnR_next (M : List Rx) (n : Nat) (y : Rx) (h : M.length < n) : (M ++ List.replicate (n - M.length) rxZ).set M.length y = (M ++ [y]) ++ List.replicate (n - (M.length + 1)) rxZ := by
  rw [List.set_append_right _ _ (Nat.le_refl _), Nat.sub_self, List.append_assoc]
  congr 1
  rw [show n - M.length = (n - (M.length + 1)) + 1 from by omega, List.replicate_succ, List.set_cons_zero]
  rfl
/-- All rows of all replicas, one behind the other. -/
def rowsR (T : List Rx) : List Value := T.flatMap fun x => x.u.rows
/-- Every row of every replica lies in a block of its own. -/
structure Rps (w : World) (B : Nat) (T : List Rx) : Prop where
  l : ∀ x ∈ T, RpHas w B x.u x.r
  ap : (rowsR T).Pairwise ap
theorem Rps.kept {w w' : World} {B : Nat} {T : List Rx} (h : Rps w B T) (hb : Below w.heap.size w w') : Rps w' B T := ⟨fun x hx => (h.l x hx).kept hb, h.ap⟩
theorem Rps.low {w : World} {B B' : Nat} {T : List Rx} (h : Rps w B T) (hB : B' ≤ B) : Rps w B' T := ⟨fun x hx => (h.l x hx).low hB, h.ap⟩
theorem Rps.got {w : World} {B : Nat} {T : List Rx} (h : Rps w B T) : ∀ x ∈ T, RpGot w x.u x.r := fun x hx => (h.l x hx).got
theorem Rps.nil (w : World) (B : Nat) : Rps w B [] := ⟨fun x hx => (by cases hx), List.Pairwise.nil⟩
theorem Rps.under {w : World} {B : Nat} {T : List Rx} (h : Rps w B T) : ∀ v ∈ rowsR T, ∀ k, v.ownBlock = some k → k < w.heap.size := fun v hv => by
  obtain ⟨x, hx, hv⟩ := List.mem_flatMap.1 hv
  exact (h.l x hx).under v hv
theorem Rps.snoc {w : World} {B : Nat} {T : List Rx} (h : Rps w B T) {y : Rx} {C : Nat} (hy : RpHas w C y.u y.r) (hB : B ≤ C) (hp : RpAp y.u) (h1 : ∀ v ∈ rowsR T, ∀ k, v.ownBlock = some k → k < C) : Rps w B (T ++ [y]) where
  l := fun x hx => by
    rcases List.mem_append.1 hx with hx | hx
    · exact h.l x hx
    · obtain rfl := List.mem_singleton.1 hx; exact hy.low hB
  ap := by
    unfold rowsR
    rw [List.flatMap_append, List.pairwise_append]
    refine ⟨h.ap, ?_, fun a ha b hb => ?_⟩
    · simpa [RpAp] using hp
    · have hb : b ∈ y.u.rows := by simpa using hb
      exact apI (h1 a ha) (hy.from b hb)
theorem Rps.same {w w' : World} {B : Nat} {T : List Rx} (h : Rps w B T) (hk : ∀ k, B ≤ k → k < w.heap.size → w'.heap[k]? = w.heap[k]?) : Rps w' B T := ⟨fun x hx => (h.l x hx).off fun v hv k hk' => hk k ((h.l x hx).from v hv k hk') ((h.l x hx).under v hv k hk'), h.ap⟩
theorem Rps.puts {w : World} {B g : Nat} {T : List Rx} (h : Rps w B T) (hg : g < B) (vs : List Value) (i : Nat) : Rps (putL w g vs i) B T := h.same fun k h1 h2 => putL_block _ _ _ _ _ (by omega)
set_option maxRecDepth 100000 in
set_option maxHeartbeats 4000000 in
theorem toRps (v : Value) (L : List Rx) (w : World) (h : RsGot w v L) (hsm : ∀ x ∈ L, Fit x.r) (hl : L.length ≤ 1048576) :
    Calls Try.prog 25 #[v] w fun e w' => ∃ u M, e = .returned u ∧ HasR w' w.heap.size u M ∧ SameR L M ∧ Rps w' (w.heap.size + 1) M ∧ (∀ k, u.ownBlock = some k → k = w.heap.size) ∧ Below w.heap.size w w' := by
  have HL : Hid (RsGot w v L) := h
  obtain ⟨⟨a, cap, rfl, _⟩, _⟩ := h
  have HSM : Hid (∀ x ∈ L, Fit x.r) := hsm
  clear hsm
  obtain ⟨i0, hi, hz0, hz1, hz2⟩ := info_parts Try.infoRPV
  obtain ⟨w0, hrun, hown, hgr⟩ := run_make_full (P := Try.prog) w w.heap.size 28 53 i0 (.agg #[.int .i64 0, .int .i64 0, .int .i64 0, .bool false, .int .i64 0, .slice none 0 0, .int .i64 0, .slice none 0 0, .slice none 0 0, .slice none 0 0]) 10 Try.underlying28 hi hz0 hz1 .i64 .i64 L.length (by rw [hz2]; omega) (by unfold maxLen; omega) (Nat.le_refl _)
  rw [madeRx] at hown
  have hown0 : Hid (HasR w0 w.heap.size (.slice (some ⟨w.heap.size, 0, Option.none⟩) L.length L.length) ([] ++ List.replicate (L.length - 0) rxZ)) := by
    have : OwnsR w0 w.heap.size (.slice (some ⟨w.heap.size, 0, Option.none⟩) L.length L.length) (List.replicate L.length rxZ) := by
      show w0.ownsRow _ _ 10 _ _ _
      rw [List.length_replicate]
      exact hown
    exact this.has
  have hb0 : Hid (Below w.heap.size w w0) := (Below.refl _ w).grown hgr (Nat.le_refl _) (fun j hj => by cases hj)
  clear hown hgr hi hz0 hz1 hz2
  go_enter Try.func25, Try.ntmps25
  go_wp2
  go_loopw [4] (fun i wr => ∃ (M : List Rx), M.length ≤ L.length ∧ i = .int .i64 M.length ∧ Hid (HasR wr w.heap.size (.slice (some ⟨w.heap.size, 0, Option.none⟩) L.length L.length) (M ++ List.replicate (L.length - M.length) rxZ)) ∧ Hid (SameR (L.take M.length) M) ∧ Hid (Rps wr (w.heap.size + 1) M) ∧ Hid (Below w.heap.size w wr)) (fun i _ => L.length - (intOf i).toNat)
  case atStart => exact ⟨[], Nat.zero_le _, rfl, hown0, (show SameR (L.take 0) [] from rfl), (show Hid _ from Rps.nil _ _), hb0⟩
  case round =>
    clear hown0 hb0 hrun
    obtain ⟨M, hk, rfl, ho, hs, hm, hb⟩ := hrel
    by_cases hlt : M.length < L.length
    · have HA2 := HL.out.kept hb.out
      obtain ⟨g, q, rfl⟩ := rxAt HA2.1 (by omega)
      have CK := rxCells HA2.1 hlt
      have rx := HA2.2 L[M.length] (List.getElem_mem hlt)
      have sx := HSM.out L[M.length] (List.getElem_mem hlt)
      have hnx : Hid (∀ y : Rx, y.r = L[M.length].r → SameR (L.take (M.length + 1)) (M ++ [y])) := fun y hy => by
        unfold SameR
        rw [List.take_succ_eq_append_getElem hlt, List.map_append, List.map_append, ← hs.out]
        simp [hy]
      generalize L[M.length] = x at CK rx sx hnx
      have ht := fun W (hW : Below wr.heap.size wr W) => toRp x.r x.u W (RpGot.kept rx hW) sx
      have hlw : w.heap.size < wr.heap.size := ho.out.under _ rfl
      obtain ⟨⟨xi, xp, xv, xn, xla, xl, xc, xok, xch, xte⟩, la, lc, oa, oc, ca, cc, ta, tc, T⟩ := x
      rw [rpA_rx] at ht
      obtain ⟨c0, c1, c2, c3, c4, c5, c6, c7, c8, c9⟩ := CK
      simp only at c0 c1 c2 c3 c4 c5 c6 c7 c8 c9 ht hnx
      obtain ⟨R, hR⟩ : ∃ R : Rp, R = ⟨xi, xp, xv, xn, xla, xl, xc, xok, xch, xte⟩ := ⟨_, rfl⟩
      rw [← hR] at ht hnx
      clear rx sx HA2
      go_wp2_with (go_at_call 55; refine (ht _ (Below.refl _ _)).mono ?_; rintro e w1 ⟨v2, rfl, hv2, hp2, hb1⟩; obtain ⟨y, hyr, rfl⟩ := hv2.got.rx; rw [← hyr] at hv2 hnx; rw [← hyr, rpA_rx]; clear ht hR hyr c0 c1 c2 c3 c4 c5 c6 c7 c8 c9; have ho1 : Hid (HasR w1 w.heap.size (.slice (some ⟨w.heap.size, 0, Option.none⟩) L.length L.length) (M ++ List.replicate (L.length - M.length) rxZ)) := ho.out.kept hb1; have fz := ho1.out.free; have dz := rxCells ho1.out.sls (j := M.length) (by simp; omega); have f0 := fz (M.length * 10); have f1 := fz (M.length * 10 + 1); have f2 := fz (M.length * 10 + 2); have f3 := fz (M.length * 10 + 3); have f4 := fz (M.length * 10 + 4); have f5 := fz (M.length * 10 + 5); have f6 := fz (M.length * 10 + 6); have f7 := fz (M.length * 10 + 7); have f8 := fz (M.length * 10 + 8); have f9 := fz (M.length * 10 + 9); clear fz; simp only [Nat.zero_add] at dz; obtain ⟨d0, d1, d2, d3, d4, d5, d6, d7, d8, d9⟩ := dz)
      have hp := HasM.puts ho1.out (j := M.length) (by simp; omega) y
      rw [turnR_next _ _ _ hlt] at hp
      have hq := ((hm.out.kept hb1).snoc hv2 (by omega) hp2 (fun v hv k hk => hm.out.under v hv k hk)).puts (Nat.lt_succ_self w.heap.size) (rxC y) (M.length * 10)
      have hB := putL_below (Nat.le_refl w.heap.size) (rxC y) (M.length * 10) (hb.out.trans (hb1.mono hb.out.size))
      have hN := hnx.out y rfl
      have hlen : (M ++ [y]).length = M.length + 1 := by simp
      rw [← hlen] at hp hN
      go_roundw
      case rel =>
        refine ⟨M ++ [y], by omega, by rw [hlen]; go_num, ?_, ?_, ?_, ?_⟩
        · exact hp
        · exact hN
        · exact hq
        · exact hB
      case measure => simp [intOf]; omega
    · have hkk : M.length = L.length := by omega
      go_wp2
      go_ret
      refine ⟨_, M, rfl, ?_, ?_, hm.out, ?_, hb.out⟩
      · have := ho.out
        rw [hkk, Nat.sub_self, List.replicate_zero, List.append_nil] at this
        exact this
      · have := hs.out
        rw [hkk, List.take_length] at this
        exact this
      · intro k hk
        simp [Value.ownBlock] at hk
        exact hk.symm
end Go.Proofs.Ytdkhdjickkcaiaa.Rl
namespace Go.Proofs.Ytdkhdjickkcaiaa.Rl
open Go.RowKit Go.ChangeShapes Go.WideShapes Go.ChangeAt Go.Joins Go.Deep Go.Sort
set_option linter.unusedVariables false

set_option maxRecDepth 100000 in
/-- One replica, by its ten cells. -/
theorem open_rp10 {H : Type} {enc : TypeId × Value → H} {w : World} {base : Nat} {spare : Nat → Bool} {held : Bool} {fuel : Nat} {cs : List Value} {x : DataW H × List MemPlace}
    (h : DataW.trod enc Try.prog w base spare held fuel 77 cs = some x) :
    ∃ y : Rx, cs = rxC y ∧ RpGot w y.u y.r ∧ Lens y.r := by
  obtain ⟨xs, n, _, hx, hl, hlen, hfs⟩ := DataW.trod_struct Try.underlying77 h
  have hl : cs.length = 10 := hl.trans (by kernel_rfl)
  match xs, hlen, cs, hl with
  | [y0, y1, y2, y3, y4, y5, y6, y7, y8, y9], _, [c0, c1, c2, c3, c4, c5, c6, c7, c8, c9], _ =>
    have g0 : DataW.trod enc Try.prog w base spare held n 2 [c0] = some y0 := by simpa [show Try.prog.cellsOf 2 = 1 by kernel_rfl] using hfs 0 _ rfl
    have g1 : DataW.trod enc Try.prog w base spare held n 2 [c1] = some y1 := by simpa [show Try.prog.cellsOf 2 = 1 by kernel_rfl] using hfs 1 _ rfl
    have g2 : DataW.trod enc Try.prog w base spare held n 2 [c2] = some y2 := by simpa [show Try.prog.cellsOf 2 = 1 by kernel_rfl] using hfs 2 _ rfl
    have g3 : DataW.trod enc Try.prog w base spare held n 4 [c3] = some y3 := by simpa [show Try.prog.cellsOf 4 = 1 by kernel_rfl] using hfs 3 _ rfl
    have g4 : DataW.trod enc Try.prog w base spare held n 2 [c4] = some y4 := by simpa [show Try.prog.cellsOf 2 = 1 by kernel_rfl] using hfs 4 _ rfl
    have g5 : DataW.trod enc Try.prog w base spare held n 40 [c5] = some y5 := by simpa [show Try.prog.cellsOf 40 = 1 by kernel_rfl] using hfs 5 _ rfl
    have g6 : DataW.trod enc Try.prog w base spare held n 2 [c6] = some y6 := by simpa [show Try.prog.cellsOf 2 = 1 by kernel_rfl] using hfs 6 _ rfl
    have g7 : DataW.trod enc Try.prog w base spare held n 41 [c7] = some y7 := by simpa [show Try.prog.cellsOf 41 = 1 by kernel_rfl] using hfs 7 _ rfl
    have g8 : DataW.trod enc Try.prog w base spare held n 41 [c8] = some y8 := by simpa [show Try.prog.cellsOf 41 = 1 by kernel_rfl] using hfs 8 _ rfl
    have g9 : DataW.trod enc Try.prog w base spare held n 23 [c9] = some y9 := by simpa [show Try.prog.cellsOf 23 = 1 by kernel_rfl] using hfs 9 _ rfl
    obtain ⟨a0, e0, _, w0⟩ := DataW.trod_int Try.underlying2 g0
    obtain ⟨a1, e1, _, w1⟩ := DataW.trod_int Try.underlying2 g1
    obtain ⟨a2, e2, _, w2⟩ := DataW.trod_int Try.underlying2 g2
    obtain ⟨a4, e4, _, w4⟩ := DataW.trod_int Try.underlying2 g4
    obtain ⟨a6, e6, _, w6⟩ := DataW.trod_int Try.underlying2 g6
    obtain ⟨a3, e3, _⟩ := DataW.trod_bool Try.underlying4 g3
    obtain ⟨l, f5, z5⟩ := open_txsR g5
    obtain ⟨ok, f7⟩ := open_numsR g7
    obtain ⟨ch, f8⟩ := open_numsR g8
    obtain ⟨T, f9, z9, n9⟩ := open_mss g9
    simp at e0 e1 e2 e3 e4 e6
    subst e0 e1 e2 e3 e4 e6
    have n5 : l.length ≤ maxLen := by obtain ⟨_, _, _, q1, q2, _⟩ := f5; omega
    have n7 : ok.length ≤ maxLen := by obtain ⟨_, _, _, q1, q2, _⟩ := f7; omega
    have n8 : ch.length ≤ maxLen := by obtain ⟨_, _, _, q1, q2, _⟩ := f8; omega
    have hg : RpGot w ⟨c5, c7, c8, c9, T⟩ ⟨a0, a1, a2, a3, a4, l, a6, ok, ch, T.map (·.m)⟩ := ⟨f5, f7, f8, rfl, f9⟩
    have hz : Lens ⟨a0, a1, a2, a3, a4, l, a6, ok, ch, T.map (·.m)⟩ := ⟨⟨n5, z5⟩, n7, n8, by simpa using n9, fun m hm => by
      obtain ⟨x, hx, rfl⟩ := List.mem_map.1 hm
      exact z9 x hx⟩
    obtain ⟨y, hy, hu⟩ := hg.rx
    refine ⟨y, ?_, by rw [hy, hu]; exact hg, by rw [hy]; exact hz⟩
    obtain ⟨r, la, lc, oa, oc, ca, cc, ta, tc, T'⟩ := y
    simp only at hy
    subst hy
    unfold Rx.u at hu
    injection hu with e1 e2 e3 e4 e5
    subst e1 e2 e3 e4
    rfl
theorem open_rps {H : Type} {enc : TypeId × Value → H} {W : World} {base : Nat} {spare : Nat → Bool} {held : Bool} {fuel : Nat} {c : Value} {x : DataW H × List MemPlace}
    (h : DataW.trod enc Try.prog W base spare held fuel 22 [c] = some x) :
    ∃ L : List Rx, RsGot W c L ∧ (∀ x ∈ L, Lens x.r) ∧ L.length ≤ maxLen := by
  rcases Deep.open_slice Try.underlying22 h with ⟨hcs, _⟩ | ⟨a, len, cap, m, n, D, Pl, hcs, hb, hl, hm, hmm, _, hx⟩
  · simp at hcs
    subst hcs
    exact ⟨[], ⟨Sls.nil (Nat.zero_le _), fun x hx => (by cases hx)⟩, fun x hx => (by cases hx), Nat.zero_le _⟩
  · simp at hcs
    subst hcs
    have hlm : len ≤ m := by rw [hmm]; split <;> omega
    have each : ∀ i, i < len → ∃ y : Rx, (∀ j, j < 10 → W.cell? (a.add (i * 10 + j)) = (rxC y)[j]?) ∧ RpGot W y.u y.r ∧ Lens y.r := by
      intro i hi
      obtain ⟨cs', h1, h2⟩ := hx i (by omega)
      obtain ⟨y, rfl, hs, hz⟩ := open_rp10 h2
      obtain ⟨_, hlen, hcell⟩ := World.cells?_some h1
      have hk : Try.prog.cellsOf 77 = 10 := by kernel_rfl
      rw [hk] at hcell
      refine ⟨y, fun j hj => ?_, hs, hz⟩
      have := hcell j hj
      rw [Deep.add_add] at this
      exact this
    haveI : Inhabited Rx := ⟨rxZ⟩
    obtain ⟨f, hf⟩ := Deep.choose_lt (α := Rx) (p := fun i y => (∀ j, j < 10 → W.cell? (a.add (i * 10 + j)) = (rxC y)[j]?) ∧ RpGot W y.u y.r ∧ Lens y.r) each
    refine ⟨(List.range len).map f, ⟨⟨some a, cap, by simp, by simpa using hl, hm, fun h0 => ?_⟩, fun x hx => ?_⟩, fun x hx => ?_, by simp; omega⟩
    · have h0' : 0 < len := by simpa using h0
      have c0 := (hf 0 h0').1 0 (by decide)
      obtain ⟨b, o, sp⟩ := a
      have c0 : W.cell? ((⟨b, o, sp⟩ : Addr).add 0) = some (.int .i64 (f 0).r.id) := by simpa [rxC] using c0
      have hsp : sp = Option.none := by
        have : W.cell? ⟨b, o, sp⟩ = some (.int .i64 (f 0).r.id) := by simpa [Addr.add] using c0
        exact Go.Proofs.cell_spot this
      subst hsp
      have hlt : b < W.heap.size := by
        rw [addr_add] at c0
        exact cell_ltO c0
      refine ⟨b, o, rfl, hlt, fun j u hu => ?_⟩
      have hj2 : j < len * 10 := by
        have := (List.getElem?_eq_some_iff.1 hu).1
        rw [cellsE_length, List.length_map, List.length_range] at this
        exact this
      have c1 := (hf (j / 10) (by omega)).1 (j % 10) (Nat.mod_lt _ (by decide))
      have q := cellsE_at rxE ((List.range len).map f) (j / 10) (by simp; omega) (j % 10) (Nat.mod_lt _ (by decide))
      rw [show j / 10 * rxE.k + j % 10 = j from by show j / 10 * 10 + j % 10 = j; omega] at q
      rw [q] at hu
      rw [addr_add, show j / 10 * 10 + j % 10 = j by omega] at c1
      rw [c1]
      simpa [rxE] using hu
    · obtain ⟨i, hi, rfl⟩ := List.mem_map.1 hx
      exact (hf i (by simpa using hi)).2.1
    · obtain ⟨i, hi, rfl⟩ := List.mem_map.1 hx
      exact (hf i (by simpa using hi)).2.2

def cluA (a b : Value) : Value := .agg #[a, b]
theorem array2c {α : Type} {cs : Array α} (h : cs.size = 2) : ∃ c0 c1, cs = #[c0, c1] := by
  obtain ⟨l⟩ := cs
  match l, h with
  | [c0, c1], _ => exact ⟨c0, c1, rfl⟩
set_option maxRecDepth 100000 in
theorem open_clu {H : Type} {enc : TypeId × Value → H} {w : World} {base : Nat} {spare : Nat → Bool} {held : Bool} {r : Reach} {b0 : Nat} {v : Value} {d : DataW H} {p : List MemPlace}
    (hv : Value.okWide Try.prog w r b0 25 v) (h : DataW.Trod enc Try.prog w base spare held 25 v d p) :
    ∃ (a b : Value) (L : List Rx) (M : List Mx), v = cluA a b ∧ RsGot w a L ∧ TeGot w b M ∧ (∀ x ∈ L, Lens x.r) ∧ L.length ≤ maxLen ∧ (∀ x ∈ M, x.m.l.length ≤ maxLen ∧ ∀ p ∈ x.m.l, p.size ≤ maxLen) ∧ M.length ≤ maxLen := by
  have hs := Try.underlying25
  obtain ⟨cs, rfl, hsz⟩ := okWide_struct hs hv
  obtain ⟨c0, c1, rfl⟩ := array2c (hsz.trans (by kernel_rfl))
  obtain ⟨fuel, hfu⟩ := h
  obtain ⟨xs, n, _, hx, hl, hlen, hfs⟩ := DataW.trod_struct hs hfu
  match xs, hlen with
  | [y0, y1], _ =>
    have g0 : DataW.trod enc Try.prog w base spare held n 22 [c0] = some y0 := by simpa [Value.cells, show Try.prog.cellsOf 22 = 1 by kernel_rfl] using hfs 0 _ rfl
    have g1 : DataW.trod enc Try.prog w base spare held n 23 [c1] = some y1 := by simpa [Value.cells, show Try.prog.cellsOf 23 = 1 by kernel_rfl] using hfs 1 _ rfl
    obtain ⟨L, f0, z0, n0⟩ := open_rps g0
    obtain ⟨M, f1, z1, n1⟩ := open_mss g1
    exact ⟨c0, c1, L, M, rfl, f0, f1, z0, n0, z1, n1⟩
end Go.Proofs.Ytdkhdjickkcaiaa.Rl
namespace Go.Proofs.Ytdkhdjickkcaiaa.Rl
open Go.RowKit Go.Sort
set_option linter.unusedVariables false
set_option linter.unusedSimpArgs false

/-- A cluster in memory: a row of replicas and a row of messages. -/
structure ClGot (w : World) (a b : Value) (L : List Rx) (M : List Mx) : Prop where
  l : RsGot w a L
  m : TeGot w b M
theorem ClGot.kept {w w' : World} {a b : Value} {L : List Rx} {M : List Mx} (h : ClGot w a b L M) (hb : Below w.heap.size w w') : ClGot w' a b L M := ⟨h.l.kept hb, h.m.kept hb⟩
structure ClFit (L : List Rx) (M : List Mx) : Prop where
  ll : L.length ≤ 1048576
  lf : ∀ x ∈ L, Fit x.r
  ml : M.length ≤ 1048576
  mf : ∀ x ∈ M, Sm x.m.l
structure ClLens (L : List Rx) (M : List Mx) : Prop where
  lz : ∀ x ∈ L, Lens x.r
  ln : L.length ≤ maxLen
  mz : ∀ x ∈ M, x.m.l.length ≤ maxLen ∧ ∀ p ∈ x.m.l, p.size ≤ maxLen
  mn : M.length ≤ maxLen
theorem SameR.mem {L L' : List Rx} (h : SameR L L') {x : Rx} (hx : x ∈ L') : ∃ y ∈ L, y.r = x.r := by
  have : x.r ∈ L.map (·.r) := h ▸ List.mem_map_of_mem hx
  obtain ⟨y, hy, e⟩ := List.mem_map.1 this
  exact ⟨y, hy, e⟩
theorem SameM.mem {L L' : List Mx} (h : SameM L L') {x : Mx} (hx : x ∈ L') : ∃ y ∈ L, y.m = x.m := by
  have : x.m ∈ L.map (·.m) := h ▸ List.mem_map_of_mem hx
  obtain ⟨y, hy, e⟩ := List.mem_map.1 this
  exact ⟨y, hy, e⟩
theorem ClFit.same {L L' : List Rx} {M M' : List Mx} (h : ClFit L M) (h1 : SameR L L') (h2 : SameM M M') : ClFit L' M' where
  ll := by rw [h1.len]; exact h.ll
  lf := fun x hx => by obtain ⟨y, hy, e⟩ := h1.mem hx; rw [← e]; exact h.lf y hy
  ml := by rw [h2.len]; exact h.ml
  mf := fun x hx => by obtain ⟨y, hy, e⟩ := h2.mem hx; rw [← e]; exact h.mf y hy
set_option maxRecDepth 100000 in
set_option maxHeartbeats 4000000 in
theorem szClu (a b : Value) (L : List Rx) (M : List Mx) (w : World) (h : ClGot w a b L M) (hz : ClLens L M) :
    Calls Try.prog 6 #[cluA a b, .int .i64 1048576] w fun e w' => (∃ z : Int, e = .returned (.int .i64 z) ∧ (0 ≤ z → ClFit L M)) ∧ Below w.heap.size w w' := by
  have HL : Hid (ClGot w a b L M) := h
  obtain ⟨⟨⟨aa, ac, rfl, _⟩, _⟩, ⟨⟨ba, bc, rfl, _⟩, _⟩⟩ := h
  have j1 := fun W (hW : Below w.heap.size w W) => szRps (.slice aa L.length ac) L 1048576 (by decide) (by decide) W (HL.out.l.kept hW) hz.lz hz.ln
  have j2 := fun z (z0 : 0 ≤ z) (z1 : z ≤ 1048576) W (hW : Below w.heap.size w W) => szMsS (.slice ba M.length bc) M z z0 z1 W (HL.out.m.kept hW) hz.mz hz.mn
  unfold cluA
  clear hz
  go_enter Try.func6, Try.ntmps6
  go_wp2_with fail
  refine (j1 _ ((Below.refl _ w).alloc (by simp <;> omega) _)).mono ?_
  rintro e w1 ⟨⟨z1, rfl, q1, q2, q3⟩, hb⟩
  simp at hb
  have BA : Hid (Bx w1 w.heap.size 25 #[.slice aa L.length ac, .slice ba M.length bc]) := (show Hid _ from Bx.low (Bx.at _ _ rfl) hb (by omega))
  have BB : Hid (Below w.heap.size w w1) := (show Hid _ from ((Below.refl _ w).alloc (by simp <;> omega) _).trans (hb.mono (by omega)))
  have Q1 : Hid (0 ≤ z1 → (L.length ≤ 1048576 ∧ ∀ x ∈ L, Fit x.r)) := (show _ → _ from fun h => (q3 h).1)
  clear hb j1 q3
  by_cases hn0 : z1 < 0
  · go_wp2
    go_ret
    exact ⟨⟨_, rfl, fun h => by omega⟩, BB.out⟩
  have a1 := BA.out.cell 1
  go_wp2_with fail
  clear a1
  refine (j2 z1 (by omega) (by omega) _ BB.out).mono ?_
  rintro e w2 ⟨⟨z2, rfl, q10, q20, q3⟩, hb⟩
  replace BB : Hid (Below w.heap.size w w2) := (show Hid _ from BB.out.trans (hb.mono BB.out.size))
  have Q2 : Hid (0 ≤ z2 → (M.length ≤ 1048576 ∧ ∀ x ∈ M, Sm x.m.l)) := (show _ → _ from fun h => (q3 h).1)
  clear hb j2 q3 BA
  by_cases hn1 : z2 < 0
  · go_wp2
    go_ret
    exact ⟨⟨_, rfl, fun h => by omega⟩, BB.out⟩
  go_wp2
  go_ret
  exact ⟨⟨_, rfl, fun h => ⟨(Q1.out (by omega)).1, (Q1.out (by omega)).2, (Q2.out (by omega)).1, (Q2.out (by omega)).2⟩⟩, BB.out⟩
/-- Two rows that own what they hold. -/
structure RsOwn (w : World) (B : Nat) (a : Value) (L : List Rx) : Prop where
  a : HasR w B a L
  r : Rps w B L
theorem RsOwn.set {w : World} {B g i : Nat} {a : Value} {L : List Rx} (h : RsOwn w B a L) (hg : g < B) (v : Value) : RsOwn (w.setCell ⟨g, i, none⟩ v) B a L :=
  ⟨HasE.oth h.a _ _ (fun k hk => by have := h.a.from k hk; simp <;> omega), h.r.same fun k h1 h2 => Below.heap_setCell _ _ _ _ (by simp <;> omega)⟩
theorem RsOwn.kept {w w' : World} {B : Nat} {a : Value} {L : List Rx} (h : RsOwn w B a L) (hb : Below w.heap.size w w') : RsOwn w' B a L := ⟨h.a.kept hb, h.r.kept hb⟩
structure MsOwn (w : World) (B : Nat) (a : Value) (L : List Mx) : Prop where
  a : HasM w B a L
  r : Logs w B L
theorem MsOwn.set {w : World} {B g i : Nat} {a : Value} {L : List Mx} (h : MsOwn w B a L) (hg : g < B) (v : Value) : MsOwn (w.setCell ⟨g, i, none⟩ v) B a L :=
  ⟨HasE.oth h.a _ _ (fun k hk => by have := h.a.from k hk; simp <;> omega), h.r.same fun k h1 h2 => Below.heap_setCell _ _ _ _ (by simp <;> omega)⟩
theorem RsOwn.got {w : World} {B : Nat} {a : Value} {L : List Rx} (h : RsOwn w B a L) : RsGot w a L := ⟨h.a.sls, h.r.got⟩
theorem MsOwn.got {w : World} {B : Nat} {a : Value} {L : List Mx} (h : MsOwn w B a L) : TeGot w a L := ⟨h.a.sls, h.r.got⟩
set_option maxRecDepth 100000 in
set_option maxHeartbeats 4000000 in
theorem toClu (a b : Value) (L : List Rx) (M : List Mx) (w : World) (h : ClGot w a b L M) (hf : ClFit L M) :
    Calls Try.prog 8 #[cluA a b] w fun e w' => ∃ a1 c1 a2 c2 L' M', e = .returned (.agg #[.slice a1 L.length c1, .slice a2 M.length c2]) ∧ ClGot w' (.slice a1 L.length c1) (.slice a2 M.length c2) L' M' ∧ SameR L L' ∧ SameM M M' ∧ Below w.heap.size w w' := by
  have HL : Hid (ClGot w a b L M) := h
  obtain ⟨⟨⟨aa, ac, rfl, _⟩, _⟩, ⟨⟨ba, bc, rfl, _⟩, _⟩⟩ := h
  have j1 := fun W (hW : Below w.heap.size w W) => toRps (.slice aa L.length ac) L W (HL.out.l.kept hW) hf.lf hf.ll
  have j2 := fun W (hW : Below w.heap.size w W) => toMsS (.slice ba M.length bc) M W (HL.out.m.kept hW) (fun x hx => (hf.mf x hx).1) hf.ml
  unfold cluA
  clear hf
  go_enter Try.func8, Try.ntmps8
  go_wp2_with fail
  refine (j1 _ (by repeat (first | exact Below.refl _ _ | refine Below.alloc ?_ (by simp <;> omega) _ | refine Below.setCell ?_ (by simp <;> omega) _))).mono ?_
  rintro e w1 ⟨u1, L1, rfl, ho, hs1, hr1, h1k, hb⟩
  obtain ⟨a1, c1, rfl, _⟩ := ho.form
  simp [go_sem] at hb ho hr1 h1k
  have hl1 := hs1.len
  rw [hl1] at ho
  rw [hl1]
  have BZ : Hid (Bx w1 (w.heap.size + 1 + 1) 31 #[.slice none 0 0, .slice none 0 0]) := (show Hid _ from Bx.low (Bx.at _ _ (by simp)) hb (by omega))
  have BY : Hid (Bx w1 (w.heap.size + 1) 31 #[.slice none 0 0, .slice none 0 0]) := (show Hid _ from Bx.low ((Bx.at _ _ (by simp)).alloc _) hb (by omega))
  have BX : Hid (Bx w1 w.heap.size 25 #[.slice aa L.length ac, .slice ba M.length bc]) := (show Hid _ from Bx.low (((Bx.at _ _ rfl).alloc _).alloc _) hb (by omega))
  have BB : Hid (Below w.heap.size w w1) := (show Hid _ from ((((Below.refl _ w).alloc (by simp <;> omega) _).alloc (by simp <;> omega) _).alloc (by simp <;> omega) _).trans (hb.mono (by omega)))
  have O1 : Hid (RsOwn w1 (w.heap.size + 3) (.slice a1 L.length c1) L1) := (show Hid _ from ⟨ho, Rps.low hr1 (by omega)⟩)
  have E1 : Hid (SameR L L1) := (show SameR L L1 from hs1)
  have S1 : Hid (w.heap.size + 3 ≤ w1.heap.size) := (show w.heap.size + 3 ≤ w1.heap.size by have := hb.size; simp at this; omega)
  clear hb ho hr1 h1k hl1 hs1 j1
  have z0 := BZ.out.cell 0
  have zf0 := BZ.out.free 0
  have z1 := BZ.out.cell 1
  have zf1 := BZ.out.free 1
  have x1 := BX.out.cell 1
  go_wp2_with fail
  clear z0 zf0 z1 zf1 x1
  refine (j2 _ ((BB.out).setCell (p := ⟨w.heap.size + 1 + 1, 0, none⟩) (by simp <;> omega) _)).mono ?_
  rintro e w2 ⟨u2, M1, rfl, ho, hs2, hr2, h2k, hb⟩
  obtain ⟨a2, c2, rfl, _⟩ := ho.form
  have hl2 : M1.length = M.length := hs2.len
  rw [hl2] at ho
  rw [hl2]
  replace BZ : Hid (Bx w2 (w.heap.size + 1 + 1) 31 #[.slice a1 L.length c1, .slice none 0 0]) := (show Hid _ from Bx.kept (Bx.put BZ.out 0 _) hb)
  replace BY : Hid (Bx w2 (w.heap.size + 1) 31 #[.slice none 0 0, .slice none 0 0]) := (show Hid _ from Bx.kept (Bx.other BY.out _ _ (by simp)) hb)
  have S2 : Hid (w1.heap.size ≤ w2.heap.size) := by have := hb.size; simp at this; exact (show Hid _ from this)
  replace O1 : Hid (RsOwn w2 (w.heap.size + 3) (.slice a1 L.length c1) L1) := (show Hid _ from (RsOwn.set O1.out (by omega) _).kept hb)
  replace BB : Hid (Below w.heap.size w w2) := (show Hid _ from ((BB.out).setCell (p := ⟨w.heap.size + 1 + 1, 0, none⟩) (by simp <;> omega) _).trans (hb.mono (by have := S1.out; have := BB.out.size; simp <;> omega)))
  have O2 : Hid (MsOwn w2 (w.heap.size + 3) (.slice a2 M.length c2) M1) := (show Hid _ from ⟨HasE.low ho (by have := S1.out; simp <;> omega), Logs.low hr2 (by have := S1.out; simp <;> omega)⟩)
  have E2 : Hid (SameM M M1) := (show SameM M M1 from hs2)
  clear hb ho hr2 h2k hl2 hs2 j2
  have z0 := BZ.out.cell 0
  have z1 := BZ.out.cell 1
  have zf1 := BZ.out.free 1
  have y0 := BY.out.cell 0
  have yf0 := BY.out.free 0
  have y1 := BY.out.cell 1
  have yf1 := BY.out.free 1
  clear BX
  go_wp2
  refine bodyPost_ret (v := .agg #[.slice a1 L.length c1, .slice a2 M.length c2]) (by simp [results, Try.results8, go_sem, y0, y1]) rfl ⟨a1, c1, a2, c2, L1, M1, rfl, ?_, E1.out, E2.out, ?_⟩
  · constructor
    · refine RsOwn.got (B := w.heap.size + 3) ?_
      repeat (refine RsOwn.set ?_ (by omega) _)
      exact O1.out
    · refine MsOwn.got (B := w.heap.size + 3) ?_
      repeat (refine MsOwn.set ?_ (by omega) _)
      exact O2.out
  · repeat (refine Below.setCell ?_ (by simp <;> omega) _)
    exact BB.out
set_option maxRecDepth 100000 in
set_option maxHeartbeats 4000000 in
theorem eqClu (aa : Option Addr) (ac : Nat) (ba : Option Addr) (bc : Nat) (ca : Option Addr) (cc : Nat) (da : Option Addr) (dc : Nat) (L : List Rx) (M : List Mx) (L' : List Rx) (M' : List Mx) (w : World) (h : ClGot w (.slice aa L.length ac) (.slice ba M.length bc) L M) (h' : ClGot w (.slice ca L.length cc) (.slice da M.length dc) L' M') (h1 : SameR L L') (h2 : SameM M M') (hf : ClFit L M) :
    Calls Try.prog 10 #[.agg #[.slice aa L.length ac, .slice ba M.length bc], .agg #[.slice ca L.length cc, .slice da M.length dc]] w fun e w' => e = .returned (.bool true) ∧ Below w.heap.size w w' := by
  have j1 := fun W (hW : Below w.heap.size w W) => eqRps (.slice aa L.length ac) (.slice ca L.length cc) L L' W (h.l.kept hW) (h'.l.kept hW) h1 hf.lf hf.ll
  have j2 := fun W (hW : Below w.heap.size w W) => eqMsS (.slice ba M.length bc) (.slice da M.length dc) M M' W (h.m.kept hW) (h'.m.kept hW) h2 (fun x hx => (hf.mf x hx).1) hf.ml
  clear h h' h1 h2 hf
  generalize L.length = nl at *
  generalize M.length = nm at *
  go_enter Try.func10, Try.ntmps10
  go_wp2_with fail
  refine (j1 _ (((Below.refl _ w).alloc (by simp <;> omega) _).alloc (by simp <;> omega) _)).mono ?_
  rintro e w1 ⟨rfl, hb⟩
  simp at hb
  have BA : Hid (Bx w1 w.heap.size 31 #[.slice aa nl ac, .slice ba nm bc]) := (show Hid _ from Bx.low ((Bx.at _ _ rfl).alloc _) hb (by omega))
  have BC : Hid (Bx w1 (w.heap.size + 1) 31 #[.slice ca nl cc, .slice da nm dc]) := (show Hid _ from Bx.low (Bx.at _ _ (by simp)) hb (by omega))
  have BB : Hid (Below w.heap.size w w1) := (show Hid _ from (((Below.refl _ w).alloc (by simp <;> omega) _).alloc (by simp <;> omega) _).trans (hb.mono (by omega)))
  clear hb j1
  have a1 := BA.out.cell 1
  have c1 := BC.out.cell 1
  go_wp2_with fail
  clear a1 c1
  refine (j2 _ BB.out).mono ?_
  rintro e w2 ⟨rfl, hb⟩
  replace BB : Hid (Below w.heap.size w w2) := (show Hid _ from BB.out.trans (hb.mono BB.out.size))
  clear hb j2 BA BC
  go_wp2
  go_ret
  exact ⟨rfl, BB.out⟩
end Go.Proofs.Ytdkhdjickkcaiaa.Rl

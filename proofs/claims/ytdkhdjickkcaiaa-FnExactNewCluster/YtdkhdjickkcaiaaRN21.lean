/-
  The specification's NewCluster.
  The program's NewCluster.
  Clusters marked and held by the laws.
-/
import Derived.Test.YtdkhdjickkcaiaaRN18
import Derived.Test.YtdkhdjickkcaiaaRN20
import Derived.Test.YtdkhdjickkcaiaaRN14
import Derived.Test.YtdkhdjickkcaiaaRN15
namespace Go.Proofs.Ytdkhdjickkcaiaa.Rl
open Go.RowKit Go.Sort
set_option linter.unusedVariables false
set_option linter.unusedSimpArgs false

theorem Rps.offR {w w' : World} {B : Nat} {T : List Rx} (h : Rps w B T) (hk : ∀ u ∈ rowsR T, ∀ k, u.ownBlock = some k → w'.heap[k]? = w.heap[k]?) : Rps w' B T :=
  ⟨fun x hx => (h.l x hx).off fun v hv k hk' => hk v (List.mem_flatMap.2 ⟨x, hx, hv⟩) k hk', h.ap⟩
/-- What holds behind the first of the new replicas. -/
structure NcS (w : World) (m : Nat) (wr : World) (v : Value) (L : List Rx) : Prop where
  o : OwnsR wr (w.heap.size + 2) v L
  r : Rps wr (w.heap.size + 2) L
  ap : ∀ u ∈ rowsR L, Rl.ap v u
  l : L.map (·.r) = (List.range L.length).map fun (i : Nat) => newA (i : Int) (m : Int)
  x : Bx wr (w.heap.size + 1) 31 #[v, .slice none 0 0]
  y : Bx wr w.heap.size 31 #[.slice none 0 0, .slice none 0 0]
  b : Below w.heap.size w wr
theorem newCl_next {L : List Rx} {m : Nat} {y : Rx} (h : L.map (·.r) = (List.range L.length).map fun (i : Nat) => newA (i : Int) (m : Int)) (hy : y.r = newA (L.length : Int) (m : Int)) :
    (L ++ [y]).map (·.r) = (List.range (L ++ [y]).length).map fun (i : Nat) => newA (i : Int) (m : Int) := by
  rw [List.map_append, h, List.length_append, List.length_singleton, List.range_succ, List.map_append]
  simp [hy]
/-- .. and a replica more, appended and stored. -/
theorem NcS.next {w wr w1 w3 w4 : World} {m : Nat} {v v' : Value} {L : List Rx} {y : Rx} (h : NcS w m wr v L) (hb : Below wr.heap.size wr w1) (hy : RpHas w1 wr.heap.size y.u y.r) (hp : RpAp y.u) (hr : y.r = newA (L.length : Int) (m : Int))
    (h13 : Below w1.heap.size w1 w3) (hs : w1.heap.size + 2 ≤ w3.heap.size) (ho : OwnsR w4 (w.heap.size + 2) v' (L ++ [y])) (hg : w3.grownBy w4 v.ownBlock) (hv : v'.ownBlock = v.ownBlock ∨ v'.ownBlock = some w3.heap.size) :
    NcS w m (w4.setCell ⟨w.heap.size + 1, 0, none⟩ v') v' (L ++ [y]) := by
  have hsz := h.x.lt
  have hb3 : Below wr.heap.size wr w3 := hb.trans (h13.mono hb.size)
  have hvf := h.o.from
  have hvu := h.o.under
  have hru := h.r.under
  have hyf := hy.from
  have hyu := hy.under
  have hs1 := hb.size
  have hr4 : Rps w4 (w.heap.size + 2) L := (Rps.offR (h.r.kept hb3) fun u hu k hk => by
    have h1 := hru u hu k hk
    refine hg.block k (by have := hb3.size; omega) fun e => ?_
    exact h.ap u hu k e.symm hk)
  have hy4 : RpHas w4 wr.heap.size y.u y.r := (hy.kept h13).off fun u hu k hk => by
    have h1 := hyf u hu k hk
    have h2 := hyu u hu k hk
    refine hg.block k (by have := h13.size; omega) fun e => ?_
    have := hvu k e.symm
    omega
  have hR : Rps w4 (w.heap.size + 2) (L ++ [y]) := hr4.snoc hy4 (by omega) hp hru
  have hA : ∀ u ∈ rowsR (L ++ [y]), Rl.ap v' u := fun u hu k hk hk' => by
    have hu' : u ∈ rowsR L ∨ u ∈ y.u.rows := by
      unfold rowsR at hu ⊢
      rw [List.flatMap_append, List.mem_append] at hu
      simpa using hu
    rcases hv with hv | hv
    · rw [hv] at hk
      rcases hu' with hu' | hu'
      · exact h.ap u hu' k hk hk'
      · have h1 := hvu k hk
        have h2 := hyf u hu' k hk'
        omega
    · rw [hv] at hk
      injection hk with hk
      rcases hu' with hu' | hu'
      · have h1 := hru u hu' k hk'
        have h2 := hb3.size
        omega
      · have h1 := hyu u hu' k hk'
        omega
  have hx4 : Bx w4 (w.heap.size + 1) 31 #[v, .slice none 0 0] := (Bx.kept h.x hb3).grown hg (fun e => by have := hvf _ e; omega)
  have hy5 : Bx w4 w.heap.size 31 #[.slice none 0 0, .slice none 0 0] := (Bx.kept h.y hb3).grown hg (fun e => by have := hvf _ e; omega)
  have hv4 := ho.from
  refine ⟨?_, ?_, hA, newCl_next h.l hr, Bx.put hx4 0 v', Bx.other hy5 _ _ (by omega), ?_⟩
  · exact OwnsE.other ho _ _ (fun k hk => by have := hv4 k hk; simp; omega)
  · exact hR.same fun k h1 h2 => Below.heap_setCell _ _ _ _ (by simp; omega)
  · refine Below.setCell ?_ (by simp) _
    exact belowE (h.b.trans (hb3.mono h.b.size)) hg (by have := hb3.size; omega) (fun k hk => by have := hvf k hk; omega)
set_option maxRecDepth 100000 in
set_option maxHeartbeats 16000000 in
theorem specNcl (n : Int) (w : World) : Calls Try.prog 11 #[.int .i64 n] w fun e w' => ClAns n w e w' := by
  have jp := fun W => specPrs n W
  by_cases hp : pOk n
  · rw [decide_eq_true hp] at jp
    obtain ⟨m, rfl⟩ : ∃ m : Nat, n = (m : Int) := ⟨n.toNat, by rcases hp with h | h | h <;> omega⟩
    have hm : m ≤ 5 := by rcases hp with h | h | h <;> omega
    have HP : Hid (pOk (m : Int)) := hp
    clear hp
    go_enter Try.func11, Try.ntmps11
    go_wp2_with (go_at_call 22; refine (jp _).mono ?_; rintro e w1 ⟨rfl, rfl⟩)
    go_loopw [5] (fun i wr => ∃ (L : List Rx) (v : Value), L.length ≤ m ∧ i = .int .i64 L.length ∧ Hid (NcS w m wr v L)) (fun i _ => m - (intOf i).toNat)
    case atStart =>
      refine ⟨[], .slice none 0 0, Nat.zero_le _, rfl, (show Hid _ from ⟨OwnsE.none _ _, Rps.nil _ _, (fun u hu => (by cases hu)), rfl, ?_, ?_, ?_⟩)⟩
      · exact Bx.at _ _ (by simp)
      · exact (Bx.at _ _ rfl).alloc _
      · exact ((Below.refl _ w).alloc (Nat.le_refl _) _).alloc (by simp) _
    case round =>
      obtain ⟨L, v, hk, rfl, hs⟩ := hrel
      by_cases hlt : L.length < m
      · have jn := fun W => specNewR (L.length : Int) (m : Int) W
        have hki : (L.length : Int) < (m : Int) := by omega
        go_wp2_with fail
        refine (jn _).mono ?_
        intro e w1 hn
        obtain ⟨y, rfl, hyr, hyh, hyp, hb1⟩ := hn.rx
        have HY : Hid (RpHas w1 wr.heap.size y.u y.r) := hyh
        have HYP : Hid (RpAp y.u) := hyp
        have HYR : Hid (y.r = newA (L.length : Int) (m : Int)) := hyr
        have HB1 : Hid (Below wr.heap.size wr w1) := hb1
        obtain ⟨va, vc, rfl, _⟩ := hs.out.o.form
        clear hn hyr hyh hyp hb1 jn
        obtain ⟨⟨xi, xp, xv, xn, xla, xl, xc, xok, xch, xte⟩, la, lc, oa, oc, ca, cc, ta, tc, T⟩ := y
        simp only
        go_upto_region 8 with fail
        have XB : Hid (Bx (w1.alloc (.cells #[.int .i64 xi, .int .i64 xp, .int .i64 xv, .bool xn, .int .i64 xla, .slice la xl.length lc, .int .i64 xc, .slice oa xok.length oc, .slice ca xch.length cc, .slice ta xte.length tc] 53)) w1.heap.size 53 #[.int .i64 xi, .int .i64 xp, .int .i64 xv, .bool xn, .int .i64 xla, .slice la xl.length lc, .int .i64 xc, .slice oa xok.length oc, .slice ca xch.length cc, .slice ta xte.length tc]) := (show Hid _ from Bx.new _ _ _)
        have BZ : Hid (Below w1.heap.size w1 (w1.alloc (.cells #[.int .i64 xi, .int .i64 xp, .int .i64 xv, .bool xn, .int .i64 xla, .slice la xl.length lc, .int .i64 xc, .slice oa xok.length oc, .slice ca xch.length cc, .slice ta xte.length tc] 53))) := (show Hid _ from (Below.refl _ w1).alloc (Nat.le_refl _) _)
        have ZZ : Hid ((w1.alloc (.cells #[.int .i64 xi, .int .i64 xp, .int .i64 xv, .bool xn, .int .i64 xla, .slice la xl.length lc, .int .i64 xc, .slice oa xok.length oc, .slice ca xch.length cc, .slice ta xte.length tc] 53)).heap.size = w1.heap.size + 1) := (show _ = _ from by simp)
        generalize (w1.alloc (.cells #[.int .i64 xi, .int .i64 xp, .int .i64 xv, .bool xn, .int .i64 xla, .slice la xl.length lc, .int .i64 xc, .slice oa xok.length oc, .slice ca xch.length cc, .slice ta xte.length tc] 53)) = w2 at XB BZ ZZ ⊢
        have B2 : Hid (Below wr.heap.size wr w2) := (show Hid _ from HB1.out.trans (BZ.out.mono HB1.out.size))
        have HX2 : Hid (Bx w2 (w.heap.size + 1) 31 #[.slice va L.length vc, .slice none 0 0]) := (show Hid _ from Bx.kept hs.out.x B2.out)
        have HO2 : Hid (OwnsR w2 (w.heap.size + 2) (.slice va L.length vc) L) := (show Hid _ from OwnsE.kept hs.out.o B2.out)
        have x0 := HX2.out.cell 0
        have c0 := XB.out.cell 0
        have c1 := XB.out.cell 1
        have c2 := XB.out.cell 2
        have c3 := XB.out.cell 3
        have c4 := XB.out.cell 4
        have c5 := XB.out.cell 5
        have c6 := XB.out.cell 6
        have c7 := XB.out.cell 7
        have c8 := XB.out.cell 8
        have c9 := XB.out.cell 9
        go_wp2_with (at_builtin; refine wpList_pushR w2 rfl (.tmp 25) (.tmp 27) rfl (w.heap.size + 2) (.slice va L.length vc) L ⟨⟨xi, xp, xv, xn, xla, xl, xc, xok, xch, xte⟩, la, lc, oa, oc, ca, cc, ta, tc, T⟩ #[.int .i64 xi, .int .i64 xp, .int .i64 xv, .bool xn, .int .i64 xla, .slice la xl.length lc, .int .i64 xc, .slice oa xok.length oc, .slice ca xch.length cc, .slice ta xte.length tc] rfl (by simp [Act.eval, Act.put]) HO2.out (by simp [Act.eval, Act.put]) (by omega) (by have := HX2.out.lt; omega) ?_; intro v' w4 ho hg hv; obtain ⟨va', vc', rfl, _⟩ := ho.form; have HO : Hid _ := ho; have HG : Hid _ := hg; have HV : Hid _ := hv; have HX4 : Hid (Bx w4 (w.heap.size + 1) 31 #[.slice va L.length vc, .slice none 0 0]) := (show Hid _ from Bx.grown (Bx.alloc HX2.out _) hg (fun e => by have := HO2.out.from _ e; omega)); clear ho hg hv x0 c0 c1 c2 c3 c4 c5 c6 c7 c8 c9; have z0 := HX4.out.cell 0; have f0 := HX4.out.free 0)
        have hN := NcS.next hs.out HB1.out HY.out HYP.out HYR.out (w3 := w2.alloc (.cells #[.int .i64 xi, .int .i64 xp, .int .i64 xv, .bool xn, .int .i64 xla, .slice la xl.length lc, .int .i64 xc, .slice oa xok.length oc, .slice ca xch.length cc, .slice ta xte.length tc] 53)) (BZ.out.alloc (by have := ZZ.out; omega) _) (by have := ZZ.out; simp; omega) HO.out HG.out (by
          rcases HV.out with e | e
          · exact .inl e
          · exact .inr (by rw [e]; simp))
        have hlen : (L ++ [(⟨⟨xi, xp, xv, xn, xla, xl, xc, xok, xch, xte⟩, la, lc, oa, oc, ca, cc, ta, tc, T⟩ : Rx)]).length = L.length + 1 := by simp
        have HN : Hid (NcS w m (w4.setCell ⟨w.heap.size + 1, 0, none⟩ (.slice va' (L ++ [(⟨⟨xi, xp, xv, xn, xla, xl, xc, xok, xch, xte⟩, la, lc, oa, oc, ca, cc, ta, tc, T⟩ : Rx)]).length vc')) (.slice va' (L ++ [(⟨⟨xi, xp, xv, xn, xla, xl, xc, xok, xch, xte⟩, la, lc, oa, oc, ca, cc, ta, tc, T⟩ : Rx)]).length vc') (L ++ [(⟨⟨xi, xp, xv, xn, xla, xl, xc, xok, xch, xte⟩, la, lc, oa, oc, ca, cc, ta, tc, T⟩ : Rx)])) := hN
        clear hN
        rw [hlen] at HN
        go_roundw
        case rel => exact ⟨L ++ [(⟨⟨xi, xp, xv, xn, xla, xl, xc, xok, xch, xte⟩, la, lc, oa, oc, ca, cc, ta, tc, T⟩ : Rx)], _, by omega, by rw [hlen]; go_num, HN⟩
        case measure => simp [intOf]; omega
      · have hkk : Hid (L.length = m) := (show _ = _ by omega)
        obtain ⟨va, vc, rfl, _⟩ := hs.out.o.form
        have x0 := hs.out.x.cell 0
        have x1 := hs.out.x.cell 1
        have y0 := hs.out.y.cell 0
        have y1 := hs.out.y.cell 1
        have f0 := hs.out.y.free 0
        have f1 := hs.out.y.free 1
        go_wp2
        refine bodyPost_ret (v := .tuple #[.agg #[.slice va L.length vc, .slice none 0 0], .bool true]) (by simp [results, Try.results11, go_sem, y0, y1]) rfl ⟨L, va, vc, none, 0, by rw [decide_eq_true HP.out], ?_, ?_, ?_, hs.out.ap, .inl ⟨rfl, rfl⟩, (fun u hu k h1 h2 => (by cases h2)), ?_⟩
        · rw [if_pos HP.out, newCl_nat, hs.out.l, hkk.out]
        · refine HasE.low (OwnsE.has (B := w.heap.size + 2) ?_) (by omega)
          repeat (refine OwnsE.other ?_ _ _ (fun k hk => by have := hs.out.o.from k hk; simp; omega))
          exact hs.out.o
        · refine Rps.low (B := w.heap.size + 2) ?_ (by omega)
          refine Rps.same hs.out.r fun k h1 h2 => ?_
          repeat (refine (Below.heap_setCell _ _ _ _ (by simp; omega)).trans ?_)
          rfl
        · repeat (refine Below.setCell ?_ (by simp) _)
          exact hs.out.b
  · rw [decide_eq_false hp] at jp
    have HP : Hid (¬ pOk n) := hp
    clear hp
    go_enter Try.func11, Try.ntmps11
    go_wp2_with (go_at_call 22; refine (jp _).mono ?_; rintro e w1 ⟨rfl, rfl⟩)
    refine bodyPost_ret (v := .tuple #[.agg #[.slice none 0 0, .slice none 0 0], .bool false]) (by simp [results, Try.results11, go_sem]) rfl (ClAns.no HP.out ?_)
    repeat (refine Below.setCell ?_ (by simp) _)
    exact (Below.refl _ w).alloc (Nat.le_refl _) _
end Go.Proofs.Ytdkhdjickkcaiaa.Rl
namespace Go.Proofs.Ytdkhdjickkcaiaa.Rl
open Go.RowKit Go.Sort
set_option linter.unusedVariables false
set_option linter.unusedSimpArgs false

/-- What holds behind the first of the new replicas, in a row made at once. -/
structure NcI (w1 : World) (m : Nat) (wr : World) (M : List Rx) : Prop where
  o : HasR wr w1.heap.size (.slice (some ⟨w1.heap.size, 0, none⟩) m m) (M ++ List.replicate (m - M.length) rxZ)
  r : Rps wr (w1.heap.size + 1) M
  l : M.map (·.r) = (List.range M.length).map fun (i : Nat) => newA (i : Int) (m : Int)
  b : Below w1.heap.size w1 wr
theorem NcI.next {w1 wr w2 : World} {m : Nat} {M : List Rx} {y : Rx} (h : NcI w1 m wr M) (hlt : M.length < m) (hb : Below wr.heap.size wr w2) (hy : RpHas w2 wr.heap.size y.u y.r) (hp : RpAp y.u) (hr : y.r = newA (M.length : Int) (m : Int)) :
    NcI w1 m (putL w2 w1.heap.size (rxC y) (M.length * 10)) (M ++ [y]) := by
  have hlw : w1.heap.size < wr.heap.size := h.o.under _ rfl
  have ho1 := h.o.kept hb
  have hq := HasM.puts ho1 (j := M.length) (by simp; omega) y
  rw [turnR_next _ _ _ hlt] at hq
  have hR := ((h.r.kept hb).snoc hy (by omega) hp (fun v hv k hk => h.r.under v hv k hk)).puts (Nat.lt_succ_self w1.heap.size) (rxC y) (M.length * 10)
  have hB := putL_below (Nat.le_refl w1.heap.size) (rxC y) (M.length * 10) (h.b.trans (hb.mono h.b.size))
  have hlen : (M ++ [y]).length = M.length + 1 := by simp
  rw [← hlen] at hq
  exact ⟨hq, hR, newCl_next h.l hr, hB⟩
set_option maxRecDepth 100000 in
set_option maxHeartbeats 16000000 in
theorem implNcl (n : Int) (w : World) : Calls Try.prog 12 #[.int .i64 n] w fun e w' => ClAns n w e w' := by
  have jp := fun W => implPrs n W
  by_cases hp : pOk n
  · rw [decide_eq_true hp] at jp
    obtain ⟨m, rfl⟩ : ∃ m : Nat, n = (m : Int) := ⟨n.toNat, by rcases hp with h | h | h <;> omega⟩
    have hm : m ≤ 5 := by rcases hp with h | h | h <;> omega
    have HP : Hid (pOk (m : Int)) := hp
    clear hp
    go_enter Try.func12, Try.ntmps12
    go_upto_region 1 with fail
    have Y0 : Hid (Bx (w.alloc (.cells #[.slice none 0 0, .slice none 0 0] 31)) w.heap.size 31 #[.slice none 0 0, .slice none 0 0]) := (show Hid _ from Bx.new _ _ _)
    have B0 : Hid (Below w.heap.size w (w.alloc (.cells #[.slice none 0 0, .slice none 0 0] 31))) := (show Hid _ from (Below.refl _ w).alloc (Nat.le_refl _) _)
    have Z0 : Hid ((w.alloc (.cells #[.slice none 0 0, .slice none 0 0] 31)).heap.size = w.heap.size + 1) := (show _ = _ from by simp)
    generalize (w.alloc (.cells #[.slice none 0 0, .slice none 0 0] 31)) = w1 at Y0 B0 Z0 ⊢
    obtain ⟨i0, hi, hz0, hz1, hz2⟩ := info_parts Try.infoRPV
    obtain ⟨w0, hrun, hown, hgr⟩ := run_make_full (P := Try.prog) w1 w1.heap.size 28 53 i0 (.agg #[.int .i64 0, .int .i64 0, .int .i64 0, .bool false, .int .i64 0, .slice none 0 0, .int .i64 0, .slice none 0 0, .slice none 0 0, .slice none 0 0]) 10 Try.underlying28 hi hz0 hz1 .i64 .i64 m (by rw [hz2]; omega) (by unfold maxLen; omega) (Nat.le_refl _)
    rw [madeRx] at hown
    have hs0 : Hid (NcI w1 m w0 []) := by
      have hown0 : OwnsR w0 w1.heap.size (.slice (some ⟨w1.heap.size, 0, Option.none⟩) m m) (List.replicate m rxZ) := by
        show w0.ownsRow _ _ 10 _ _ _
        rw [List.length_replicate]
        exact hown
      exact (show Hid _ from ⟨hown0.has, Rps.nil _ _, rfl, (Below.refl _ w1).grown hgr (Nat.le_refl _) (fun j hj => by cases hj)⟩)
    clear hown hgr hi hz0 hz1 hz2
    go_wp2_with (go_at_call 27; refine (jp _).mono ?_; rintro e wp ⟨rfl, rfl⟩)
    go_loopw [13] (fun i wr => ∃ (M : List Rx), M.length ≤ m ∧ i = .int .i64 M.length ∧ Hid (NcI w1 m wr M)) (fun i _ => m - (intOf i).toNat)
    case atStart => exact ⟨[], Nat.zero_le _, rfl, hs0⟩
    case round =>
      clear hs0 hrun
      obtain ⟨M, hk, rfl, hs⟩ := hrel
      by_cases hlt : M.length < m
      · have jn := fun W => implNewR (M.length : Int) (m : Int) W
        have hki : (M.length : Int) < (m : Int) := by omega
        go_wp2_with (go_at_call 33; refine (jn _).mono ?_; intro e w2 hn; obtain ⟨y, rfl, hyr, hyh, hyp, hb1⟩ := hn.rx; have HN : Hid _ := hs.out.next hlt hb1 hyh hyp hyr; have ho1 := hs.out.o.kept hb1; have fz := ho1.free; have dz := rxCells ho1.sls (j := M.length) (by simp; omega); clear hn hyr hyh hyp hb1 jn ho1; have f0 := fz (M.length * 10); have f1 := fz (M.length * 10 + 1); have f2 := fz (M.length * 10 + 2); have f3 := fz (M.length * 10 + 3); have f4 := fz (M.length * 10 + 4); have f5 := fz (M.length * 10 + 5); have f6 := fz (M.length * 10 + 6); have f7 := fz (M.length * 10 + 7); have f8 := fz (M.length * 10 + 8); have f9 := fz (M.length * 10 + 9); clear fz; simp only [Nat.zero_add] at dz; obtain ⟨d0, d1, d2, d3, d4, d5, d6, d7, d8, d9⟩ := dz)
        have hlen : (M ++ [y]).length = M.length + 1 := by simp
        go_roundw
        case rel => exact ⟨M ++ [y], by omega, by rw [hlen]; go_num, HN⟩
        case measure => simp [intOf]; omega
      · have hkk : Hid (M.length = m) := (show _ = _ by omega)
        have HY : Hid (Bx wr w.heap.size 31 #[.slice none 0 0, .slice none 0 0]) := (show Hid _ from Bx.low Y0.out hs.out.b (by have := Z0.out; omega))
        have HZ : Hid (Bx (wr.alloc (.cells #[] 57)) w.heap.size 31 #[.slice none 0 0, .slice none 0 0]) := (show Hid _ from Bx.alloc HY.out _)
        have HB : Hid (Below w.heap.size w (wr.alloc (.cells #[] 57))) := (show Hid _ from (B0.out.trans (hs.out.b.mono B0.out.size)).alloc (by have := B0.out.size; have := hs.out.b.size; omega) _)
        have HM : Hid (MzOwn (wr.alloc (.cells #[] 57)) (w.heap.size + 1) (.slice (some ⟨wr.heap.size, 0, none⟩) 0 0) []) := (show Hid _ from ⟨HasE.low (OwnsE.has (OwnsE.born wr)) (by have := Z0.out; have := hs.out.b.size; omega), Logs.nil _ _⟩)
        have HR : Hid (RsOwn (wr.alloc (.cells #[] 57)) (w.heap.size + 1) (.slice (some ⟨w1.heap.size, 0, none⟩) m m) M) := by
          have h1 := hs.out.o
          rw [hkk.out, Nat.sub_self, List.replicate_zero, List.append_nil] at h1
          exact (show Hid _ from RsOwn.kept ⟨h1.low (by have := Z0.out; omega), hs.out.r.low (by have := Z0.out; omega)⟩ ((Below.refl _ wr).alloc (Nat.le_refl _) _))
        have HA : Hid (∀ u ∈ Value.slice (some ⟨w1.heap.size, 0, none⟩) m m :: rowsR M, ap u (.slice (some ⟨wr.heap.size, 0, none⟩) 0 0)) := (show ∀ _ _, _ from fun u hu k h1 h2 => by
          have e : wr.heap.size = k := by simpa [Value.ownBlock] using h2
          rcases List.mem_cons.1 hu with rfl | hu
          · have := hs.out.o.under k h1; omega
          · have := hs.out.r.under u hu k h1; omega)
        have HA2 : Hid (∀ u ∈ rowsR M, ap (.slice (some ⟨w1.heap.size, 0, none⟩) m m) u) := (show ∀ _ _, _ from fun u hu k h1 h2 => by
          have e : w1.heap.size = k := by simpa [Value.ownBlock] using h1
          have := hs.out.r.from u hu k h2
          omega)
        have y0 := HZ.out.cell 0
        have y1 := HZ.out.cell 1
        have f0 := HZ.out.free 0
        have f1 := HZ.out.free 1
        go_upto_region 9 with fail
        go_wp2
        refine bodyPost_ret (v := .tuple #[.agg #[.slice (some ⟨w1.heap.size, 0, none⟩) m m, .slice (some ⟨wr.heap.size, 0, none⟩) 0 0], .bool true]) (by simp [results, Try.results12, go_sem, y0, y1]) rfl ⟨M, some ⟨w1.heap.size, 0, none⟩, m, some ⟨wr.heap.size, 0, none⟩, 0, by rw [decide_eq_true HP.out, hkk.out], ?_, ?_, ?_, by rw [hkk.out]; exact HA2.out, ?_, by rw [hkk.out]; exact HA.out, ?_⟩
        · rw [if_pos HP.out, newCl_nat, hs.out.l, hkk.out]
        · rw [hkk.out]
          refine HasE.low (B := w.heap.size + 1) (RsOwn.a (L := M) ?_) (by omega)
          repeat (refine RsOwn.set ?_ (by omega) _)
          exact HR.out
        · refine Rps.low (B := w.heap.size + 1) (RsOwn.r (a := .slice (some ⟨w1.heap.size, 0, none⟩) m m) ?_) (by omega)
          repeat (refine RsOwn.set ?_ (by omega) _)
          exact HR.out
        · refine HasE.low (B := w.heap.size + 1) (MzOwn.a (L := []) ?_) (by omega)
          repeat (refine MzOwn.set ?_ (by omega) _)
          exact HM.out
        · repeat (refine Below.setCell ?_ (by simp) _)
          exact HB.out
  · rw [decide_eq_false hp] at jp
    have HP : Hid (¬ pOk n) := hp
    clear hp
    go_enter Try.func12, Try.ntmps12
    go_wp2_with (go_at_call 27; refine (jp _).mono ?_; rintro e w1 ⟨rfl, rfl⟩)
    refine bodyPost_ret (v := .tuple #[.agg #[.slice none 0 0, .slice none 0 0], .bool false]) (by simp [results, Try.results12, go_sem]) rfl (ClAns.no HP.out ?_)
    repeat (refine Below.setCell ?_ (by simp) _)
    exact (Below.refl _ w).alloc (Nat.le_refl _) _
end Go.Proofs.Ytdkhdjickkcaiaa.Rl
namespace Go.Proofs.Ytdkhdjickkcaiaa.Rl
open Go.RowKit Go.Sort
set_option linter.unusedVariables false
set_option linter.unusedSimpArgs false

set_option maxRecDepth 100000 in
set_option maxHeartbeats 8000000 in
theorem markClu (s : Nat) (hs1 : 1 ≤ s) (aa : Option Addr) (ac : Nat) (ba : Option Addr) (bc : Nat) (L : List Rx) (M : List Mx) (hs2 : s + cRs L + cT M ≤ 50000000) (B : Nat) (w : World) (h : HasR w B (.slice aa L.length ac) L) (hL : Rps w B L) (hA : ∀ u ∈ rowsR L, ap (.slice aa L.length ac) u)
    (hm : HasM w B (.slice ba M.length bc) M) (hG : Logs w B M) (hB : ∀ x ∈ M, ap (.slice ba M.length bc) x.u) (hC : ∀ u ∈ Value.slice aa L.length ac :: rowsR L, ∀ v ∈ Value.slice ba M.length bc :: M.map Mx.u, ap u v) (hf : ClFit L M) :
    Calls Try.prog 13 #[.agg #[.slice aa L.length ac, .slice ba M.length bc], .int .i64 (s : Int)] w fun e w' => e = .returned (.int .i64 ((s : Int) + (cRs L : Int) + (cT M : Int))) ∧ ClGot w' (.slice aa L.length ac) (.slice ba M.length bc) (mkRs s L) (mkTe (s + cRs L) M) ∧ ChS (Bl ((Value.slice aa L.length ac :: rowsR L) ++ (Value.slice ba M.length bc :: M.map Mx.u))) w w' := by
  have j1 := fun W hW hR => markRps s hs1 (.slice aa L.length ac) L (by omega) B W hW hR hA hf.lf hf.ll
  have j2 := fun W hW hR => markMsS (s + cRs L) (by omega) (.slice ba M.length bc) M (by omega) B W hW hR hB (fun x hx => (hf.mf x hx).1) hf.ml
  have HTL : Hid (∀ x ∈ L, TeL x) := fun x hx => (hL.l x hx).got.tlen
  have HC : Hid (∀ u ∈ Value.slice aa L.length ac :: rowsR L, ∀ v ∈ Value.slice ba M.length bc :: M.map Mx.u, ap u v) := hC
  have hu1 : ∀ u ∈ Value.slice aa L.length ac :: rowsR L, ∀ k, u.ownBlock = some k → k < w.heap.size := fun u hu => by
    rcases List.mem_cons.1 hu with rfl | hu
    · exact h.under
    · exact hL.under u hu
  obtain ⟨w1, hw1⟩ : ∃ w1, w1 = w.alloc (.cells #[.slice aa L.length ac, .slice ba M.length bc] 31) := ⟨_, rfl⟩
  have hb1 : Below w.heap.size w w1 := by rw [hw1]; exact (Below.refl _ w).alloc (Nat.le_refl _) _
  have AA : Hid (Bx w1 w.heap.size 31 #[.slice aa L.length ac, .slice ba M.length bc]) := (show Hid _ from by rw [hw1]; exact Bx.new _ _ _)
  have HR : Hid (HasR w1 B (.slice aa L.length ac) L) := (show Hid _ from h.kept hb1)
  have HL : Hid (Rps w1 B L) := (show Hid _ from hL.kept hb1)
  have HM : Hid (HasM w1 B (.slice ba M.length bc) M) := (show Hid _ from hm.kept hb1)
  have HG : Hid (Logs w1 B M) := (show Hid _ from hG.kept hb1)
  have HU : Hid (∀ u ∈ Value.slice aa L.length ac :: rowsR L, ∀ k, u.ownBlock = some k → k < w.heap.size) := hu1
  have C1 : Hid (ChS (Bl ((Value.slice aa L.length ac :: rowsR L) ++ (Value.slice ba M.length bc :: M.map Mx.u))) w w1) := (show Hid _ from ChS.of_below hb1)
  obtain ⟨N1, hN1⟩ : ∃ N : Int, N = (s : Int) + (cRs L : Int) := ⟨_, rfl⟩
  obtain ⟨N2, hN2⟩ : ∃ N : Int, N = N1 + (cT M : Int) := ⟨_, rfl⟩
  rw [show ((s + cRs L : Nat) : Int) = N1 from by omega, ← hN2] at j2
  rw [← hN1] at j1
  rw [← hN1, ← hN2]
  clear h hL hA hm hG hB hC hf hu1 hb1 hN1 hN2
  go_enter Try.func13, Try.ntmps13
  have a0 := AA.out.cell 0
  go_wp2_with fail
  clear a0
  rw [← hw1]
  clear hw1
  refine (j1 _ HR.out HL.out).mono ?_
  rintro e w2 ⟨rfl, h1, h2, c2⟩
  have NS : ∀ v ∈ Value.slice ba M.length bc :: M.map Mx.u, ∀ k, v.ownBlock = some k → ¬ Bl (Value.slice aa L.length ac :: rowsR L) k := fun v hv k hk ⟨u, hu, huk⟩ => HC.out u hu v hv k huk hk
  replace HM : Hid (HasM w2 B (.slice ba M.length bc) M) := (show Hid _ from HasE.chs HM.out c2 (NS _ (List.mem_cons_self)))
  replace HG : Hid (Logs w2 B M) := (show Hid _ from ⟨fun x hx => HasE.chs (HG.out.l x hx) c2 (NS _ (List.mem_cons_of_mem _ (List.mem_map_of_mem hx))), HG.out.ap⟩)
  have HR2 : Hid (HasR w2 B (.slice aa L.length ac) (mkRs s L)) := (show Hid _ from h1)
  have HL2 : Hid (∀ x ∈ mkRs s L, RpHas w2 B x.u x.r) := (show ∀ _ _, _ from h2)
  replace AA : Hid (Bx w2 w.heap.size 31 #[.slice aa L.length ac, .slice ba M.length bc]) := (show Hid _ from (c2.block _ (Bx.lt AA.out) (fun ⟨u, hu, huk⟩ => Nat.lt_irrefl _ (HU.out u hu _ huk))).trans AA.out)
  replace C1 : Hid (ChS (Bl ((Value.slice aa L.length ac :: rowsR L) ++ (Value.slice ba M.length bc :: M.map Mx.u))) w w2) := (show Hid _ from ChS.trans C1.out (c2.mono fun k ⟨u, hu, huk⟩ => ⟨u, List.mem_append_left _ hu, huk⟩))
  clear h1 h2 c2 NS HR HL j1
  have a1 := AA.out.cell 1
  go_wp2_with fail
  clear a1
  refine (j2 _ HM.out HG.out).mono ?_
  rintro e w3 ⟨rfl, h1, h2, c3⟩
  have NS : ∀ u ∈ Value.slice aa L.length ac :: rowsR L, ∀ k, u.ownBlock = some k → ¬ Bl (Value.slice ba M.length bc :: M.map Mx.u) k := fun u hu k hk ⟨v, hv, hvk⟩ => HC.out u hu v hv k hk hvk
  have RG : Hid (ClGot w3 (.slice aa L.length ac) (.slice ba M.length bc) (mkRs s L) (mkTe (s + cRs L) M)) := by
    refine (show Hid _ from ⟨⟨(HasE.chs HR2.out c3 (NS _ (List.mem_cons_self))).sls, fun x hx => ?_⟩, ⟨h1.sls, h2.got⟩⟩)
    refine ((HL2.out x hx).off fun u hu k hk => c3.block k ((HL2.out x hx).under u hu k hk) (NS u (List.mem_cons_of_mem _ ?_) k hk)).got
    have e := mkRs_rows s L HTL.out
    have h9 : x.u.rows ∈ (mkRs s L).map (fun x => x.u.rows) := List.mem_map_of_mem hx
    rw [e] at h9
    obtain ⟨y, hy, ey⟩ := List.mem_map.1 h9
    exact List.mem_flatMap.2 ⟨y, hy, by rw [ey]; exact hu⟩
  replace C1 : Hid (ChS (Bl ((Value.slice aa L.length ac :: rowsR L) ++ (Value.slice ba M.length bc :: M.map Mx.u))) w w3) := (show Hid _ from ChS.trans C1.out (c3.mono fun k ⟨u, hu, huk⟩ => ⟨u, List.mem_append_right _ hu, huk⟩))
  clear h1 h2 c3 NS HR2 HL2 j2 AA HM HG
  go_wp2
  go_ret
  exact ⟨rfl, RG.out, C1.out⟩
set_option maxRecDepth 100000 in
set_option maxHeartbeats 8000000 in
theorem heldClu (s : Nat) (hs1 : 1 ≤ s) (aa : Option Addr) (ac : Nat) (ba : Option Addr) (bc : Nat) (L : List Rx) (M : List Mx) (hs2 : s + cRs L + cT M ≤ 50000000) (w : World) (h : ClGot w (.slice aa L.length ac) (.slice ba M.length bc) (mkRs s L) (mkTe (s + cRs L) M)) (ht : ∀ x ∈ L, x.T.map (·.m) = x.r.te) (hf : ClFit L M) :
    Calls Try.prog 14 #[.agg #[.slice aa L.length ac, .slice ba M.length bc], .int .i64 (s : Int)] w fun e w' => e = .returned (.int .i64 ((s : Int) + (cRs L : Int) + (cT M : Int))) ∧ Below w.heap.size w w' := by
  have j1 := fun W (hW : Below w.heap.size w W) => heldRps s hs1 (.slice aa L.length ac) L (by omega) W (h.l.kept hW) ht hf.lf hf.ll
  have j2 := fun W (hW : Below w.heap.size w W) => heldMsS (s + cRs L) (by omega) (.slice ba M.length bc) M (by omega) W (h.m.kept hW) (fun x hx => (hf.mf x hx).1) hf.ml
  obtain ⟨N1, hN1⟩ : ∃ N : Int, N = (s : Int) + (cRs L : Int) := ⟨_, rfl⟩
  obtain ⟨N2, hN2⟩ : ∃ N : Int, N = N1 + (cT M : Int) := ⟨_, rfl⟩
  rw [show ((s + cRs L : Nat) : Int) = N1 from by omega, ← hN2] at j2
  rw [← hN1] at j1
  rw [← hN1, ← hN2]
  have m1 : ¬ N1 < 0 := by omega
  have m2 : ¬ N2 < 0 := by omega
  clear h ht hf hN1 hN2
  go_enter Try.func14, Try.ntmps14
  go_wp2_with fail
  refine (j1 _ ((Below.refl _ w).alloc (Nat.le_refl _) _)).mono ?_
  rintro e w1 ⟨rfl, hb⟩
  have BX : Hid (Bx w1 w.heap.size 31 #[.slice aa L.length ac, .slice ba M.length bc]) := (show Hid _ from Bx.kept (Bx.new _ _ _) hb)
  have BB : Hid (Below w.heap.size w w1) := (show Hid _ from ((Below.refl _ w).alloc (Nat.le_refl _) _).trans (hb.mono (by simp)))
  clear hb j1
  have xa := BX.out.cell 1
  go_wp2_with fail
  clear xa
  refine (j2 _ BB.out).mono ?_
  rintro e w4 ⟨rfl, hb⟩
  have B4 : Hid (Below w.heap.size w w4) := (show Hid _ from BB.out.trans (hb.mono BB.out.size))
  clear hb j2
  go_wp2
  go_ret
  exact ⟨rfl, B4.out⟩
end Go.Proofs.Ytdkhdjickkcaiaa.Rl

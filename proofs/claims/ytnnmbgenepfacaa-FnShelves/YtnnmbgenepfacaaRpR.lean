/-
  The program's Place where it places.
-/
import Derived.Test.YtnnmbgenepfacaaRpP
namespace Go.Proofs.Ytnnmbgenepfacaa
open Go.RowKit Go.Sort Go.Shelf Rom
set_option linter.unusedVariables false
set_option linter.unusedSimpArgs false

attribute [local go_sem] Oper.semAt_some

theorem TwoB.grownP {w w' : World} {b : Nat} {x y : Value} {r : Option Nat} (h : TwoB w b x y) (hg : w.grownBy w' r) (hne : r ≠ some b) : TwoB w' b x y := by
  have e := hg.block b h.lt (fun e => hne e.symm)
  exact ⟨(World.cell?_of_block (a := ⟨b, 0, none⟩) e).trans h.c0, (World.cell?_of_block (a := ⟨b, 1, none⟩) e).trans h.c1, (World.frozen?_of_block (a := ⟨b, 0, none⟩) e).trans h.f0, (World.frozen?_of_block (a := ⟨b, 1, none⟩) e).trans h.f1, Nat.lt_of_lt_of_le h.lt hg.size⟩
theorem Sls.sameBlock {α : Type} {E : Enc α} {w w' : World} {g o n cap : Nat} {l : List α} (h : Sls E w (.slice (some ⟨g, o, Option.none⟩) n cap) l) (e : w'.heap[g]? = w.heap[g]?) : Sls E w' (.slice (some ⟨g, o, Option.none⟩) n cap) l := by
  obtain ⟨a, c, e1, h1, h2, h3⟩ := h
  injection e1 with e1 e2 e3
  subst e1; subst e2; subst e3
  refine ⟨_, _, rfl, h1, h2, fun h0 => ?_⟩
  obtain ⟨g', o', e4, hg, hc⟩ := h3 h0
  injection e4 with e4
  injection e4 with e5 e6
  subst e5; subst e6
  refine ⟨g, o, rfl, ?_, fun j u hu => (World.cell?_of_block (a := ⟨g, o + j, Option.none⟩) e).trans (hc j u hu)⟩
  have h7 : w.heap[g]? = some w.heap[g] := Array.getElem?_eq_getElem hg
  rw [h7] at e
  exact (Array.getElem?_eq_some_iff.1 e).1
/-- The frame, by letters. -/
def frP (s : Nat → Value) : Act := { tmps := #[s 0, s 1, s 2, s 3, s 4, s 5, s 6, s 7, s 8, s 9, s 10, s 11, s 12, s 13, s 14, s 15, s 16, s 17, s 18, s 19, s 20, s 21, s 22, s 23, s 24, s 25, s 26, s 27, s 28, s 29, s 30, s 31, s 32, s 33, s 34, s 35, s 36, s 37, s 38, s 39, s 40, s 41, s 42, s 43, s 44, s 45, s 46, s 47, s 48, s 49, s 50, s 51, s 52, s 53, s 54, s 55, s 56, s 57, s 58, s 59, s 60, s 61, s 62, s 63, s 64, s 65, s 66, s 67, s 68, s 69, s 70], defers := [] }
def frQ (s : Nat → Value) (c : Nat) (x : ItB) : Act := { tmps := #[s 0, s 1, s 2, s 3, s 4, s 5, s 6, s 7, s 8, s 9, s 10, s 11, .pointer (some ⟨c, 0, none⟩), s 13, s 14, s 15, s 16, s 17, s 18, s 19, s 20, s 21, s 22, s 23, s 24, s 25, s 26, s 27, s 28, s 29, s 30, s 31, s 32, s 33, s 34, s 35, s 36, s 37, s 38, s 39, s 40, s 41, s 42, s 43, s 44, s 45, s 46, s 47, s 48, s 49, s 50, s 51, s 52, s 53, s 54, s 55, .int .i64 x.i, .agg #[.string x.x.1, .int .i64 x.x.2], s 58, s 59, s 60, s 61, s 62, s 63, s 64, s 65, s 66, s 67, s 68, s 69, s 70], defers := [] }
set_option maxRecDepth 100000 in
set_option maxHeartbeats 8000000 in
theorem implPla4 (q : Int) (v : Value) (l : List It) (key : ByteArray) (n : Int) (w : World) (h : Sls itE w v l) (hlen : l.length ≤ 1048576) (hs : ∀ x ∈ l, x.1.size ≤ maxLen) (hks : key.size ≤ maxLen) (hok : shOk q l = true) (hn1 : ¬ n < 1) (hn2 : ¬ q < n) (hk5 : key.size ≤ 500) :
    Calls Try.prog 29 #[shV q v, .string key, .int .i64 n] w fun e w' => ∃ u g, e = .returned (.tuple #[shV (usdQ q l) u, g]) ∧ HasI8 w' w.heap.size u (plaL q l key n) ∧ HasX w' w.heap.size g (plaG q l key n) ∧ Below w.heap.size w w' := by
  have H0 : Hid (Sls itE w v l) := h
  obtain ⟨a, cap, rfl, _⟩ := h.itm
  have P0 := born_pl w q (.slice a l.length cap)
  have hsk := fun W (hW : Below w.heap.size w W) => implSok q (.slice a l.length cap) l W (H0.out.kept hW) hlen hs
  unfold shV at *
  unfold maxLen at hks
  clear h
  refine (callsIn_wide (n := 5)).1 ?_
  refine callsIn_of_wp_marks Try.func29 rfl trivial ?_ rfl
  simp only [Try.ntmps29, List.size_toArray, List.length_cons, List.length_nil, Nat.reduceAdd, Nat.reduceSub, Array.replicate_succ, Array.replicate_zero, List.push_toArray, List.append_toArray, List.nil_append, List.cons_append]
  refine wpIn_wide.2 ?_
  generalize hwB : (((w.alloc (.cells #[.int .i64 q, .slice a l.length cap] 34)).alloc (.cells #[.int .i64 0, .slice none 0 0] 34)).alloc (.cells #[] 9)).alloc (.cells #[.slice (some ⟨w.heap.size + 1 + 1, 0, none⟩) 0 0] 37) = wB at P0
  have x0 := (two_of P0.sh).c0
  have x1 := (two_of P0.sh).c1
  go_wp2_with fail
  refine (hsk _ P0.low).mono ?_
  rintro e w1 ⟨rfl, hb1⟩
  have P1 : Hid (PlAt w q (.slice a l.length cap) w1 (.slice (some ⟨w.heap.size + 1 + 1, 0, none⟩) 0 0) []) := P0.call hb1
  clear hb1 P0 x0 x1 hwB hsk
  have T3 := two_of P1.out.sh
  have T6 := two_of P1.out.rs
  obtain ⟨s0, s1, _, _, _⟩ := T3
  obtain ⟨r0, r1, f0, f1, rl⟩ := T6
  have g0 := P1.out.box.cell
  rw [hok]
  have ho := shOk_iff.1 hok
  have hl5 := ho.len
  have hqq := ho.quo
  have hk6 : ¬ (500 < (key.size : Int)) := by omega
  have hit : itOk q (key, n) = true := itOk_iff.2 ⟨hk5, by show 1 ≤ n; omega, by show n ≤ q; omega⟩
  have HQ : Hid (usdQ q l = q ∧ plaL q l key n = kept q (allI key n l) ∧ plaG q l key n = goneI (allI key n l) (keepN q (allI key n l) (allI key n l).length)) := by
    show _ ∧ _
    unfold usdQ plaL plaG
    rw [hok, if_pos rfl, if_pos rfl, if_pos rfl, if_pos hit, if_pos hit]
    exact ⟨rfl, rfl, rfl⟩
  have HAL : Hid ((∀ x ∈ allI key n l, x.1.size ≤ 500 ∧ 1 ≤ x.2 ∧ x.2 ≤ 100000) ∧ (allI key n l).length ≤ 51 ∧ 0 < (allI key n l).length) := (show _ ∧ _ from ⟨fun x hx => by
    unfold allI at hx
    rcases List.mem_cons.1 hx with e | e
    · rw [e]; exact ⟨hk5, by show 1 ≤ n; omega, by show n ≤ 100000; omega⟩
    · have := ho.it x (List.mem_filter.1 e).1
      exact ⟨this.1, this.2.1, by omega⟩, by have := allI_length key n l; omega, by unfold allI; simp⟩)
  have hpl := fun W (hW : Below w.heap.size w W) => implPlc (.slice a l.length cap) l key W (H0.out.kept hW)
  have hfr : Hid (∀ W, Below w.heap.size w W → Calls Try.prog 71 #[itV (key, n), .slice a l.length cap, .int .i64 (plA l key)] W fun e w' => ∃ u, e = .returned u ∧ OwnsI8 w' W.heap.size u (allI key n l) ∧ Below W.heap.size W w') := (show ∀ _, _ from fun W hW => by
    rcases plA_some (l := l) (key := key) with ⟨k, hk, e, ek⟩ | ⟨e, en⟩
    · rw [e]
      have := frontI_at (key, n) (.slice a l.length cap) l k W (H0.out.kept hW) hk (by omega)
      rw [show (key, n) :: l.eraseIdx k = allI key n l from by unfold allI; rw [(filt_at ho.keys hk ek).1]] at this
      exact this
    · rw [e]
      have := frontI_no (key, n) (.slice a l.length cap) l W (H0.out.kept hW) (by omega)
      rw [show (key, n) :: l = allI key n l from by unfold allI; rw [(filt_no (plO_none en)).1]] at this
      exact this)
  unfold itV at hfr
  generalize plA l key = pk at hpl hfr
  generalize allI key n l = AL at HQ HAL hfr
  have hb8 := P1.out.lt
  clear ho hok hit r0 r1 f0 f1 g0
  go_wp2_with fail
  refine wp_calmP ?_
  go_cut [9] from 38 to 47 (fun s wx => ∃ gi ci, s = .slice (some ⟨gi, 0, none⟩) AL.length ci ∧ Hid (OwnsI8 wx (w.heap.size + 4) (.slice (some ⟨gi, 0, none⟩) AL.length ci) AL) ∧ Hid (PlAt w q (.slice a l.length cap) wx (.slice (some ⟨w.heap.size + 1 + 1, 0, none⟩) 0 0) []))
  case first =>
    go_region_with (first
      | (go_at_call 72; refine (hpl _ (by exact ⟨P1.out.low.os, P1.out.low.tape, P1.out.low.output, P1.out.low.size, P1.out.low.block⟩)).mono ?_; rintro e w2 ⟨rfl, hb2⟩; have P2 : Hid (PlAt w q (.slice a l.length cap) w2 (.slice (some ⟨w.heap.size + 1 + 1, 0, none⟩) 0 0) []) := P1.out.call (by exact ⟨hb2.os, hb2.tape, hb2.output, hb2.size, hb2.block⟩); have t0 := (two_of P2.out.sh).c0; have t1 := (two_of P2.out.sh).c1; have hz2 := hb2.size; clear hb2)
      | (go_at_call 71; refine (hfr.out _ (by exact ⟨P2.out.low.os, P2.out.low.tape, P2.out.low.output, P2.out.low.size, P2.out.low.block⟩)).mono ?_; rintro e w3 ⟨u3, rfl, ho3, hb3⟩; have P3 : Hid (PlAt w q (.slice a l.length cap) w3 (.slice (some ⟨w.heap.size + 1 + 1, 0, none⟩) 0 0) []) := P2.out.call (by exact ⟨hb3.os, hb3.tape, hb3.output, hb3.size, hb3.block⟩); have HO3 : Hid (OwnsI8 w3 (w.heap.size + 4) u3 AL) := ho3.low (by exact P2.out.lt); obtain ⟨a3, c3, rfl, _, _, h3z⟩ := ho3.form; clear hb3 ho3))
    all_goals (try go_wp2_with fail)
    all_goals go_meet
    all_goals
      obtain ⟨g3, rfl⟩ : ∃ g3, a3 = some ⟨g3, 0, none⟩ := by
        rcases h3z with ⟨_, rfl⟩ | q3
        · have := HAL.out.2.2; obtain ⟨_, _, e, hh, _⟩ := HO3.out.form; injection e with _ _ e3; omega
        · exact q3
      exact ⟨g3, c3, rfl, HO3, P3⟩
  case rest =>
    obtain ⟨gi, ci, rfl, oA, P3⟩ := hcut
    obtain ⟨w3, rfl⟩ : ∃ z, z = wc := ⟨wc, rfl⟩
    clear P1 s0 s1 hpl hfr hb8
    have hst := implStay q (.slice (some ⟨gi, 0, none⟩) AL.length ci) AL w3 oA.out.sls (by have := HAL.out.2.1; omega) hqq (fun x hx => (HAL.out.1 x hx).2)
    have t0 := (two_of P3.out.sh).c0
    have hKle := keepN_le q AL AL.length
    have HKK : Hid (kept q AL = AL.take (keepN q AL AL.length)) := rfl
    generalize keepN q AL AL.length = K at hst hKle HKK HQ
    go_wp2_with fail
    refine hst.mono ?_
    rintro e w4 ⟨rfl, hb4⟩
    have P4 : Hid (PlAt w q (.slice a l.length cap) w4 (.slice (some ⟨w.heap.size + 1 + 1, 0, none⟩) 0 0) []) := P3.out.call hb4
    have o4 : Hid (OwnsI8 w4 (w.heap.size + 4) (.slice (some ⟨gi, 0, none⟩) AL.length ci) AL) := oA.out.kept hb4
    clear P3 oA hb4 hst t0
    obtain ⟨A, hA, hAs⟩ := o4.out.sls.rest (k := K) hKle
    rw [show 0 + K * itE.k = K * 2 from by show 0 + K * 2 = K * 2; omega] at hA
    have SA : Hid (Sls itE w4 (.slice (some A) (AL.length - K) (ci - K)) (AL.drop K)) := hAs
    have hci : AL.length ≤ ci := by obtain ⟨_, _, e, hh, _⟩ := o4.out.form; injection e with _ _ e3; omega
    have hcm : ci ≤ maxLen := by obtain ⟨_, _, e, _, hh, _⟩ := o4.out.form; injection e with _ _ e3; omega
    have hcm2 := hcm
    unfold maxLen at hcm2
    have hl51 := HAL.out.2.1
    have hKi : (K : Int) ≤ (AL.length : Int) := by omega
    clear hAs
    have hbk := implBackF (.slice (some A) (AL.length - K) (ci - K)) w4 ⟨_, _, _, rfl⟩
    go_wp2_with fail
    refine hbk.mono ?_
    rintro e w5 ⟨rfl, rfl⟩
    clear hbk
    go_wp2_with fail
    have RW : ∃ cur, w4.heap[gi]? = some (.cells cur 47 (0, 0)) := o4.out.ty rfl
    obtain ⟨cur, hcur⟩ := RW
    have hgl := (Array.getElem?_eq_some_iff.1 hcur).1
    have bA : Below w4.heap.size w4 (w4.alloc (.cells #[.slice (some A) (AL.length - K) (ci - K)] 32)) := (Below.refl _ w4).alloc (Nat.le_refl _) _
    have P5 : PlAt w q (.slice a l.length cap) (w4.alloc (.cells #[.slice (some A) (AL.length - K) (ci - K)] 32)) (.slice (some ⟨w.heap.size + 1 + 1, 0, none⟩) 0 0) [] := P4.out.call bA
    have hcur5 := (bA.block gi hgl).trans hcur
    have hdl : (AL.drop K).length = AL.length - K := List.length_drop
    have hbx5 : (w4.alloc (.cells #[.slice (some A) (AL.length - K) (ci - K)] 32)).heap[w4.heap.size]? = some (.cells #[.slice (some A) (AL.drop K).length (ci - K)] 32 (0, 0)) := by rw [hdl]; exact World.alloc_heap_new w4 _
    have hb4 := P4.out.lt
    have hz5 : (w4.alloc (.cells #[.slice (some A) (AL.length - K) (ci - K)] 32)).heap.size = w4.heap.size + 1 := by simp
    have hbs := back_stops 4 (by decide) (AL.drop K) (fun x hx => (HAL.out.1 x (List.mem_of_mem_drop hx)).1) (by omega) w4.heap.size gi (if K < ci then K * 2 else 0) (ci - K) A (w4.alloc (.cells #[.slice (some A) (AL.length - K) (ci - K)] 32)) hbx5 (by omega) (by omega) (fun h0 => by
      have hKc : ¬ ci = K := by omega
      rw [if_neg hKc] at hA
      injection hA with hA
      rw [if_pos (show K < ci by omega)]
      refine ⟨hA.symm, ⟨cur, _, hcur5⟩, fun j hj => ?_⟩
      have hjA : K + j < AL.length := by omega
      obtain ⟨q1, q2⟩ := ownsI_at o4.out (K + j) hjA
      rw [List.getElem_drop]
      rw [show (K + j) * 2 = K * 2 + j * 2 by omega] at q1 q2
      exact ⟨(bA.cell (p := ⟨gi, K * 2 + j * 2, none⟩) hgl).trans q1, (bA.cell (p := ⟨gi, K * 2 + j * 2 + 1, none⟩) hgl).trans q2⟩)
    unfold itV at hbs
    rw [hdl] at hbs
    have HCU : Hid (Sls itE w4 (.slice (some ⟨gi, 0, none⟩) K ci) (AL.take K)) := o4.out.sls.front hKle
    have HW4 : Hid (w4.heap[gi]? = some (.cells cur 47 (0, 0))) := hcur
    have H5 : Hid (PlAt w q (.slice a l.length cap) (w4.alloc (.cells #[.slice (some A) (AL.length - K) (ci - K)] 32)) (.slice (some ⟨w.heap.size + 1 + 1, 0, none⟩) 0 0) []) := P5
    generalize hA2 : Act.mk _ _ = AA
    obtain ⟨s, hs2, s3, s6, s8, s9, s10, s55⟩ : ∃ s : Nat → Value, AA = frP s ∧ s 3 = .pointer (some ⟨w.heap.size, 0, none⟩) ∧ s 6 = .pointer (some ⟨w.heap.size + 1, 0, none⟩) ∧ s 8 = .pointer (some ⟨w.heap.size + 3, 0, none⟩) ∧ s 9 = .slice (some ⟨gi, 0, none⟩) AL.length ci ∧ s 10 = .int .i64 (K : Int) ∧ s 55 = .func (.func 92) #[] #[.pointer (some ⟨w4.heap.size, 0, none⟩)] := by
      refine ⟨fun i => AA.tmps.getD i undef, ?_, ?_, ?_, ?_, ?_, ?_, ?_⟩ <;> rw [← hA2] <;> rfl
    rw [hs2]
    clear hs2 hA2 hA SA bA P5 P4 hbx5 hcur hdl o4
    obtain ⟨w5, hw5⟩ : ∃ z, z = w4.alloc (.cells #[.slice (some A) (AL.length - K) (ci - K)] 32) := ⟨_, rfl⟩
    rw [← hw5] at hbs H5 hcur5 hz5 ⊢
    have SK : Hid (Sls itE w5 (.slice (some ⟨gi, 0, none⟩) K ci) (AL.take K)) := by
      rw [hw5]
      exact (show Hid _ from HCU.out.kept ((Below.refl _ w4).alloc (Nat.le_refl _) _))
    clear hw5 HCU HW4
    have hgi5 : gi < w5.heap.size := (Array.getElem?_eq_some_iff.1 hcur5).1
    refine (wpIn_wide (n := 5)).1 ?_
    refine wpIn_rangeFunc_ownH (α := ItB) rfl (by decide) (gf := 92) (lb := #[.pointer (some ⟨w4.heap.size, 0, none⟩)]) (by show s 55 = _; exact s55) trivial (enters_of Try.func92 (by kernel_rfl) rfl)
      hbs KeepI.trans KeepI.book (Below.refl _ _) (fun _ => rfl)
      (fun pre W => (∃ v, PlAt w q (.slice a l.length cap) W v (pre.map (·.x.1))) ∧ W.heap[gi]? = some (.cells cur 47 (0, 0)))
      (fun _ _ _ => False)
      (OwnFrom.and (plAt_own w q (.slice a l.length cap) (fun pre : List ItB => pre.map (·.x.1)) _ (by have := H5.out.low.size; exact this)) (fun _ W W' row h hg hr => (hg.block gi (Array.getElem?_eq_some_iff.1 h).1 (fun e => by
        obtain ⟨_, o, ho, hc⟩ := hr gi e.symm
        rw [h] at ho
        injection ho with ho
        subst ho
        cases hc)).trans h))
      (fun c => fun _ _ _ _ h _ _ => h)
      ⟨⟨_, H5.out⟩, hcur5⟩
      (fun x a' W => ∃ c, a' = frQ s c x ∧ W.heap[c]? = some (.cells #[.string x.x.1, .int .i64 x.x.2] 47 (0, 0)))
      (fun x a' _ W W' row ⟨c, e, h⟩ hg hr => ⟨c, e, (hg.block c (Array.getElem?_eq_some_iff.1 h).1 (fun e => by
        obtain ⟨_, o, ho, hc⟩ := hr c e.symm
        rw [h] at ho
        injection ho with ho
        subst ho
        cases hc)).trans h⟩)
      ?assign ?body ?done ?stop
    case assign =>
      intro lo pre x W KK hI hKK
      obtain ⟨⟨v, hP⟩, hgi⟩ := hI
      have bA : Below W.heap.size W (W.alloc (.cells #[.string x.x.1, .int .i64 x.x.2] 47)) := (Below.refl _ W).alloc (Nat.le_refl _) _
      have HK2 := hKK (frQ s W.heap.size x) (W.alloc (.cells #[.string x.x.1, .int .i64 x.x.2] 47)) ((show KeepsOthers W _ from ⟨bA.size, fun k o hk _ => by rw [bA.block k (Array.getElem?_eq_some_iff.1 hk).1]; exact hk⟩).from _) (KeepI.below bA) ⟨⟨v, hP.call bA⟩, (bA.block gi (Array.getElem?_eq_some_iff.1 hgi).1).trans hgi⟩ ⟨_, rfl, World.alloc_heap_new W _⟩
      clear hKK hP hgi bA s3 s6 s8 s9 s10 s55
      unfold frP frQ at *
      simp only [List.zip_toArray, List.zip_cons_cons, List.zip_nil_left, List.foldl_toArray, List.foldl_cons, List.foldl_nil, List.setIfInBounds_toArray, List.set_cons_succ, List.set_cons_zero]
      gi_wp2
      exact HK2
    case body =>
      rintro lo pre x a' W hlo hrr ⟨⟨v, hP⟩, hgi⟩ ⟨c, rfl, hc⟩ hlt
      obtain ⟨va, vc, rfl⟩ := hP.form
      have HP : Hid (PlAt w q (.slice a l.length cap) W (.slice va (pre.map (·.x.1)).length vc) (pre.map (·.x.1))) := hP
      have cS := hP.box.cell
      have hTc := two_of hc
      have t0 := hTc.c0
      have t1 := hTc.c1
      have htl := hTc.lt
      have hl8 := hP.lt
      have hxs : x.x.1.size ≤ 281474976710656 := by have := x.small; omega
      have hpl : pre.length ≤ 100 := by omega
      clear hP hTc hbs hrr hlt hc
      unfold frQ
      rw [s8]
      clear s3 s6 s8 s9 s10 s55
      gi_wp2_with fail
      have hmx : Try.prog.follows .mixedOrders = true := by kernel_rfl
      refine wpIn_region_any hmx ?_
      (try (change wpAnyIn _ _ _ _ _ _ _ _ _ (World.drew _)))
      refine wpAnyIn_ready (rs := [0, 1]) (by kernel_rfl) (by simp) ?_
      refine AllReadyIn.cons rfl (fun K hK => ?_) (AllReadyIn.cons rfl (fun K hK => ?_) AllReadyIn.nil)
      · go_simp
        refine hK _ _ ?_
        clear hK K
        refine wpAnyIn_ready (rs := [1]) (by kernel_rfl) (by simp) ?_
        refine AllReadyIn.cons rfl (fun K hK => ?_) AllReadyIn.nil
        go_simp
        refine hK _ _ ?_
        clear hK K
        refine wpAnyIn_ready (rs := [2]) (by kernel_rfl) (by simp) ?_
        refine AllReadyIn.cons rfl (fun K hK => ?_) AllReadyIn.nil
        go_simp
        refine hK _ _ ?_
        clear hK K
        refine wpAnyIn_ready (rs := [3]) (by kernel_rfl) (by simp) ?_
        refine AllReadyIn.cons rfl (fun K hK => ?_) AllReadyIn.nil
        go_simp
        gi_wp2_with (refine ⟨trivial, ?_⟩; gi_at_call 75; refine (CallsIn.inRound lo (callsIn_wide.2 (implCln x.x.1 _ hxs))).mono ?_; rintro e W7 ⟨rfl, hb7⟩)
        have S7 : Hid (PlAt w q (.slice a l.length cap) W7 (.slice va (pre.map (·.x.1)).length vc) (pre.map (·.x.1))) := HP.out.drew.call hb7
        have cS7 := S7.out.box.cell
        have hl7 := S7.out.lt
        have K7 : Hid (KeepsOthers W W7) := (show Hid _ from (KeepsOthers.drew W).trans ⟨hb7.size, fun k o hk _ => by rw [hb7.block k (Array.getElem?_eq_some_iff.1 hk).1]; exact hk⟩)
        have N7 : Hid (KeepI W W7) := (show Hid _ from KeepI.trans (B := W.drew) (fun _ _ _ _ _ h => h) (KeepI.below hb7))
        clear hb7
        refine wpAnyIn_ready (rs := [4]) (by kernel_rfl) (by simp) ?_
        refine AllReadyIn.cons rfl (fun K hK => ?_) AllReadyIn.nil
        go_simp
        refine hK _ _ ?_
        clear hK K
        refine wpAnyIn_ready (rs := [5]) (by kernel_rfl) (by simp) ?_
        refine AllReadyIn.cons rfl (fun K hK => ?_) AllReadyIn.nil
        refine stepIn_pushX W7 W7.heap.size rfl rfl (.tmp 58) (.tmp 62) rfl w.heap.size (.slice va (pre.map (·.x.1)).length vc) (pre.map (·.x.1)) x.x.1 (by simp [Act.eval, Act.put]) S7.out.own (by simp [Act.eval, Act.put]) (by rw [List.length_map]; omega) S7.out.low.size ?_
        intro v8 w8 ho8 hg8
        obtain ⟨a8, c8, hv8, _⟩ := ho8.form
        rw [show ((pre.map (·.x.1)) ++ [x.x.1]).length = pre.length + 1 from by simp] at hv8
        subst hv8
        obtain ⟨⟨k8, f8⟩, S8, K8, N8⟩ := S7.out.push ho8 hg8
        refine hK _ _ ?_
        clear hK K
        refine wpAnyIn_ready (rs := [6]) (by kernel_rfl) (by simp) ?_
        refine AllReadyIn.cons rfl (fun K hK => ?_) AllReadyIn.nil
        go_simp
        refine hK _ _ ?_
        clear hK K
        refine wpAnyIn_done (by kernel_rfl) ?_ _
        gi_wp2
        refine ⟨((K7.out.trans K8)).from _, N7.out.trans N8, ⟨_, by rw [List.map_append]; exact S8⟩, ?_⟩
        exact (N7.out.trans N8) gi cur _ _ (.inl rfl) hgi
      · go_simp
        refine hK _ _ ?_
        clear hK K
        refine wpAnyIn_ready (rs := [0, 2]) (by kernel_rfl) (by simp) ?_
        refine AllReadyIn.cons rfl (fun K hK => ?_) (AllReadyIn.cons rfl (fun K hK => ?_) AllReadyIn.nil)
        · go_simp
          refine hK _ _ ?_
          clear hK K
          refine wpAnyIn_ready (rs := [2]) (by kernel_rfl) (by simp) ?_
          refine AllReadyIn.cons rfl (fun K hK => ?_) AllReadyIn.nil
          go_simp
          refine hK _ _ ?_
          clear hK K
          refine wpAnyIn_ready (rs := [3]) (by kernel_rfl) (by simp) ?_
          refine AllReadyIn.cons rfl (fun K hK => ?_) AllReadyIn.nil
          go_simp
          gi_wp2_with (refine ⟨trivial, ?_⟩; gi_at_call 75; refine (CallsIn.inRound lo (callsIn_wide.2 (implCln x.x.1 _ hxs))).mono ?_; rintro e W7 ⟨rfl, hb7⟩)
          have S7 : Hid (PlAt w q (.slice a l.length cap) W7 (.slice va (pre.map (·.x.1)).length vc) (pre.map (·.x.1))) := HP.out.drew.call hb7
          have cS7 := S7.out.box.cell
          have hl7 := S7.out.lt
          have K7 : Hid (KeepsOthers W W7) := (show Hid _ from (KeepsOthers.drew W).trans ⟨hb7.size, fun k o hk _ => by rw [hb7.block k (Array.getElem?_eq_some_iff.1 hk).1]; exact hk⟩)
          have N7 : Hid (KeepI W W7) := (show Hid _ from KeepI.trans (B := W.drew) (fun _ _ _ _ _ h => h) (KeepI.below hb7))
          clear hb7
          refine wpAnyIn_ready (rs := [4]) (by kernel_rfl) (by simp) ?_
          refine AllReadyIn.cons rfl (fun K hK => ?_) AllReadyIn.nil
          go_simp
          refine hK _ _ ?_
          clear hK K
          refine wpAnyIn_ready (rs := [5]) (by kernel_rfl) (by simp) ?_
          refine AllReadyIn.cons rfl (fun K hK => ?_) AllReadyIn.nil
          refine stepIn_pushX W7 W7.heap.size rfl rfl (.tmp 58) (.tmp 62) rfl w.heap.size (.slice va (pre.map (·.x.1)).length vc) (pre.map (·.x.1)) x.x.1 (by simp [Act.eval, Act.put]) S7.out.own (by simp [Act.eval, Act.put]) (by rw [List.length_map]; omega) S7.out.low.size ?_
          intro v8 w8 ho8 hg8
          obtain ⟨a8, c8, hv8, _⟩ := ho8.form
          rw [show ((pre.map (·.x.1)) ++ [x.x.1]).length = pre.length + 1 from by simp] at hv8
          subst hv8
          obtain ⟨⟨k8, f8⟩, S8, K8, N8⟩ := S7.out.push ho8 hg8
          refine hK _ _ ?_
          clear hK K
          refine wpAnyIn_ready (rs := [6]) (by kernel_rfl) (by simp) ?_
          refine AllReadyIn.cons rfl (fun K hK => ?_) AllReadyIn.nil
          go_simp
          refine hK _ _ ?_
          clear hK K
          refine wpAnyIn_done (by kernel_rfl) ?_ _
          gi_wp2
          refine ⟨((K7.out.trans K8)).from _, N7.out.trans N8, ⟨_, by rw [List.map_append]; exact S8⟩, ?_⟩
          exact (N7.out.trans N8) gi cur _ _ (.inl rfl) hgi
        · go_simp
          refine hK _ _ ?_
          clear hK K
          refine wpAnyIn_ready (rs := [0, 3]) (by kernel_rfl) (by simp) ?_
          refine AllReadyIn.cons rfl (fun K hK => ?_) (AllReadyIn.cons rfl (fun K hK => ?_) AllReadyIn.nil)
          · go_simp
            refine hK _ _ ?_
            clear hK K
            refine wpAnyIn_ready (rs := [3]) (by kernel_rfl) (by simp) ?_
            refine AllReadyIn.cons rfl (fun K hK => ?_) AllReadyIn.nil
            go_simp
            gi_wp2_with (refine ⟨trivial, ?_⟩; gi_at_call 75; refine (CallsIn.inRound lo (callsIn_wide.2 (implCln x.x.1 _ hxs))).mono ?_; rintro e W7 ⟨rfl, hb7⟩)
            have S7 : Hid (PlAt w q (.slice a l.length cap) W7 (.slice va (pre.map (·.x.1)).length vc) (pre.map (·.x.1))) := HP.out.drew.call hb7
            have cS7 := S7.out.box.cell
            have hl7 := S7.out.lt
            have K7 : Hid (KeepsOthers W W7) := (show Hid _ from (KeepsOthers.drew W).trans ⟨hb7.size, fun k o hk _ => by rw [hb7.block k (Array.getElem?_eq_some_iff.1 hk).1]; exact hk⟩)
            have N7 : Hid (KeepI W W7) := (show Hid _ from KeepI.trans (B := W.drew) (fun _ _ _ _ _ h => h) (KeepI.below hb7))
            clear hb7
            refine wpAnyIn_ready (rs := [4]) (by kernel_rfl) (by simp) ?_
            refine AllReadyIn.cons rfl (fun K hK => ?_) AllReadyIn.nil
            go_simp
            refine hK _ _ ?_
            clear hK K
            refine wpAnyIn_ready (rs := [5]) (by kernel_rfl) (by simp) ?_
            refine AllReadyIn.cons rfl (fun K hK => ?_) AllReadyIn.nil
            refine stepIn_pushX W7 W7.heap.size rfl rfl (.tmp 58) (.tmp 62) rfl w.heap.size (.slice va (pre.map (·.x.1)).length vc) (pre.map (·.x.1)) x.x.1 (by simp [Act.eval, Act.put]) S7.out.own (by simp [Act.eval, Act.put]) (by rw [List.length_map]; omega) S7.out.low.size ?_
            intro v8 w8 ho8 hg8
            obtain ⟨a8, c8, hv8, _⟩ := ho8.form
            rw [show ((pre.map (·.x.1)) ++ [x.x.1]).length = pre.length + 1 from by simp] at hv8
            subst hv8
            obtain ⟨⟨k8, f8⟩, S8, K8, N8⟩ := S7.out.push ho8 hg8
            refine hK _ _ ?_
            clear hK K
            refine wpAnyIn_ready (rs := [6]) (by kernel_rfl) (by simp) ?_
            refine AllReadyIn.cons rfl (fun K hK => ?_) AllReadyIn.nil
            go_simp
            refine hK _ _ ?_
            clear hK K
            refine wpAnyIn_done (by kernel_rfl) ?_ _
            gi_wp2
            refine ⟨((K7.out.trans K8)).from _, N7.out.trans N8, ⟨_, by rw [List.map_append]; exact S8⟩, ?_⟩
            exact (N7.out.trans N8) gi cur _ _ (.inl rfl) hgi
          · go_simp
            gi_wp2_with (refine ⟨trivial, ?_⟩; gi_at_call 75; refine (CallsIn.inRound lo (callsIn_wide.2 (implCln x.x.1 _ hxs))).mono ?_; rintro e W7 ⟨rfl, hb7⟩)
            have S7 : Hid (PlAt w q (.slice a l.length cap) W7 (.slice va (pre.map (·.x.1)).length vc) (pre.map (·.x.1))) := HP.out.drew.call hb7
            have cS7 := S7.out.box.cell
            have hl7 := S7.out.lt
            have K7 : Hid (KeepsOthers W W7) := (show Hid _ from (KeepsOthers.drew W).trans ⟨hb7.size, fun k o hk _ => by rw [hb7.block k (Array.getElem?_eq_some_iff.1 hk).1]; exact hk⟩)
            have N7 : Hid (KeepI W W7) := (show Hid _ from KeepI.trans (B := W.drew) (fun _ _ _ _ _ h => h) (KeepI.below hb7))
            clear hb7
            refine wpAnyIn_ready (rs := [0, 4]) (by kernel_rfl) (by simp) ?_
            refine AllReadyIn.cons rfl (fun K hK => ?_) (AllReadyIn.cons rfl (fun K hK => ?_) AllReadyIn.nil)
            · go_simp
              refine hK _ _ ?_
              clear hK K
              refine wpAnyIn_ready (rs := [4]) (by kernel_rfl) (by simp) ?_
              refine AllReadyIn.cons rfl (fun K hK => ?_) AllReadyIn.nil
              go_simp
              refine hK _ _ ?_
              clear hK K
              refine wpAnyIn_ready (rs := [5]) (by kernel_rfl) (by simp) ?_
              refine AllReadyIn.cons rfl (fun K hK => ?_) AllReadyIn.nil
              refine stepIn_pushX W7 W7.heap.size rfl rfl (.tmp 58) (.tmp 62) rfl w.heap.size (.slice va (pre.map (·.x.1)).length vc) (pre.map (·.x.1)) x.x.1 (by simp [Act.eval, Act.put]) S7.out.own (by simp [Act.eval, Act.put]) (by rw [List.length_map]; omega) S7.out.low.size ?_
              intro v8 w8 ho8 hg8
              obtain ⟨a8, c8, hv8, _⟩ := ho8.form
              rw [show ((pre.map (·.x.1)) ++ [x.x.1]).length = pre.length + 1 from by simp] at hv8
              subst hv8
              obtain ⟨⟨k8, f8⟩, S8, K8, N8⟩ := S7.out.push ho8 hg8
              refine hK _ _ ?_
              clear hK K
              refine wpAnyIn_ready (rs := [6]) (by kernel_rfl) (by simp) ?_
              refine AllReadyIn.cons rfl (fun K hK => ?_) AllReadyIn.nil
              go_simp
              refine hK _ _ ?_
              clear hK K
              refine wpAnyIn_done (by kernel_rfl) ?_ _
              gi_wp2
              refine ⟨((K7.out.trans K8)).from _, N7.out.trans N8, ⟨_, by rw [List.map_append]; exact S8⟩, ?_⟩
              exact (N7.out.trans N8) gi cur _ _ (.inl rfl) hgi
            · go_simp
              refine hK _ _ ?_
              clear hK K
              refine wpAnyIn_ready (rs := [0]) (by kernel_rfl) (by simp) ?_
              refine AllReadyIn.cons rfl (fun K hK => ?_) AllReadyIn.nil
              go_simp
              refine hK _ _ ?_
              clear hK K
              refine wpAnyIn_ready (rs := [5]) (by kernel_rfl) (by simp) ?_
              refine AllReadyIn.cons rfl (fun K hK => ?_) AllReadyIn.nil
              refine stepIn_pushX W7 W7.heap.size rfl rfl (.tmp 58) (.tmp 62) rfl w.heap.size (.slice va (pre.map (·.x.1)).length vc) (pre.map (·.x.1)) x.x.1 (by simp [Act.eval, Act.put]) S7.out.own (by simp [Act.eval, Act.put]) (by rw [List.length_map]; omega) S7.out.low.size ?_
              intro v8 w8 ho8 hg8
              obtain ⟨a8, c8, hv8, _⟩ := ho8.form
              rw [show ((pre.map (·.x.1)) ++ [x.x.1]).length = pre.length + 1 from by simp] at hv8
              subst hv8
              obtain ⟨⟨k8, f8⟩, S8, K8, N8⟩ := S7.out.push ho8 hg8
              refine hK _ _ ?_
              clear hK K
              refine wpAnyIn_ready (rs := [6]) (by kernel_rfl) (by simp) ?_
              refine AllReadyIn.cons rfl (fun K hK => ?_) AllReadyIn.nil
              go_simp
              refine hK _ _ ?_
              clear hK K
              refine wpAnyIn_done (by kernel_rfl) ?_ _
              gi_wp2
              refine ⟨((K7.out.trans K8)).from _, N7.out.trans N8, ⟨_, by rw [List.map_append]; exact S8⟩, ?_⟩
              exact (N7.out.trans N8) gi cur _ _ (.inl rfl) hgi
    case done =>
      rintro D ys W hD hys ⟨⟨v, hP⟩, hgi⟩ hK
      have hDl : D < W.heap.size := (Array.getElem?_eq_some_iff.1 hK).1
      have hP2 : PlAt w q (.slice a l.length cap) W v (goneI AL K) := by
        have := hP
        rw [hys] at this
        exact this
      obtain ⟨va, vc, rfl⟩ := hP2.form
      have SKW : Hid (Sls itE W (.slice (some ⟨gi, 0, none⟩) K ci) (AL.take K)) := SK.out.sameBlock (hgi.trans hcur5.symm)
      have hgl8 : (goneI AL K).length ≤ 51 := by unfold goneI; rw [List.length_reverse, List.length_map, List.length_drop]; omega
      have hD2 : w4.heap.size + 1 ≤ D := by rw [← hz5]; exact hD
      have HQ2 : Hid (usdQ q l = q ∧ plaL q l key n = AL.take K ∧ plaG q l key n = goneI AL K) := ⟨HQ.out.1, HQ.out.2.1.trans HKK.out, HQ.out.2.2⟩
      have hso := fun W' (hW' : Below W.heap.size W W') => implShOf q (.slice (some ⟨gi, 0, none⟩) K ci) (AL.take K) W' (SKW.out.kept hW') (by rw [List.length_take]; omega) (fun x hx => (HAL.out.1 x (List.mem_of_mem_take hx)).1)
      unfold shV at hso
      have HP : Hid (PlAt w q (.slice a l.length cap) W (.slice va (goneI AL K).length vc) (goneI AL K)) := hP2
      obtain ⟨r0, r1, f0, f1, rl⟩ := two_of hP2.rs
      have t0 := (two_of hP2.sh).c0
      have g0 := hP2.box.cell
      have hl8 := hP2.lt
      have HDD : Hid (W.heap[D]? = some (.deferred (some []))) := hK
      have hKci : K ≤ ci := by omega
      generalize goneI AL K = GG at HQ2 HP hgl8 g0
      generalize AL.take K = TK at HQ2 hso
      clear hys hP hP2 hgi hK SKW hbs H5 SK HQ HKK HAL hcur5
      unfold frP
      rw [s3, s6, s8, s9, s10]
      clear s3 s6 s8 s9 s10 s55
      go_wp2_with fail
      refine wp_calmP ?_
      go_region_with (go_at_call 70; refine (hso _ (by exact ⟨rfl, rfl, rfl, Nat.le_refl _, fun _ _ => rfl⟩)).mono ?_; rintro e w9 ⟨u9, rfl, ho9, hb9⟩; have P9 : Hid (PlAt w q (.slice a l.length cap) w9 (.slice va GG.length vc) GG) := HP.out.call (by exact ⟨hb9.os, hb9.tape, hb9.output, hb9.size, hb9.block⟩); obtain ⟨q0, q1, e0, e1, _⟩ := two_of P9.out.rs; have h0 := P9.out.box.cell; have HO9 : Hid (OwnsI8 w9 W.heap.size u9 TK) := (by exact ho9); have HD9 : Hid (w9.heap[D]? = some (.deferred (some []))) := (hb9.block D (by exact hDl)).trans HDD.out; obtain ⟨a9, c9, rfl, _⟩ := ho9.form; clear hb9 ho9)
      all_goals
        have HNE : Hid (∀ k, (Value.slice a9 TK.length c9).ownBlock = some k → k ≠ w.heap.size + 1) := (show ∀ _, _ from fun k hk => by have := HO9.out.from k hk; omega)
        have HRS : Hid (((w9.setCell ⟨w.heap.size + 1, 0, none⟩ (.int .i64 q)).setCell ⟨w.heap.size + 1, 1, none⟩ (.slice a9 TK.length c9)).heap[D]? = some (.deferred (some []))) := ((KeepsOthers.setCell w9 ⟨w.heap.size + 1, 0, none⟩ (.int .i64 q)).trans (KeepsOthers.setCell _ ⟨w.heap.size + 1, 1, none⟩ (.slice a9 TK.length c9))).same D _ HD9.out rfl
        have HOF : Hid (OwnsI8 ((w9.setCell ⟨w.heap.size + 1, 0, none⟩ (.int .i64 q)).setCell ⟨w.heap.size + 1, 1, none⟩ (.slice a9 TK.length c9)) W.heap.size (.slice a9 TK.length c9) TK) := HO9.out.two HNE.out _ _
        have HXF : Hid (OwnsX ((w9.setCell ⟨w.heap.size + 1, 0, none⟩ (.int .i64 q)).setCell ⟨w.heap.size + 1, 1, none⟩ (.slice a9 TK.length c9)) w.heap.size (.slice va GG.length vc) GG) := P9.out.own.two (b := w.heap.size + 1) (fun k hk e => by obtain ⟨cur, hc⟩ := P9.out.own.ty hk; subst e; exact absurd (block_ty hc P9.out.rs) (by decide)) _ _
        have HBF : Hid (Below w.heap.size w ((w9.setCell ⟨w.heap.size + 1, 0, none⟩ (.int .i64 q)).setCell ⟨w.heap.size + 1, 1, none⟩ (.slice a9 TK.length c9))) := (show Hid _ from (P9.out.low.setCell (p := ⟨w.heap.size + 1, 0, none⟩) (Nat.le_succ _) _).setCell (p := ⟨w.heap.size + 1, 1, none⟩) (Nat.le_succ _) _)
        have HTF : Hid (TwoB ((w9.setCell ⟨w.heap.size + 1, 0, none⟩ (.int .i64 q)).setCell ⟨w.heap.size + 1, 1, none⟩ (.slice a9 TK.length c9)) (w.heap.size + 1) (.int .i64 q) (.slice a9 TK.length c9)) := (show Hid _ from ⟨by simp [go_sem, q0, q1], by simp [go_sem, q0, q1], by simp [go_sem, e0, e1], by simp [go_sem, e0, e1], by simp [World.setCell]; have := P9.out.lt; omega⟩)
        go_wp2
        generalize (w9.setCell ⟨w.heap.size + 1, 0, none⟩ (.int .i64 q)).setCell ⟨w.heap.size + 1, 1, none⟩ (.slice a9 TK.length c9) = W2 at HRS HOF HXF HBF HTF ⊢
        refine ⟨by simp, .inl ⟨_, _, rfl, run_takeDeferred HRS.out, ?_⟩⟩
        have hpo := grownBy_putObj' W2 D (.deferred none)
        have T2 := HTF.out.grownP hpo (fun e => by injection e with e; omega)
        have O2 := HOF.out.grown hpo (fun k hk e => by injection e with e; have := HOF.out.from k hk; omega)
        have X2 := HXF.out.grown hpo (fun k hk e => by
          injection e with e
          obtain ⟨cur2, hc2⟩ := HXF.out.ty hk
          rw [← e, HRS.out] at hc2
          injection hc2 with hc2
          cases hc2)
        refine ⟨.tuple #[.agg #[.int .i64 q, .slice a9 TK.length c9], .slice va GG.length vc], ?_, ⟨_, _, by rw [HQ2.out.1], by rw [HQ2.out.2.1]; exact (O2.low (by have := HP.out.low.size; omega)).has, by rw [HQ2.out.2.2]; exact X2.has, HBF.out.trans (belowK_b (w := w) (Nat.le_refl _) W2 D _ _ (by omega) HRS.out rfl rfl)⟩⟩
        have k0 := T2.c0
        have k1 := T2.c1
        simp [results, Try.results29, go_sem, k0, k1]
    case stop =>
      rintro D c pre W hD hpre h hK
      exact h.elim
end Go.Proofs.Ytnnmbgenepfacaa

/-
  The program's Ranked.
  The program's checks of traces; the library's Index and Contains over numbers.
-/
import Derived.Test.YtdbeoloonoodkaaDoorG28
import Derived.Test.YtdbeoloonoodkaaDoorG10
import Derived.Deep.DeepCutAuto
import Derived.Lib.QuietBelow
namespace Go.Proofs.YtdbeoloonoodkaaDoor
open Go.RowKit Go.Sort Ow Ih
set_option linter.unusedVariables false
set_option linter.unusedSimpArgs false

theorem implRnk_no (v : Value) (l : List Int) (key : ByteArray) (w : World) (h : Sls intE w v l) (hs : srvOk l = false) :
    Calls Tryd.prog 10 #[v, .string key] w fun e w' => ∃ u, e = .returned u ∧ HasN w' w.heap.size u (rnkV l key) ∧ Below w.heap.size w w' := by
  have hv : rnkV l key = [] := by unfold rnkV; rw [hs]; rfl
  rw [hv]
  have B1 : Hid (Below w.heap.size w (w.alloc (.cells #[] 2))) := (show Hid _ from (Below.refl _ w).alloc (Nat.le_refl _) _)
  have j1 := implSrvs v l (w.alloc (.cells #[] 2)) (h.kept B1.out)
  rw [hs] at j1
  have HO : Hid (HasN (w.alloc (.cells #[] 2)) w.heap.size (.slice (some ⟨w.heap.size, 0, none⟩) 0 0) []) := (OwnsE.born w).has
  obtain ⟨a, cap, rfl, _⟩ := h.one
  clear h hs hv
  go_enter Tryd.func10, Tryd.ntmps10
  go_wp2_with (go_at_call 35; refine j1.mono ?_; rintro e w2 ⟨rfl, rfl⟩)
  go_ret
  exact ⟨_, rfl, HO.out, B1.out⟩
theorem rg_start {W : Int → Int} {l : List Int} {w w1 w2 : World} (inn : ∀ x ∈ l, 0 ≤ x ∧ x ≤ 99) (hw1 : w.alloc (.cells #[] 2) = w1) (hm : WtM w2 w1.heap.size W l) (hb : Below w1.heap.size w1 w2) :
    Rg1 W l w1.heap.size w2.heap.size w.heap.size inn w w.heap.size (.cells #[] 2) 0 (w2.alloc (.cells #[.slice none 0 0, .func (.func 37) #[.map (some w1.heap.size)] #[]] 58)) := by
  have hs1 : w1.heap.size = w.heap.size + 1 := by rw [← hw1]; simp
  have hs2 := hb.size
  have b1 : Below w.heap.size w w1 := by rw [← hw1]; exact (Below.refl _ w).alloc (Nat.le_refl _) _
  have b2 : Below w.heap.size w w2 := b1.trans (hb.mono (by omega))
  have hx : w2.heap[w.heap.size]? = some (.cells #[] 2) := by
    rw [hb.block w.heap.size (by omega), ← hw1]
    exact heap_alloc_new w _
  have hMl := hm.lt
  refine ⟨⟨[], .slice none 0 0, ⟨?_, ?_, ?_, by omega, by simp, OwnsE.none _ _, (fun k hk => by cases hk), hm.kept ((Below.refl _ w2).alloc (Nat.le_refl _) _), ?_, (fun k hk => by cases hk), ?_, ?_, (fun k hk => by cases hk)⟩, List.Perm.refl _, fun k k0 kn => by simp at kn⟩, b2.alloc (by omega) _⟩
  · exact (World.cell?_alloc_mark w2 _ _ _ 0)
  · simp [go_sem]
  · exact (World.cell?_alloc_mark w2 _ _ _ 1)
  · show w1.heap.size ≠ w2.heap.size
    omega
  · show (w2.alloc _).heap[w.heap.size]? = _
    rw [Below.heap_alloc _ _ _ (by omega)]
    exact hx
  · show w.heap.size ≠ w2.heap.size
    omega
theorem rg_own {W : Int → Int} {l : List Int} {M b : Nat} {w wr : World} {inn : ∀ x ∈ l, 0 ≤ x ∧ x ≤ 99} {k : Nat} (r : Rg1 W l M b w.heap.size inn w w.heap.size (.cells #[] 2) k wr) : OwnsN wr w.heap.size (.slice (some ⟨w.heap.size, 0, none⟩) 0 0) [] := by
  obtain ⟨hl, v, h1, _⟩ := r.h
  refine ownsE_same (OwnsE.born w) (fun k hk => ?_)
  have e : w.heap.size = k := by simpa [Value.ownBlock] using hk
  subst e
  rw [heap_alloc_new w _]
  exact h1.x
set_option maxRecDepth 100000 in
set_option maxHeartbeats 4000000 in
theorem implRnk_yes (v : Value) (l : List Int) (key : ByteArray) (w : World) (h : Sls intE w v l) (hs : srvOk l = true) (hk : key.size ≤ 1048576) :
    Calls Tryd.prog 10 #[v, .string key] w fun e w' => ∃ u, e = .returned u ∧ HasN w' w.heap.size u (rnkV l key) ∧ Below w.heap.size w w' := by
  have ok := srvOk_iff.1 hs
  have HV : Hid (rnkV l key = rnk (wgV key) l) := by show _ = _; unfold rnkV; rw [if_pos hs]
  have b1 : Below w.heap.size w (w.alloc (.cells #[] 2)) := (Below.refl _ w).alloc (Nat.le_refl _) _
  have s1 := h.kept b1
  obtain ⟨a, cap, rfl, h1, h2, h3⟩ := h.one
  obtain ⟨g, o, rfl, hg, hc⟩ := h3 ok.pos
  have HC : Hid (∀ j (hj : j < l.length), w.cell? ⟨g, o + j, none⟩ = some (.int .i64 l[j])) := hc
  have j1 := implSrvs _ l (w.alloc (.cells #[] 2)) s1
  rw [hs] at j1
  have j2 := implWof _ l key (w.alloc (.cells #[] 2)) s1 ok.len ok.inn hk
  generalize rnkV l key = RV at HV ⊢
  generalize wgV key = W at HV j2
  have hl9 := ok.len
  have HIN : Hid (∀ x ∈ l, 0 ≤ x ∧ x ≤ 99) := ok.inn
  have HRI : Hid (l.Pairwise (· < ·)) := ok.ris
  have H2 : Hid (cap ≤ maxLen) := h2
  generalize hw1 : w.alloc (.cells #[] 2) = w1 at j1 j2
  have HW1 : Hid (w.alloc (.cells #[] 2) = w1) := hw1
  have HM : Hid (w1.heap.size ≠ w.heap.size) := (by show _ ≠ _; rw [← hw1]; simp)
  clear h h2 h3 hc hs ok b1 s1
  go_enter Tryd.func10, Tryd.ntmps10
  go_wp2_with fail
  refine j1.mono ?_
  rintro e w2 ⟨rfl, rfl⟩
  go_wp2_with fail
  refine j2.mono ?_
  rintro e w2 ⟨rfl, hm2, hb2⟩
  have R0 : Hid _ := rg_start HIN.out HW1.out hm2 hb2
  clear hm2 hb2 j1 j2 hw1
  go_wp2
  go_loopw [22] (fun i wr => ∃ k : Nat, k ≤ l.length ∧ i = .int .i64 k ∧ Hid (Rg1 W l w1.heap.size w2.heap.size w.heap.size HIN.out w w.heap.size (.cells #[] 2) k wr)) (fun i _ => l.length - (intOf i).toNat)
  case atStart => exact ⟨0, Nat.zero_le _, rfl, R0⟩
  case round =>
    obtain ⟨k, hk9, rfl, hr⟩ := hrel
    clear R0
    by_cases hlt : k < l.length
    · have c1 := (hr.out.b.cell (p := ⟨g, o + k, none⟩) hg).trans (HC.out k hlt)
      have hki : (k : Int) < (l.length : Int) := by omega
      have hpu := hr.out.push hl9 hlt
      generalize l[k] = x at c1 hpu
      go_wp2_with (go_at_call 38; refine hpu.mono ?_; rintro e w4 ⟨rfl, r4⟩; have R4 : Hid _ := r4; clear r4)
      exact ⟨⟨k + 1, by omega, by go_num, R4⟩, by simp [intOf]; omega⟩
    · have hki : ¬ (k : Int) < (l.length : Int) := by omega
      obtain rfl : k = l.length := by omega
      have R2 : Hid (Rg2 W l w1.heap.size w2.heap.size w.heap.size HIN.out w [] [] w.heap.size 0 l.length wr) := hr.out.done HM.out (rg_own hr.out)
      clear hr
      obtain ⟨w3, rfl⟩ : ∃ x, x = wr := ⟨wr, rfl⟩
      go_wp2
      go_loopw [5] (fun vo wr => ∃ (out : List Int) (ko cap2 n : Nat), vo = .slice (some ⟨ko, 0, none⟩) out.length cap2 ∧ Hid (Rg2 W l w1.heap.size w2.heap.size w.heap.size HIN.out w out out ko cap2 n wr)) (fun vo _ => l.length - lenOf vo)
      case atStart => exact ⟨[], w.heap.size, 0, l.length, rfl, R2⟩
      case round =>
        obtain ⟨out, ko, cap2, n, rfl, hr⟩ := hrel
        clear R2
        have hlen := hr.out.len
        cases n with
        | zero =>
          have HD : Hid (out = rnk W l) := hr.out.done HRI.out
          go_wp2_with (go_at_call 39; refine hlen.mono ?_; rintro e w5 ⟨rfl, rfl⟩)
          go_ret
          exact ⟨_, rfl, by rw [HV.out, ← HD.out]; exact hr.out.o.has, hr.out.b⟩
        | succ n =>
          have hpo := hr.out.pop HRI.out hl9
          have hct := hr.out.count
          have hn0 : (0 : Int) < ((n + 1 : Nat) : Int) := by omega
          generalize ((n + 1 : Nat) : Int) = N1 at hlen hn0
          clear hr
          go_wp2_with fail
          refine hlen.mono ?_
          rintro e w5 ⟨rfl, rfl⟩
          go_wp2_with fail
          refine hpo.mono ?_
          rintro e w6 ⟨x, rfl, r6⟩
          have R6 : Hid _ := r6
          have has := asI x
          have hsz : w.heap.size ≤ w6.heap.size := r6.b.size
          clear r6 hpo hlen
          go_wp2_with (at_builtin; refine wpList_pushNa w6 rfl _ _ rfl w.heap.size ko out.length cap2 out x rfl R6.out.o rfl (by omega) hsz ?_; intro g' cap' w7 ho hk7 hg7; have R7 : Hid _ := R6.out.put ho hk7 hg7; clear ho hk7 hg7)
          refine ⟨⟨out ++ [x], g', cap', n, by rw [List.length_append]; rfl, R7⟩, ?_⟩
          simp [lenOf]
          omega
theorem implRnk (v : Value) (l : List Int) (key : ByteArray) (w : World) (h : Sls intE w v l) (hk : key.size ≤ 1048576) :
    Calls Tryd.prog 10 #[v, .string key] w fun e w' => ∃ u, e = .returned u ∧ HasN w' w.heap.size u (rnkV l key) ∧ Below w.heap.size w w' := by
  cases hs : srvOk l with
  | false => exact implRnk_no v l key w h hs
  | true => exact implRnk_yes v l key w h hs hk
set_option maxHeartbeats 1000000 in
theorem implOwn (v : Value) (l : List Int) (key : ByteArray) (w : World) (h : Sls intE w v l) (hk : key.size ≤ 1048576) :
    Calls Tryd.prog 11 #[v, .string key] w fun e w' => e = .returned (.int .i64 (ownV l key)) ∧ Below w.heap.size w w' := by
  have hr := implRnk v l key w h hk
  obtain ⟨a, cap, rfl, _⟩ := h.one
  have HO : Hid (ownV l key = (rnkV l key).headD (-1)) := rfl
  generalize ownV l key = OV at HO ⊢
  generalize rnkV l key = r at hr HO
  clear h
  go_enter Tryd.func11, Tryd.ntmps11
  go_wp2_with fail
  refine hr.mono ?_
  rintro e w1 ⟨u, rfl, hh, hb⟩
  have HB : Hid (Below w.heap.size w w1) := hb
  cases r with
  | nil =>
    obtain ⟨a1, c1, rfl, _⟩ := hh.form
    clear hh hb hr
    go_wp2
    go_ret
    exact ⟨congrArg (fun z => Ending.returned (.int .i64 z)) HO.out.symm, HB.out⟩
  | cons x t =>
    obtain ⟨a1, c1, rfl, h1, h2, h3⟩ := hh.sls.one
    obtain ⟨g1, o1, rfl, _, hc1⟩ := h3 (by simp)
    have c0 : w1.cell? ⟨g1, o1, none⟩ = some (.int .i64 x) := hc1 0 (by simp)
    have hl0 : (((x :: t).length : Int) == 0) = false := by rw [beq_eq_false_iff_ne]; rw [List.length_cons]; omega
    have hl1 : (0 : Int) < ((x :: t).length : Int) := by rw [List.length_cons]; omega
    generalize (x :: t).length = n at hl0 hl1
    clear hh hb hr h3 hc1 h1 h2
    go_wp2
    go_ret
    exact ⟨congrArg (fun z => Ending.returned (.int .i64 z)) HO.out.symm, HB.out⟩
end Go.Proofs.YtdbeoloonoodkaaDoor
namespace Go.Proofs.YtdbeoloonoodkaaDoor
open Go.RowKit Go.Sort Rom
set_option linter.unusedVariables false
set_option linter.unusedSimpArgs false

def idxA (l : List Int) (x : Int) : Int := if x ∈ l then (l.idxOf x : Int) else -1
theorem idx_at {x : Int} : ∀ (l : List Int) (k : Nat) (h : k < l.length), l[k] = x → x ∉ l.take k → l.idxOf x = k
  | [], k, h, _, _ => by simp at h
  | y :: l, 0, h, e, _ => by
    have e' : y = x := e
    rw [e', List.idxOf_cons_self]
  | y :: l, k + 1, h, e, hn => by
    have hy : y ≠ x := fun e2 => hn (by rw [List.take_succ_cons, e2]; exact List.mem_cons_self ..)
    rw [idx_ne l hy, idx_at l k (by simpa using h) (by simpa using e) (fun hm => hn (by rw [List.take_succ_cons]; exact List.mem_cons_of_mem _ hm))]
theorem idxA_at {l : List Int} {x : Int} {k : Nat} (h : k < l.length) (e : l[k] = x) (hn : x ∉ l.take k) : idxA l x = (k : Int) := by
  unfold idxA
  rw [if_pos (by rw [← e]; exact List.getElem_mem h), idx_at l k h e hn]
theorem idxA_no {l : List Int} {x : Int} (h : x ∉ l) : idxA l x = -1 := by unfold idxA; rw [if_neg h]
theorem idxA_in {l : List Int} {x : Int} (h : x ∈ l) : idxA l x = (l.idxOf x : Int) ∧ l.idxOf x < l.length := by unfold idxA; rw [if_pos h]; exact ⟨rfl, List.idxOf_lt_length_of_mem h⟩
theorem idxN (v : Value) (l : List Int) (x : Int) (w : World) (h : Sls intE w v l) :
    Calls Tryd.prog 43 #[v, .int .i64 x] w fun e w' => e = .returned (.int .i64 (idxA l x)) ∧ w = w' := by
  obtain ⟨a, cap, rfl, h1, h2, h3⟩ := h.one
  unfold maxLen at h2
  clear h
  go_enter Tryd.func43, Tryd.ntmps43
  go_wp2
  go_loop [8] (fun i => ∃ k : Nat, k ≤ l.length ∧ i = .int .i64 k ∧ Hid (x ∉ l.take k)) (fun i => l.length - (intOf i).toNat)
  case atStart => exact ⟨0, Nat.zero_le _, rfl, (show Hid _ from (by simp : x ∉ l.take 0))⟩
  case round =>
    obtain ⟨k, hk, rfl, hno⟩ := hrel
    by_cases hlt : k < l.length
    · obtain ⟨g, o, rfl, hg, hc⟩ := h3 (by omega)
      have c1 := hc k hlt
      have HA := fun e => idxA_at hlt e hno.out
      have HN : Hid (x ∉ l.take k ++ [l[k]] → x ∉ l.take (k + 1)) := by
        show _ → _
        rw [List.take_succ_eq_append_getElem hlt]
        exact id
      generalize l[k] = y at c1 HA HN
      by_cases e : y = x
      · have HE : Hid ((k : Int) = idxA l x) := (HA e).symm
        subst e
        clear HA HN hc h3
        go_wp2
        go_ret
        exact ⟨congrArg (fun b => Ending.returned (.int .i64 b)) HE.out, rfl⟩
      · have e1 : (x == y) = false := by simpa using fun e2 : x = y => e e2.symm
        have HM : Hid (x ∉ l.take (k + 1)) := HN.out (fun hm => by
          rcases List.mem_append.1 hm with q | q
          · exact hno.out q
          · exact e (List.mem_singleton.1 q).symm)
        clear HA HN hc h3
        go_wp2
        go_round
        case rel => exact ⟨k + 1, by omega, by go_num, HM⟩
        case measure => simp [intOf]; omega
    · obtain rfl : k = l.length := by omega
      have HE : Hid (-1 = idxA l x) := by
        have := hno.out
        rw [List.take_of_length_le (Nat.le_refl _)] at this
        exact (idxA_no this).symm
      go_wp2
      go_ret
      exact ⟨congrArg (fun b => Ending.returned (.int .i64 b)) HE.out, rfl⟩
end Go.Proofs.YtdbeoloonoodkaaDoor

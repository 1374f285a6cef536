/-
  The program's Best.
-/
import Derived.Test.YtnnmbgenepfacaaRhQ
import Derived.Test.YtnnmbgenepfacaaRomF
import Derived.Deep.LoopGhost
import Derived.WalkMore
namespace Go.Proofs.Ytnnmbgenepfacaa
open Go.RowKit Go.Sort Rom
set_option linter.unusedVariables false
set_option linter.unusedSimpArgs false

set_option maxHeartbeats 1000000 in
theorem implNext (v : Value) (t : List Int) (i : Nat) (w : World) (h : Sls numE w v t) (hi : i < t.length) (hl : t.length ≤ 60) :
    Calls Try.prog 61 #[v, .int .i64 (i : Int)] w fun e w' => e = .returned (.int .i64 (nxT t (i + 1) t[i])) ∧ Grew w w' := by
  obtain ⟨a, cap, rfl, h1, h2, h3⟩ := h.one
  obtain ⟨g, q, rfl, hg, hc⟩ := h3 (by omega)
  have HC : Hid (∀ W, Grew w W → ∀ (j : Nat) (hj : j < t.length), W.cell? ⟨g, q + j, none⟩ = some (.int .i64 t[j])) := fun W hW j hj => hW.cell (hc j hj) hg
  have HX : Hid (∀ W, Grew w W → W.cell? ⟨g, q + i, none⟩ = some (.int .i64 t[i])) := fun W hW => HC.out W hW i hi
  unfold nxT
  generalize t[i] = x at HX ⊢
  obtain ⟨A, hA⟩ : ∃ A : Nat, A = i + 1 + (t.drop (i + 1)).idxOf x := ⟨_, rfl⟩
  have HA : Hid (A = i + 1 + (t.drop (i + 1)).idxOf x) := hA
  rw [← hA]
  have hii : (i : Int) < (t.length : Int) := by omega
  clear h h2 h3 hc hA
  go_enter Try.func61, Try.ntmps61
  go_wp2
  go_loopw [5] (fun z wr => ∃ (j : Nat), j ≤ t.length ∧ z = .int .i64 j ∧ Hid (Grew w wr) ∧ Hid (A = j + (t.drop j).idxOf x)) (fun z _ => t.length - (intOf z).toNat)
  case atStart => exact ⟨i + 1, by omega, by simp, (show Hid _ from Grew.refl _), HA⟩
  case round =>
    obtain ⟨j, hj, rfl, hgr, hAj⟩ := hrel
    by_cases hlt : j < t.length
    · have c0 := HC.out wr hgr.out j hlt
      have c1 := HX.out wr hgr.out
      have hd := drop_idx (x := x) hlt
      have hji : (j : Int) < (t.length : Int) := by omega
      by_cases e : t[j] = x
      · rw [if_pos e] at hd
        have HE : Hid ((j : Int) = (A : Int)) := by show _ = _; rw [hAj.out, hd]; rfl
        generalize t[j] = y at c0 e
        have e1 : (y == x) = true := by simpa using e
        clear hd e
        go_wp2_with fail
        go_quiet (fail)
        have hg2 : Hid (Grew w (wr.drewN nq)) := hgr.out.drewN _
        generalize wr.drewN nq = w1 at hg2 ⊢
        go_wp2
        go_ret
        exact ⟨congrArg (fun z => Ending.returned (.int .i64 z)) HE.out, hg2.out⟩
      · rw [if_neg e] at hd
        have HE : Hid (A = j + 1 + (t.drop (j + 1)).idxOf x) := by show _ = _; rw [hAj.out, hd]; omega
        generalize t[j] = y at c0 e
        have e1 : (y == x) = false := by simpa using e
        clear hd e
        go_wp2_with fail
        go_quiet (fail)
        have hg2 : Hid (Grew w (wr.drewN nq)) := hgr.out.drewN _
        generalize wr.drewN nq = w1 at hg2 ⊢
        go_wp2
        go_roundw
        case rel => exact ⟨j + 1, by omega, by go_num, hg2, HE⟩
        case measure => simp [intOf]; omega
    · obtain rfl : j = t.length := by omega
      have HE : Hid ((t.length : Int) = (A : Int)) := by
        show _ = _
        rw [hAj.out, List.drop_of_length_le (Nat.le_refl _)]
        simp
      go_wp2
      go_ret
      exact ⟨congrArg (fun z => Ending.returned (.int .i64 z)) HE.out, hgr.out⟩
theorem born_hp (w : World) : HpB ((w.alloc (.cells #[] 74)).alloc (.cells #[.slice (some ⟨w.heap.size, 0, none⟩) 0 0] 72)) w.heap.size (w.heap.size + 1) [] (.slice (some ⟨w.heap.size, 0, none⟩) 0 0) := by
  have hz : (w.alloc (.cells #[] 74)).heap.size = w.heap.size + 1 := by simp
  refine ⟨?_, ?_, by omega, by simp, (OwnsE.born w).alloc _, fun k hk => ?_⟩
  · rw [← hz, World.cell?_alloc_mark]; rfl
  · rw [← hz]; simp [go_sem]
  · simp [Value.ownBlock] at hk; omega
set_option maxRecDepth 100000 in
set_option maxHeartbeats 8000000 in
theorem implBestIn (v : Value) (t : List Int) (r : Nat) (w : World) (h : Sls numE w v t) (hT : toldB t (r : Int) = true) :
    Calls Try.prog 24 #[v, .int .i64 (r : Int)] w fun e w' => e = .returned (.int .i64 (opt r t [] : Int)) ∧ Below w.heap.size w w' := by
  have HT := implTrc _ t w h
  have HO := implRom (r : Int) w
  obtain ⟨hl, hr, htr⟩ := toldB_parts hT
  rw [told_trc, Bool.and_eq_true] at hT
  rw [hT.1] at HT
  rw [hT.2] at HO
  have HTR : Hid (∀ x ∈ t, 0 ≤ x ∧ x ≤ 20) := htr
  have HS : Hid (Sls numE w v t) := h
  obtain ⟨a, cap, rfl, h1, h2, h3⟩ := h.one
  have hst := BestSt.start r t
  obtain ⟨O, hO⟩ : ∃ O, O = opt r t [] := ⟨_, rfl⟩
  rw [← hO] at hst ⊢
  have HST : Hid (BestSt r O t 0 0 []) := hst
  have HBO : Hid _ := born_hp w
  have HBB : Hid (Below w.heap.size w ((w.alloc (.cells #[] 74)).alloc (.cells #[.slice (some ⟨w.heap.size, 0, none⟩) 0 0] 72))) := ((Below.refl _ w).alloc (Nat.le_refl _) _).alloc (by simp) _
  clear h h2 hT htr hst hO
  go_enter Try.func24, Try.ntmps24
  go_wp2
  go_step3
  go_wp2_with fail
  refine HT.mono ?_
  rintro e w' ⟨rfl, rfl⟩
  go_wp2_with fail
  refine HO.mono ?_
  rintro e w' ⟨rfl, rfl⟩
  go_wp2_with fail
  go_step3
  go_wp2_with fail
  clear HT HO
  go_loopg [5, 24] t.length (fun gg mm i wr => ∃ (k m : Nat) (l : List Co) (u : Value), k + gg = t.length ∧ i = .int .i64 (k : Int) ∧ mm = .int .i64 (m : Int) ∧ Hid (HpB wr w.heap.size (w.heap.size + 1) l u) ∧ Hid (BestSt r O t k m l) ∧ Hid (Below w.heap.size w wr))
  case atStart => exact ⟨0, 0, [], _, by omega, rfl, rfl, HBO, HST, HBB⟩
  case round =>
    clear HBO HST HBB
    obtain ⟨k, m, l, u, hkg, rfl, rfl, hp, hst, hb⟩ := hrel
    cases gk with
    | zero =>
      obtain rfl : k = t.length := by omega
      have HE : Hid ((m : Int) = (O : Int)) := by show _ = _; rw [hst.out.stop]
      go_wp2
      try rw [Exit.noGoto_ret]
      go_ret
      exact ⟨congrArg (fun z => Ending.returned (.int .i64 z)) HE.out, hb.out⟩
    | succ go =>
      have hlt : k < t.length := by omega
      have hki : (k : Int) < (t.length : Int) := by omega
      obtain ⟨g, q, rfl, hg, hc⟩ := h3 (by omega)
      have c0 : wr.cell? ⟨g, q + k, none⟩ = some (.int .i64 t[k]) := (hb.out.cell (p := ⟨g, q + k, none⟩) hg).trans (hc k hlt)
      have hnx := implNext _ t k wr (HS.out.kept hb.out) hlt hl
      have htk : Hid (0 ≤ t[k] ∧ t[k] ≤ 20) := HTR.out _ (List.getElem_mem hlt)
      have K1 : Hid (∀ (j : Nat) (hj : j < l.length), l[j].1 = t[k] → ∀ l', l'.Perm (l.set j (t[k], nxT t (k + 1) t[k])) → isHp l' → BestSt r O t (k + 1) m l') := (show ∀ _, _ from fun j hj e l' p hh => hst.out.hit (by omega) hlt htk.out hj e p hh)
      have K2 : Hid (t[k] ∉ l.map Prod.fst → l.length < r → ∀ l', l'.Perm (l ++ [(t[k], nxT t (k + 1) t[k])]) → isHp l' → BestSt r O t (k + 1) (m + 1) l') := (show _ → _ from fun hx hl l' p hh => hst.out.room (by omega) hlt htk.out hx hl p hh)
      have K3 : Hid (t[k] ∉ l.map Prod.fst → l.length = r → ∀ (h0 : 0 < l.length) l2, (l[0] :: l2).Perm l → ∀ l', l'.Perm (l2 ++ [(t[k], nxT t (k + 1) t[k])]) → isHp l' → BestSt r O t (k + 1) (m + 1) l') := (show _ → _ from fun hx hl h0 l2 p0 l' p hh => hst.out.full (by omega) hlt htk.out hx hl h0 p0 p hh)
      have hmk := hst.out.few
      have hll := hst.out.len
      generalize nxT t (k + 1) t[k] = nx at hnx K1 K2 K3
      generalize t[k] = x at c0 htk K1 K2 K3
      have hms : Hid (Nm l ∧ isHp l) := ⟨hst.out.nm, hst.out.hp⟩
      clear hst hc h3
      go_wp2_with fail
      refine hnx.mono ?_
      rintro e w1 ⟨rfl, hg1⟩
      have hp1 : Hid (HpB w1 w.heap.size (w.heap.size + 1) l u) := hp.out.kept hg1.low
      have hb1 : Hid (Below w.heap.size w w1) := (show Hid _ from hb.out.trans (hg1.low.mono hb.out.size))
      clear hnx hg1 c0 hp hb
      obtain ⟨ua, uc, rfl, hu1, hu2, hu3⟩ := hp1.out.o.form
      have cb := hp1.out.c
      unfold maxLen at hu2
      go_wp2_with fail
      clear cb
      obtain ⟨b, hbw⟩ : ∃ b, b = w.heap.size + 1 := ⟨_, rfl⟩
      go_loopg [36] l.length (fun g2 s36 wr => ∃ (j : Nat), j + g2 = l.length ∧ s36 = .int .i64 (j : Int) ∧ Hid (x ∉ (l.take j).map Prod.fst) ∧ Hid (HpB wr w.heap.size (w.heap.size + 1) l (.slice ua l.length uc)) ∧ Hid (Below w.heap.size w wr))
      case atStart => exact ⟨0, by omega, rfl, (show Hid _ from (by simp : x ∉ (l.take 0).map Prod.fst)), hp1, hb1⟩
      case round =>
        clear hp1 hb1
        obtain ⟨j, hjg, rfl, hno, hp, hb⟩ := hrel
        cases gk with
        | zero =>
          obtain rfl : j = l.length := by omega
          have hno2 : Hid (x ∉ l.map Prod.fst) := by
            have := hno.out
            rw [List.take_of_length_le (Nat.le_refl _)] at this
            exact this
          have cb := hp.out.c
          have hml : m < 100 := by omega
          have hz := hb.out.size
          clear hjg hno
          by_cases hlr : l.length = r
          · have e1 : ((l.length : Int) == (r : Int)) = true := by rw [beq_iff_eq]; omega
            have hl0 : 0 < l.length := by omega
            have hpo := heapPop (w.heap.size + 1) w.heap.size l (.slice ua l.length uc) wr hp.out (by omega) hl0 hms.out.1 hms.out.2
            have HLR : Hid (l.length = r) := hlr
            have HNM : Hid (∀ l2 : List Co, (l[0] :: l2).Perm l → Nm (l2 ++ [(x, nx)]) ∧ l2.length + 1 = l.length) := (show ∀ _, _ from fun l2 p => ⟨fun z hz => by
              rcases List.mem_append.1 hz with q1 | q1
              · exact hms.out.1 z (p.mem_iff.1 (List.mem_cons_of_mem _ q1))
              · rw [List.mem_singleton.1 q1]; exact htk.out, by have := p.length_eq; rw [List.length_cons] at this; exact this⟩)
            unfold hpI at hpo
            clear hlr
            go_wp2_with fail
            refine (implLen ua l.length uc _).mono ?_
            rintro e w' ⟨rfl, rfl⟩
            go_wp2_with fail
            refine hpo.mono ?_
            rintro e w2 ⟨⟨y, rfl⟩, l2, v2, hp2, hm2, hh2, hb2⟩
            obtain ⟨n1, n2⟩ := HNM.out l2 hm2
            have hpu := heapPush (w.heap.size + 1) w.heap.size l2 v2 (x, nx) w2 hp2 (by omega) n1 hh2
            unfold hpI coV at hpu
            have HM2 : Hid _ := hm2
            have HB2 : Hid (Below w.heap.size w w2) := (show Hid _ from hb.out.trans hb2)
            clear hp2 hm2 hh2 hb2 n1 n2 hpo cb hp hb HNM
            go_wp2_with fail
            refine hpu.mono ?_
            rintro e w3 ⟨rfl, l3, v3, hp3, hm3, hh3, hb3⟩
            have HS3 : Hid (BestSt r O t (k + 1) (m + 1) l3) := K3.out hno2.out HLR.out hl0 l2 HM2.out l3 hm3 hh3
            have HP3 : Hid _ := hp3
            have HB3 : Hid (Below w.heap.size w w3) := (show Hid _ from HB2.out.trans hb3)
            clear hp3 hm3 hh3 hb3 hpu
            go_wp2
            go_roundg go
            case measure => omega
            case rel => exact ⟨k + 1, m + 1, l3, v3, by omega, by go_num, by go_num, HP3, HS3, HB3⟩
          · have e1 : ((l.length : Int) == (r : Int)) = false := by rw [beq_eq_false_iff_ne]; omega
            have HLR : Hid (l.length < r) := (show _ < _ from by omega)
            have n1 : Nm (l ++ [(x, nx)]) := fun z hz => by
              rcases List.mem_append.1 hz with q1 | q1
              · exact hms.out.1 z q1
              · rw [List.mem_singleton.1 q1]; exact htk.out
            have hpu := heapPush (w.heap.size + 1) w.heap.size l _ (x, nx) wr hp.out (by omega) n1 hms.out.2
            unfold hpI coV at hpu
            clear hlr n1
            go_wp2_with fail
            refine (implLen ua l.length uc _).mono ?_
            rintro e w' ⟨rfl, rfl⟩
            go_wp2_with fail
            refine hpu.mono ?_
            rintro e w3 ⟨rfl, l3, v3, hp3, hm3, hh3, hb3⟩
            have HS3 : Hid (BestSt r O t (k + 1) (m + 1) l3) := K2.out hno2.out HLR.out l3 hm3 hh3
            have HP3 : Hid _ := hp3
            have HB3 : Hid (Below w.heap.size w w3) := (show Hid _ from hb.out.trans hb3)
            clear hp3 hm3 hh3 hb3 hpu cb hp hb
            go_wp2
            go_roundg go
            case measure => omega
            case rel => exact ⟨k + 1, m + 1, l3, v3, by omega, by go_num, by go_num, HP3, HS3, HB3⟩
        | succ gi =>
          have hjl : j < l.length := by omega
          have hji : (j : Int) < (l.length : Int) := by omega
          obtain ⟨gr, cap', e⟩ := hp.out.open (by omega)
          injection e with e1 _ e3
          subst e1; subst e3
          obtain ⟨y1, y2⟩ := ownsC_at hp.out.o j hjl
          have cb := hp.out.c
          have hgr := hp.out.o.under gr rfl
          have hbr := hp.out.hi
          have hgb := hp.out.ne gr rfl
          have hgl := hp.out.o.from gr rfl
          have hz := hb.out.size
          have fr := hp.out.o.free rfl
          have KJ : Hid (l[j].1 = x → ∀ l', l'.Perm (l.set j (x, nx)) → isHp l' → BestSt r O t (k + 1) m l') := K1.out j hjl
          have HNJ : Hid (l[j].1 ≠ x → x ∉ (l.take (j + 1)).map Prod.fst) := by
            intro hne
            rw [List.take_succ_eq_append_getElem hjl, List.map_append]
            intro hm
            rcases List.mem_append.1 hm with q1 | q1
            · exact hno.out q1
            · simp at q1
              exact hne q1.symm
          have HPS : Hid (l[j].1 = x → HpB (wr.setCell ⟨gr, j * 2 + 1, none⟩ (.int .i64 nx)) w.heap.size (w.heap.size + 1) (l.set j (x, nx)) (.slice (some ⟨gr, 0, none⟩) l.length uc)) := by
            intro e
            have h1 := hp.out.o.put rfl hjl (i := 1) (by decide) (.int .i64 nx) (x, nx) (by rw [← e]; rfl)
            exact hp.out.grown (grownE_put (grownE_self wr (some gr)) (j * 2 + 1) (.int .i64 nx)) hgb h1
          have HNS : Hid (l[j].1 = x → Nm (l.set j (x, nx))) := by
            intro e z hz
            rcases List.mem_or_eq_of_mem_set hz with q1 | q1
            · exact hms.out.1 z q1
            · rw [q1]; exact htk.out
          generalize l[j] = p at y1 y2 KJ HNJ HPS HNS
          obtain ⟨p1, p2⟩ := p
          dsimp only at y1 y2 KJ HNJ HPS HNS
          by_cases hpx : p1 = x
          · have e1 : (p1 == x) = true := by simpa using hpx
            have HPX : Hid (p1 = x) := hpx
            have hfx := fun W (hW : HpB W w.heap.size (w.heap.size + 1) (l.set j (x, nx)) (.slice (some ⟨gr, 0, none⟩) (l.set j (x, nx)).length uc)) => heapFix (w.heap.size + 1) w.heap.size gr uc j (l.set j (x, nx)) l (x, nx) W rfl hW (by rw [List.length_set]; omega) (by rw [List.length_set]; exact hjl) (HNS.out hpx) hms.out.2
            rw [List.length_set] at hfx
            have hfx1 := hfx ((wr.setCell ⟨gr, j * 2 + 1, none⟩ (.int .i64 nx)).alloc (.cells #[.int .i64 p1, .int .i64 p2] 74)) ((HPS.out hpx).kept ((Below.refl _ _).alloc (Nat.le_refl _) _))
            have HBA : Hid (Below w.heap.size w ((wr.setCell ⟨gr, j * 2 + 1, none⟩ (.int .i64 nx)).alloc (.cells #[.int .i64 p1, .int .i64 p2] 74))) := (show Hid _ from (hb.out.setCell hgl _).alloc (by simp [World.setCell]; exact hz) _)
            unfold hpI at hfx1
            clear hpx K1 K2 K3 hno hu3 hfx HNJ
            go_wp2_with fail
            refine hfx1.mono ?_
            rintro e w3 ⟨rfl, l3, hp3, hm3, hh3, hb3⟩
            have HS3 : Hid (BestSt r O t (k + 1) m l3) := KJ.out HPX.out l3 hm3 hh3
            have HP3 : Hid _ := hp3
            have HB3 : Hid (Below w.heap.size w w3) := (show Hid _ from HBA.out.trans hb3)
            clear hp3 hm3 hh3 hb3 hfx1 HBA HPS HNS KJ
            go_wp2
            go_roundg go
            case measure => omega
            case rel => exact ⟨k + 1, m, l3, _, by omega, by go_num, rfl, HP3, HS3, HB3⟩
          · have e1 : (p1 == x) = false := by simpa using hpx
            have HN2 : Hid _ := HNJ.out hpx
            have HPA : Hid (HpB (wr.alloc (.cells #[.int .i64 p1, .int .i64 p2] 74)) w.heap.size (w.heap.size + 1) l (.slice (some ⟨gr, 0, none⟩) l.length uc)) := hp.out.kept ((Below.refl _ _).alloc (Nat.le_refl _) _)
            have HBA : Hid (Below w.heap.size w (wr.alloc (.cells #[.int .i64 p1, .int .i64 p2] 74))) := (show Hid _ from hb.out.alloc hz _)
            clear hpx KJ HPS HNS HNJ
            go_wp2
            go_roundg gi
            case measure => omega
            case rel => exact ⟨j + 1, by omega, by go_num, HN2, HPA, HBA⟩
theorem implBest (v : Value) (t : List Int) (r : Int) (w : World) (h : Sls numE w v t) (hlen : t.length ≤ 1048576) :
    Calls Try.prog 24 #[v, .int .i64 r] w fun e w' => e = .returned (.int .i64 (bestA t r)) ∧ Below w.heap.size w w' := by
  cases hb : toldB t r with
  | true =>
    have hr := (toldB_parts hb).2.1
    obtain ⟨n, rfl⟩ : ∃ n : Nat, r = (n : Int) := ⟨r.toNat, by omega⟩
    have e : bestA t (n : Int) = (opt n t [] : Int) := by unfold bestA; rw [if_pos hb, Int.toNat_natCast]
    rw [e]
    exact implBestIn v t n w h hb
  | false =>
    have HT := implTrc _ t w h
    have HO := implRom r w
    have HR : Hid (-1 = bestA t r) := by show _ = _; unfold bestA; rw [if_neg (by simp [hb])]
    obtain ⟨a, cap, rfl, _⟩ := h.one
    rw [told_trc] at hb
    generalize trcB t = b1 at HT hb
    generalize inM r 1 10 = b2 at HO hb
    cases b1 with
    | false =>
      clear HO hb
      go_enter Try.func24, Try.ntmps24
      go_wp2
      go_step3
      go_wp2_with (go_at_call 53; refine HT.mono ?_; rintro e w' ⟨rfl, rfl⟩)
      try rw [Exit.noGoto_ret]
      go_ret
      exact ⟨congrArg (fun z => Ending.returned (.int .i64 z)) HR.out, Below.refl _ _⟩
    | true =>
      obtain rfl : b2 = false := by simpa using hb
      go_enter Try.func24, Try.ntmps24
      go_wp2
      go_step3
      go_wp2_with (first | (go_at_call 53; refine HT.mono ?_; rintro e w' ⟨rfl, rfl⟩) | (go_at_call 54; refine HO.mono ?_; rintro e w' ⟨rfl, rfl⟩))
      try rw [Exit.noGoto_ret]
      go_ret
      exact ⟨congrArg (fun z => Ending.returned (.int .i64 z)) HR.out, Below.refl _ _⟩
end Go.Proofs.Ytnnmbgenepfacaa
